/- spun: pieces that are spun on, bar by bar. -/
import Derived.Test.YtmjelgonhpgmbaaUC
import Derived.Test.YtmjelgonhpgmbaaInv
import Derived.Test.YtmjelgonhpgmbaaMS
import Derived.Test.YtmjelgonhpgmbaaMT
set_option linter.unusedSimpArgs false
set_option linter.unusedVariables false
namespace Go.Proofs.Ytmjelgonhpgmbaa
open Go Go.RowKit Go.Shelf

/-- One box that is made by 11 and filled by 12. -/
def boxJ (w0 : World) (T : TypeId) (zs as_ : Array Value) : InvJ := fun L x u => Ext w0 u ∧
  (L 11 = true → ∃ g, x 11 = .pointer (some ⟨g, 0, none⟩) ∧ w0.heap.size ≤ g ∧ (L 12 = false → u.heap[g]? = some (.cells zs T (0, 0))) ∧ (L 12 = true → u.heap[g]? = some (.cells as_ T (0, 0)))) ∧ (L 12 = true → L 11 = true)
theorem boxJ_start (w0 : World) (T : TypeId) (zs as_ : Array Value) : boxJ w0 T zs as_ (fun _ => false) (fun _ => undef) { w0 with drawn := w0.drawn + 1 } :=
  ⟨Ext.drawn _, (fun h => by cases h), fun h => by cases h⟩
section
variable {w0 u u' : World} {T : TypeId} {zs as_ : Array Value} {L : Nat → Bool} {x : Nat → Value}
theorem boxJ_ext (h : boxJ w0 T zs as_ L x u) (hx : Ext u u') : boxJ w0 T zs as_ L x u' :=
  ⟨h.1.trans hx, fun q => by obtain ⟨g, h1, h2, h3, h4⟩ := h.2.1 q; exact ⟨g, h1, h2, fun r => hx.block (h3 r), fun r => hx.block (h4 r)⟩, h.2.2⟩
theorem boxJ_make (h : boxJ w0 T zs as_ L x u) (hL : L 11 = false) : boxJ w0 T zs as_ (updL L 11) (updX x 11 (.pointer (some ⟨u.heap.size, 0, none⟩))) (u.alloc (.cells zs T)) := by
  have h12 : L 12 = false := by
    cases q : L 12 with
    | false => rfl
    | true => rw [h.2.2 q] at hL; cases hL
  refine ⟨h.1.alloc _, fun _ => ⟨u.heap.size, rfl, h.1.size, fun _ => Ext.new (Ext.refl _), fun q => ?_⟩, fun _ => rfl⟩
  rw [show (updL L 11) 12 = L 12 from rfl, h12] at q; cases q
end

def bArr (u : Nat → Bool) (n : Nat) : Array Value := ((List.range n).map fun c => Value.bool (u c)).toArray
theorem bArr_get {u : Nat → Bool} {n k : Nat} (h : k < n) : (bArr u n)[k]? = some (.bool (u k)) := by simp [bArr, h]
theorem bArr_set (u : Nat → Bool) {n k : Nat} (h : k < n) : (bArr u n).setIfInBounds k (.bool true) = bArr (fun j => if j = k then true else u j) n := by
  apply Array.ext
  · simp [bArr]
  · intro j h1 h2
    simp only [bArr, List.setIfInBounds_toArray, List.getElem_toArray, List.getElem_set, List.getElem_map, List.getElem_range]
    by_cases e : k = j
    · rw [if_pos e, if_pos e.symm]
    · rw [if_neg e, if_neg fun h => e h.symm]
theorem made_bools (n : Nat) : madeCells #[.bool false] n = bArr (fun _ => false) n := by
  apply Array.ext_getElem?
  intro j
  by_cases hj : j < n
  · rw [bArr_get hj]; simp [madeCells, hj, Nat.mod_one]
  · simp [madeCells, bArr, hj]
theorem info4 : (Try.prog.info? 4).map (fun i => (i.zero, i.size, i.bytes)) = some (some (.bool false), 1, 1) := by kernel_rfl
theorem make_bools (w : World) (n : Nat) (hn : n ≤ 1000) : (Instr.makeSlice 138 (.int .i64 n) (.int .i64 n)).run Try.prog w = .ok (.slice (some ⟨w.heap.size, 0, none⟩) n n) (w.alloc (.cells (bArr (fun _ => false) n) 4)) := by
  obtain ⟨i0, hi, hz0, hz1, hz2⟩ := info_parts info4
  have := run_make (P := Try.prog) w 138 4 i0 (.bool false) Try.underlying138 hi hz0 .i64 .i64 n n (by omega) (by omega) (by rw [hz2]; omega) (by omega)
  rw [this]; simp [hz1, Value.cells, made_bools]
def qTwo (n0 : Nat) (a b : Int) (v : Value) (u : World) : Prop := ∃ g, v = .slice (some ⟨g, 0, none⟩) 2 2 ∧ u.heap[g]? = some (.cells #[.int .i64 a, .int .i64 b] 3 (0, 0)) ∧ n0 ≤ g
theorem qTwo_s (n0 : Nat) (a b : Int) : ∀ v u u', qTwo n0 a b v u → Ext u u' → qTwo n0 a b v u' := fun _ _ _ ⟨g, h1, h2, h3⟩ hx => ⟨g, h1, hx.block h2, h3⟩
def lenV : Value → Nat
  | .slice _ n _ => n
  | _ => 0
/-- What the spinning has so far: the pieces, and those bars that are used. -/
structure SpQ (T : TornD) (u : Nat → Bool) (qs : List (List Int × List Nat)) (is : List Nat) : Prop where
  good : ∀ q ∈ qs, Tw.Way T.bars q.1 q.2 ∧ 2 ≤ q.1.length
  nodup : (qs.flatMap (·.2) ++ is).Nodup
  used : ∀ i, i < T.bars.length → (u i = true ↔ i ∈ qs.flatMap (·.2) ++ is)
  lt : ∀ i ∈ qs.flatMap (·.2) ++ is, i < T.bars.length
theorem SpQ.use {T : TornD} {u : Nat → Bool} {qs : List (List Int × List Nat)} {is : List Nat} (h : SpQ T u qs is) {k : Nat} (hk : k < T.bars.length) (hu : u k = false) : SpQ T (fun j => if j = k then true else u j) qs (is ++ [k]) := by
  have hm : k ∉ qs.flatMap (·.2) ++ is := fun e => by rw [(h.used k hk).2 e] at hu; cases hu
  refine ⟨h.good, ?_, fun i hi => ?_, fun i hi => ?_⟩
  · rw [← List.append_assoc]
    refine List.nodup_append.2 ⟨h.nodup, by simp, fun a ha b hb e => ?_⟩
    simp at hb; subst hb; exact hm (e ▸ ha)
  · rw [← List.append_assoc, List.mem_append, List.mem_singleton]
    by_cases e : i = k
    · subst e; simp
    · rw [if_neg e, h.used i hi]; simp [e]
  · rw [← List.append_assoc] at hi
    rcases List.mem_append.1 hi with hi | hi
    · exact h.lt i hi
    · simp at hi; omega
theorem SpQ.close {T : TornD} {u : Nat → Bool} {qs : List (List Int × List Nat)} {is : List Nat} {p : List Int} (h : SpQ T u qs is) (hw : Tw.Way T.bars p is) (h2 : 2 ≤ p.length) : SpQ T u (qs ++ [(p, is)]) [] := by
  have e : (qs ++ [(p, is)]).flatMap (·.2) ++ [] = qs.flatMap (·.2) ++ is := by rw [List.flatMap_append]; simp
  refine ⟨fun q hq => ?_, by rw [e]; exact h.nodup, fun i hi => by rw [e]; exact h.used i hi, fun i hi => by rw [e] at hi; exact h.lt i hi⟩
  rcases List.mem_append.1 hq with hq | hq
  · exact h.good q hq
  · simp at hq; subst hq; exact ⟨hw, h2⟩
theorem SpQ.len {T : TornD} {u : Nat → Bool} {qs : List (List Int × List Nat)} {is : List Nat} (h : SpQ T u qs is) : is.length ≤ T.bars.length ∧ qs.length ≤ T.bars.length := by
  have h1 := nodup_len _ (List.range T.bars.length) h.nodup fun i hi => List.mem_range.2 (h.lt i hi)
  rw [List.length_range, List.length_append] at h1
  have : ∀ qs : List (List Int × List Nat), (∀ q ∈ qs, Tw.Way T.bars q.1 q.2 ∧ 2 ≤ q.1.length) → qs.length ≤ (qs.flatMap (·.2)).length := fun qs => by
    induction qs with
    | nil => intro _; simp
    | cons q qs ih =>
      intro hg
      have a := Tw.way_two (hg q (by simp)).1
      have b := (hg q (by simp)).2
      have c := ih fun r hr => hg r (by simp [hr])
      rw [List.flatMap_cons, List.length_append, List.length_cons]
      omega
  have := this qs h.good
  omega
structure SpW (T : TornD) (w wr : World) (sa : Option Addr) (sc nb : Nat) (v : Value) (u : Nat → Bool) (qs : List (List Int × List Nat)) : Prop where
  ext : Ext w wr
  box : wr.heap[w.heap.size]? = some (.cells #[.int .i64 T.wide, .int .i64 T.high, .slice sa T.bars.length sc, .int .i64 T.mesh, .int .i64 T.knot] 24 (0, 0))
  left : wr.heap[w.heap.size + 1]? = some (.cells (bArr u T.bars.length) 4 (0, 0))
  top : nb ≤ wr.heap.size
  low : w.heap.size + 1 < nb
  pcs : PcsAt wr (w.heap.size + 2) nb v (qs.map (·.1))
theorem SpW.mono {T : TornD} {w wr wr' : World} {sa : Option Addr} {sc nb : Nat} {v : Value} {u : Nat → Bool} {qs : List (List Int × List Nat)} (h : SpW T w wr sa sc nb v u qs) (hx : Ext wr wr') : SpW T w wr' sa sc nb v u qs :=
  ⟨h.ext.trans hx, hx.block h.box, hx.block h.left, Nat.le_trans h.top hx.size, h.low, h.pcs.ext hx⟩
theorem SpW.use {T : TornD} {w wr : World} {sa : Option Addr} {sc nb : Nat} {v : Value} {u : Nat → Bool} {qs : List (List Int × List Nat)} (h : SpW T w wr sa sc nb v u qs) {k : Nat} (hk : k < T.bars.length) : SpW T w (wr.setCell ⟨w.heap.size + 1, k, none⟩ (.bool true)) sa sc nb v (fun j => if j = k then true else u j) qs := by
  refine ⟨h.ext.set (by omega) _ _, by rw [set_other (by omega)]; exact h.box, ?_, by simpa using h.top, h.low, ?_⟩
  · rw [set_same h.left, bArr_set u hk]
  · exact h.pcs.kept (Nat.le_refl _) (fun k o hk ho => by rw [set_other (by omega)]; exact ho) (fun k cs ho => by
      rw [set_other (fun e => by rw [e, h.left] at ho; injection ho with ho; injection ho with _ ho; cases ho)]; exact ho)
/-- The piece that is spun on. -/
structure SpP (T : TornD) (w wr : World) (nb : Nat) (pv : Value) (p : List Int) (is : List Nat) : Prop where
  row : Row wr 3 1 pv p.length (intsV p)
  own : ∀ g, pv.ownBlock = some g → nb ≤ g
  way : Tw.Way T.bars p is
  two : 2 ≤ p.length
theorem row_last {w : World} {v : Value} {p : List Int} (h : Row w 3 1 v p.length (intsV p)) (h2 : 2 ≤ p.length) : ∃ p' e g cap cur, p = p' ++ [e] ∧ v = .slice (some ⟨g, 0, none⟩) (p'.length + 1) cap ∧ w.heap[g]? = some (.cells cur 3 (0, 0)) ∧ cur[p'.length]? = some (.int .i64 e) := by
  obtain ⟨h1, h3⟩ := h
  rcases h3 with ⟨_, h0⟩ | ⟨g, cap, cur, rfl, hg, hc, _, _, ht⟩
  · omega
  · have hsp : p = p.take (p.length - 1) ++ [p[p.length - 1]] := by
      conv => lhs; rw [← List.take_length (l := p), show p.length = p.length - 1 + 1 by omega, List.take_succ_eq_append_getElem (by omega)]
    have hl : (p.take (p.length - 1)).length = p.length - 1 := by rw [List.length_take]; omega
    refine ⟨p.take (p.length - 1), p[p.length - 1], g, cap, cur, hsp, by rw [hl, show p.length - 1 + 1 = p.length by omega], hg, ?_⟩
    rw [hl, ← Array.getElem?_toList]
    have : (intsV p)[p.length - 1]? = some (.int .i64 p[p.length - 1]) := by unfold intsV; rw [List.getElem?_map, List.getElem?_eq_getElem (by omega)]; rfl
    rw [← this, ← ht, List.getElem?_take, if_pos (by omega)]
theorem row_own_lt {w : World} {T : TypeId} {sz : Nat} {v : Value} {n : Nat} {xs : List Value} (h : Row w T sz v n xs) : ∀ g, v.ownBlock = some g → g < w.heap.size := by
  obtain ⟨_, h⟩ := h
  rcases h with ⟨rfl, _⟩ | ⟨g, cap, cur, rfl, hg, _⟩
  · intro g e; simp [Value.ownBlock] at e
  · intro g' e; simp [Value.ownBlock] at e; subst e; exact lt_of_block hg
theorem SpW.grow {T : TornD} {w wr w' : World} {sa : Option Addr} {sc nb : Nat} {v : Value} {u : Nat → Bool} {qs : List (List Int × List Nat)} (h : SpW T w wr sa sc nb v u qs) {ob : Option Nat} (hob : ∀ g, ob = some g → nb ≤ g) (hty : ∀ g, ob = some g → ∀ o, wr.heap[g]? = some o → ∃ cs fz, o = .cells cs 3 fz) (hg : wr.grownBy w' ob) : SpW T w w' sa sc nb v u qs := by
  have hl := h.low
  refine ⟨Below.trans h.ext ⟨hg.os, hg.tape, hg.output, hg.size, fun j hj => hg.block j (Nat.lt_of_lt_of_le hj h.ext.size) (fun e => by have := hob j e.symm; omega)⟩, grownBy_block hg h.box (fun e => by have := hob _ e.symm; omega), grownBy_block hg h.left (fun e => by have := hob _ e.symm; omega), Nat.le_trans h.top hg.size, h.low, h.pcs.grow _ hob hty hg⟩
theorem SpW.push {T : TornD} {w wr w' : World} {sa : Option Addr} {sc nb : Nat} {v v' : Value} {u : Nat → Bool} {qs : List (List Int × List Nat)} (h : SpW T w wr sa sc nb v u qs) {p : List Int} {is : List Nat} (hp : PcsAt w' (w.heap.size + 2) wr.heap.size v' (qs.map (·.1) ++ [p])) (hg : wr.grownBy w' v.ownBlock) : SpW T w w' sa sc wr.heap.size v' u (qs ++ [(p, is)]) := by
  have hl := h.low
  have hne : ∀ j (o : Obj), wr.heap[j]? = some o → (∀ cs fz, o ≠ .cells cs 41 fz) → w'.heap[j]? = some o := fun j o ho hty => grownBy_block hg ho fun e => by
    obtain ⟨⟨vals, h1, h2, h3⟩, h4⟩ := h.pcs
    obtain ⟨cs, fz, e'⟩ := row_ty h2 e.symm ho
    exact hty _ _ e'
  refine ⟨Below.trans h.ext ⟨hg.os, hg.tape, hg.output, hg.size, fun j hj => hg.block j (Nat.lt_of_lt_of_le hj h.ext.size) (fun e => by have := h.pcs.own j e.symm; omega)⟩, hne _ _ h.box (fun cs fz e => by cases e), hne _ _ h.left (fun cs fz e => by cases e), hg.size, by have := h.top; omega, by rw [List.map_append]; exact hp⟩
def slotOf (n : Int) (l k : Nat) : Nat := (modI (modI n l + k) l).toNat
theorem slot_lt (n : Int) {l k : Nat} (hl : 0 < l) : slotOf n l k < l ∧ ((slotOf n l k : Nat) : Int) = modI (modI n l + k) l := by
  have := modI_ok (modI n l + k) (m := l) (by omega)
  unfold slotOf; omega
theorem slot_all (n : Int) {l j : Nat} (hj : j < l) : ∃ k, k < l ∧ slotOf n l k = j := by
  have h0 := modI_ok n (m := l) (by omega)
  refine ⟨(((j : Int) - modI n l) % l).toNat, ?_, ?_⟩
  · have := Int.emod_lt_of_pos ((j : Int) - modI n l) (show (0 : Int) < l by omega)
    have := Int.emod_nonneg ((j : Int) - modI n l) (show (l : Int) ≠ 0 by omega)
    omega
  · have h1 := Int.emod_nonneg ((j : Int) - modI n l) (show (l : Int) ≠ 0 by omega)
    have e : ((((j : Int) - modI n l) % l).toNat : Int) = ((j : Int) - modI n l) % l := by omega
    unfold slotOf
    rw [e, modI_pos (by omega) (by omega), Int.add_emod, Int.emod_emod, ← Int.add_emod]
    rw [show modI n l + ((j : Int) - modI n l) = j by omega, Int.emod_eq_of_lt (by omega) (by omega)]
    omega
theorem mends_all {T : TornD} {u : Nat → Bool} {qs : List (List Int × List Nat)} (h : SpQ T u qs []) {n : Int} (ha : ∀ k, k < T.bars.length → u (slotOf n T.bars.length k) = true) : Tw.Mends T.bars qs := by
  refine ⟨h.good, by simpa using h.nodup, fun i hi => ?_⟩
  obtain ⟨k, hk, e⟩ := slot_all n hi
  have := (h.used i hi).1 (by rw [← e]; exact ha k hk)
  simpa using this
def SpunR (T : TornD) (w : World) (e : Ending) (w' : World) : Prop := ∃ v qs, e = .returned v ∧ Ext w w' ∧ PcsAt w' w.heap.size w'.heap.size v (qs.map (·.1)) ∧ Tw.Mends T.bars qs

set_option maxRecDepth 100000 in
set_option maxHeartbeats 16000000 in
theorem spun_any (T : TornD) (hT : tornB T = true) (n : Int) (sv : Value) (w : World) (hs : SpansAt w sv T.bars) : Cal 39 #[.agg #[.int .i64 T.wide, .int .i64 T.high, sv, .int .i64 T.mesh, .int .i64 T.knot], .int .i64 n] w (SpunR T w) := by
  have ok := torn_ok hT
  have hlen := ok.2.2.2.2.1
  have hB := (torn_told hT).2.1
  have hm := mul_36 ok.1 ok.2.1
  have HBD := hid (fun (i : Nat) (hi : i < T.bars.length) => Tw.bars_at hB i hi)
  have HSP := hid hs
  obtain ⟨sa, sc, rfl, hsl, hcs⟩ := hs
  have HCS := hid hcs
  have hmk := fun (u : World) => make_bools u T.bars.length (by omega)
  clear hcs ok hB
  gi_enter Try.func39, Try.ntmps39
  gi_upto_region 3 with fail
  have hW : SpW T w ((w.alloc (.cells #[.int .i64 T.wide, .int .i64 T.high, .slice sa T.bars.length sc, .int .i64 T.mesh, .int .i64 T.knot] 24)).alloc (.cells (bArr (fun _ => false) T.bars.length) 4)) sa sc ((w.alloc (.cells #[.int .i64 T.wide, .int .i64 T.high, .slice sa T.bars.length sc, .int .i64 T.mesh, .int .i64 T.knot] 24)).alloc (.cells (bArr (fun _ => false) T.bars.length) 4)).heap.size (.slice none 0 0) (fun _ => false) [] :=
    ⟨((Ext.refl _).alloc _).alloc _, by simp only [alloc_at, World.size_alloc]; (repeat rw [if_neg (by omega)]); first | rfl | rw [if_pos (by omega)] | rw [if_pos trivial], by simp only [alloc_at, World.size_alloc]; (repeat rw [if_neg (by omega)]); first | rfl | rw [if_pos (by omega)] | rw [if_pos trivial], Nat.le_refl _, by simp, PcsAt.nil _ _ _⟩
  generalize (w.alloc (.cells #[.int .i64 T.wide, .int .i64 T.high, .slice sa T.bars.length sc, .int .i64 T.mesh, .int .i64 T.knot] 24)).alloc (.cells (bArr (fun _ => false) T.bars.length) 4) = W at *
  have HJ : Hid (∃ nb u qs, SpW T w W sa sc nb (.slice none 0 0) u qs ∧ SpQ T u qs [] ∧ ∀ i', i' < 0 → u (slotOf n T.bars.length i') = true) := ⟨_, _, _, hW, ⟨(fun q hq => by cases hq), by simp, fun i hi => by simp, fun i hi => by simp at hi⟩, fun i hi => absurd hi (by omega)⟩
  clear hW hmk
  gi_wp2_with fail
  gi_loopw [5, 7] (fun v iv wr => ∃ k : Nat, k ≤ T.bars.length ∧ iv = .int .i64 k ∧ Hid (∃ nb u qs, SpW T w wr sa sc nb v u qs ∧ SpQ T u qs [] ∧ ∀ i', i' < k → u (slotOf n T.bars.length i') = true)) (fun _ iv _ => T.bars.length - (intOf iv).toNat)
  case atStart => exact ⟨0, Nat.zero_le _, rfl, HJ.out⟩
  case round =>
    obtain ⟨k, hk, rfl, HI⟩ := hrel
    clear HJ
    by_cases hlt : k < T.bars.length
    case neg =>
      obtain rfl : k = T.bars.length := by omega
      obtain ⟨nb, u, qs, hw, hq, ha⟩ := HI.out
      have HE := hid (And.intro hw.ext (And.intro (hw.pcs.le hw.top) (mends_all hq ha)))
      have c0 := cell_of hw.box
      clear HI hw hq ha
      gi_wp2_with fail
      go_ret
      exact ⟨_, _, rfl, HE.out.1, ⟨HE.out.2.1.vals, fun g hg => by have := HE.out.2.1.own g hg; omega⟩, HE.out.2.2⟩
    case pos =>
      obtain ⟨nb, u, qs, hw, hq, ha⟩ := HI.out
      clear HI
      have hsl0 := slot_lt n (l := T.bars.length) (k := k) (by omega)
      have hmo := modI_ok n (m := T.bars.length) (by omega)
      have HM1 := hid (fun z => mod_any n T.bars.length z (by omega))
      have HM2 := hid (fun z => mod_any (modI n T.bars.length + k) T.bars.length z (by omega))
      rw [← hsl0.2] at HM2
      obtain ⟨κ, hκ⟩ : ∃ κ, κ = slotOf n T.bars.length k := ⟨_, rfl⟩
      rw [← hκ] at HM2 hsl0
      have HKP := hid hκ
      have hκl := hsl0.1
      clear hsl0 hκ
      generalize modI n T.bars.length = m0 at *
      obtain ⟨rb, off, rfl, hrb, _⟩ := HCS.out k hlt
      have HRB := hid hrb
      have HCL : Hid (∀ i (h : i < T.bars.length), w.cell? ⟨rb, off + i * 2, none⟩ = some (.int .i64 T.bars[i].lo) ∧ w.cell? ⟨rb, off + i * 2 + 1, none⟩ = some (.int .i64 T.bars[i].hi)) := fun i h => by
        obtain ⟨rb', off', he, _, h0, h1⟩ := HCS.out i h
        cases he
        exact ⟨h0, h1⟩
      clear hrb
      have HW := hid hw
      have HQ := hid hq
      have HA := hid ha
      clear hw hq ha
      have c0 := cell_of HW.out.box
      have hki : (k : Int) < T.bars.length := by omega
      gi_wp2_with fail
      clear c0
      have q0 := fun e : Later wr => cell_of (Ext.block e.grown HW.out.box)
      refine quiet_wide 12 (by kernel_rfl) (by kernel_rfl) ?_
      simp only [List.take_succ_cons, List.take_zero, List.drop_succ_cons, List.drop_zero]
      repeat (any_goals (first | go_big_quiet_step ((first | (go_at_call 34; with_reducible exact Cal.quiet_same (HM1.out _)) | (go_at_call 34; with_reducible exact Cal.quiet_same (HM2.out _)))) | quiet_step ((first | (go_at_call 34; with_reducible exact Cal.quiet_same (HM1.out _)) | (go_at_call 34; with_reducible exact Cal.quiet_same (HM2.out _))))))
      refine wpQuiet_nil ?_
      rintro w5 ⟨⟨w5q, hx5⟩, hew⟩
      obtain rfl : w5 = w5q := hew
      have hx5 : Ext wr w5 := hx5
      clear q0 HM1 HM2
      have HW := hid (HW.out.mono hx5)
      clear hx5
      have hκi : (κ : Int) < T.bars.length := by omega
      by_cases hu : u κ = true
      case pos =>
        have d0 : w5.cell? ⟨w.heap.size + 1, κ, none⟩ = some (.bool true) := by rw [cell_of HW.out.left, bArr_get hκl, hu]
        have HU := hid hu
        clear hu
        gi_wp2_with fail
        clear d0
        go_roundw
        case rel =>
          refine ⟨k + 1, by omega, by go_num, nb, u, qs, HW.out, HQ.out, fun i' hi' => ?_⟩
          rcases Nat.lt_or_ge i' k with h' | h'
          · exact HA.out i' h'
          · obtain rfl : i' = k := by omega
            rw [← HKP.out]; exact HU.out
        case measure => simp [intOf]; omega
      case neg =>
        have hu : u κ = false := by simpa using hu
        have d0 : w5.cell? ⟨w.heap.size + 1, κ, none⟩ = some (.bool false) := by rw [cell_of HW.out.left, bArr_get hκl, hu]
        have f0 := free_of HW.out.left
        have HW6 := hid (HW.out.use hκl)
        have HQ6 := hid (HQ.out.use hκl hu)
        obtain ⟨u6, hu6⟩ : ∃ u6, u6 = fun j => if j = κ then true else u j := ⟨_, rfl⟩
        have HUK : Hid (u6 κ = true) := by show _ = _; rw [hu6]; exact if_pos rfl
        have HA6 : Hid (∀ i', i' < k → u6 (slotOf n T.bars.length i') = true) := fun i' hi' => by
          rw [hu6]
          show (if _ then true else _) = true
          split
          · rfl
          · exact HA.out i' hi'
        rw [← hu6] at HW6 HQ6
        clear hu HA HQ hu6
        gi_wp2_with fail
        clear d0 f0
        generalize w5.setCell ⟨w.heap.size + 1, κ, none⟩ (.bool true) = w6 at *
        clear HW
        have hbd := HBD.out κ hκl
        rw [getD_of hκl] at hbd
        have HSK := hid (HCL.out κ hκl)
        have HGD : Hid (T.bars.getD κ ⟨0, 0⟩ = T.bars[κ]) := getD_of hκl
        generalize T.bars[κ] = s at *
        obtain ⟨lo, hi⟩ := s
        simp only at *
        refine lex_wide 14 [(12, qTwo w6.heap.size lo hi), (13, qTwo w6.heap.size lo hi)] (by kernel_rfl) (by kernel_rfl) (nStab_cons (qTwo_s _ _ _) (nStab_cons (qTwo_s _ _ _) nStab_nil)) ?_
        simp only [List.take_succ_cons, List.take_zero, List.drop_succ_cons, List.drop_zero]
        apply lex_fun (rfl : psAt _ _ = none)
        · intro x z hR hf
          have e0 := cell_of (hR.block HW6.out.box)
          have e1 := (((HW6.out.ext.trans hR).cell (p := ⟨rb, _, none⟩) HRB.out).trans HSK.out.1)
          have e2 := (((HW6.out.ext.trans hR).cell (p := ⟨rb, _, none⟩) HRB.out).trans HSK.out.2)
          clear hR hf
          go_simp
          exact ⟨rfl, Ext.refl _⟩
        simp only [Act.put, List.setIfInBounds_toArray, List.set_cons_succ, List.set_cons_zero]
        apply lex_fun (rfl : psAt _ _ = none)
        · intro x z hR hf
          have e0 := cell_of (hR.block HW6.out.box)
          have e1 := (((HW6.out.ext.trans hR).cell (p := ⟨rb, _, none⟩) HRB.out).trans HSK.out.1)
          have e2 := (((HW6.out.ext.trans hR).cell (p := ⟨rb, _, none⟩) HRB.out).trans HSK.out.2)
          clear hR hf
          go_simp
          exact ⟨rfl, Ext.refl _⟩
        simp only [Act.put, List.setIfInBounds_toArray, List.set_cons_succ, List.set_cons_zero]
        apply lex_fun (rfl : psAt _ _ = none)
        · intro x z hR hf
          have e0 := cell_of (hR.block HW6.out.box)
          have e1 := (((HW6.out.ext.trans hR).cell (p := ⟨rb, _, none⟩) HRB.out).trans HSK.out.1)
          have e2 := (((HW6.out.ext.trans hR).cell (p := ⟨rb, _, none⟩) HRB.out).trans HSK.out.2)
          clear hR hf
          go_simp
          exact ⟨rfl, Ext.refl _⟩
        simp only [Act.put, List.setIfInBounds_toArray, List.set_cons_succ, List.set_cons_zero]
        apply lex_fun (rfl : psAt _ _ = none)
        · intro x z hR hf
          have e0 := cell_of (hR.block HW6.out.box)
          have e1 := (((HW6.out.ext.trans hR).cell (p := ⟨rb, _, none⟩) HRB.out).trans HSK.out.1)
          have e2 := (((HW6.out.ext.trans hR).cell (p := ⟨rb, _, none⟩) HRB.out).trans HSK.out.2)
          clear hR hf
          go_simp
          exact ⟨rfl, Ext.refl _⟩
        simp only [Act.put, List.setIfInBounds_toArray, List.set_cons_succ, List.set_cons_zero]
        apply lex_fun (rfl : psAt _ _ = none)
        · intro x z hR hf
          have e0 := cell_of (hR.block HW6.out.box)
          have e1 := (((HW6.out.ext.trans hR).cell (p := ⟨rb, _, none⟩) HRB.out).trans HSK.out.1)
          have e2 := (((HW6.out.ext.trans hR).cell (p := ⟨rb, _, none⟩) HRB.out).trans HSK.out.2)
          clear hR hf
          go_simp
          exact ⟨rfl, Ext.refl _⟩
        simp only [Act.put, List.setIfInBounds_toArray, List.set_cons_succ, List.set_cons_zero]
        apply lex_fun (rfl : psAt _ _ = none)
        · intro x z hR hf
          have e0 := cell_of (hR.block HW6.out.box)
          have e1 := (((HW6.out.ext.trans hR).cell (p := ⟨rb, _, none⟩) HRB.out).trans HSK.out.1)
          have e2 := (((HW6.out.ext.trans hR).cell (p := ⟨rb, _, none⟩) HRB.out).trans HSK.out.2)
          clear hR hf
          go_simp
          exact ⟨rfl, Ext.refl _⟩
        simp only [Act.put, List.setIfInBounds_toArray, List.set_cons_succ, List.set_cons_zero]
        apply lex_fun (rfl : psAt _ _ = none)
        · intro x z hR hf
          have e0 := cell_of (hR.block HW6.out.box)
          have e1 := (((HW6.out.ext.trans hR).cell (p := ⟨rb, _, none⟩) HRB.out).trans HSK.out.1)
          have e2 := (((HW6.out.ext.trans hR).cell (p := ⟨rb, _, none⟩) HRB.out).trans HSK.out.2)
          clear hR hf
          go_simp
          exact ⟨rfl, Ext.refl _⟩
        simp only [Act.put, List.setIfInBounds_toArray, List.set_cons_succ, List.set_cons_zero]
        apply lex_fun (rfl : psAt _ _ = none)
        · intro x z hR hf
          have e0 := cell_of (hR.block HW6.out.box)
          have e1 := (((HW6.out.ext.trans hR).cell (p := ⟨rb, _, none⟩) HRB.out).trans HSK.out.1)
          have e2 := (((HW6.out.ext.trans hR).cell (p := ⟨rb, _, none⟩) HRB.out).trans HSK.out.2)
          clear hR hf
          go_simp
          exact ⟨rfl, Ext.refl _⟩
        simp only [Act.put, List.setIfInBounds_toArray, List.set_cons_succ, List.set_cons_zero]
        apply lex_fun (rfl : psAt _ _ = none)
        · intro x z hR hf
          have e0 := cell_of (hR.block HW6.out.box)
          have e1 := (((HW6.out.ext.trans hR).cell (p := ⟨rb, _, none⟩) HRB.out).trans HSK.out.1)
          have e2 := (((HW6.out.ext.trans hR).cell (p := ⟨rb, _, none⟩) HRB.out).trans HSK.out.2)
          clear hR hf
          go_simp
          exact ⟨rfl, Ext.refl _⟩
        simp only [Act.put, List.setIfInBounds_toArray, List.set_cons_succ, List.set_cons_zero]
        apply lex_fun (rfl : psAt _ _ = none)
        · intro x z hR hf
          have e0 := cell_of (hR.block HW6.out.box)
          have e1 := (((HW6.out.ext.trans hR).cell (p := ⟨rb, _, none⟩) HRB.out).trans HSK.out.1)
          have e2 := (((HW6.out.ext.trans hR).cell (p := ⟨rb, _, none⟩) HRB.out).trans HSK.out.2)
          clear hR hf
          go_simp
          exact ⟨rfl, Ext.refl _⟩
        simp only [Act.put, List.setIfInBounds_toArray, List.set_cons_succ, List.set_cons_zero]
        apply lex_fun (rfl : psAt _ _ = none)
        · intro x z hR hf
          have e0 := cell_of (hR.block HW6.out.box)
          have e1 := (((HW6.out.ext.trans hR).cell (p := ⟨rb, _, none⟩) HRB.out).trans HSK.out.1)
          have e2 := (((HW6.out.ext.trans hR).cell (p := ⟨rb, _, none⟩) HRB.out).trans HSK.out.2)
          clear hR hf
          go_simp
          exact ⟨rfl, Ext.refl _⟩
        simp only [Act.put, List.setIfInBounds_toArray, List.set_cons_succ, List.set_cons_zero]
        apply lex_fun (rfl : psAt _ _ = none)
        · intro x z hR hf
          have e0 := cell_of (hR.block HW6.out.box)
          have e1 := (((HW6.out.ext.trans hR).cell (p := ⟨rb, _, none⟩) HRB.out).trans HSK.out.1)
          have e2 := (((HW6.out.ext.trans hR).cell (p := ⟨rb, _, none⟩) HRB.out).trans HSK.out.2)
          clear hR hf
          go_simp
          exact ⟨rfl, Ext.refl _⟩
        simp only [Act.put, List.setIfInBounds_toArray, List.set_cons_succ, List.set_cons_zero]
        refine lex_pred (p := qTwo w6.heap.size lo hi) rfl ?_ ?_
        · intro x z hR hf
          have hz := hR.size
          clear hR hf
          go_simp
          exact ⟨⟨_, rfl, Ext.new (Ext.refl _), hz⟩, (Ext.refl _).alloc _⟩
        simp only [Act.put, List.setIfInBounds_toArray, List.set_cons_succ, List.set_cons_zero]
        refine lex_pred (p := qTwo w6.heap.size lo hi) rfl ?_ ?_
        · intro x z hR hf
          have h8 : qTwo w6.heap.size lo hi (x 12) z := by first | exact hf.1 rfl | exact hf.2.1 rfl | exact hf.2.2.1 rfl
          clear hR hf
          go_simp
          exact Ext.refl _
        simp only [Act.put, List.setIfInBounds_toArray, List.set_cons_succ, List.set_cons_zero]
        refine lex_nil fun x w7 hE hfacts => ?_
        have h9 : qTwo w6.heap.size lo hi (x 13) w7 := hfacts 13 _ (by omega) rfl
        clear hfacts
        generalize x 12 = x12 at *
        generalize x 13 = x13 at *
        clear x
        obtain ⟨pg, rfl, hpg, hpl⟩ := h9

        have HW7 := hid (HW6.out.mono hE)
        have HP7 : Hid (SpP T w w7 nb (.slice (some ⟨pg, 0, none⟩) 2 2) [lo, hi] [κ]) := ⟨⟨by simp [intsV], .inr ⟨pg, 2, _, rfl, hpg, by simp, by simp [maxLen], by simp, by simp [intsV]⟩⟩, fun g hg => by have h1 : pg = g := Option.some.inj hg; have := HW6.out.top; omega, .cons hκl (.inl ⟨by rw [HGD.out], by rw [HGD.out]⟩) (.one _), by simp⟩
        have HJ7 : Hid (∃ us is p, SpW T w w7 (some ⟨rb, off, none⟩) sc nb u5 us qs ∧ SpQ T us qs is ∧ SpP T w w7 nb (.slice (some ⟨pg, 0, none⟩) 2 2) p is ∧ us κ = true ∧ ∀ i', i' < k → us (slotOf n T.bars.length i') = true) := ⟨u6, [κ], [lo, hi], HW7.out, HQ6.out, HP7.out, HUK.out, HA6.out⟩
        clear HW7 HP7 HUK HA6 HQ6 HW6 HSK HGD hE hpg hpl hbd
        gi_wp2_with fail
        gi_loopw [9, 10] (fun pv jv wq => ∃ j : Nat, j ≤ T.bars.length ∧ jv = .int .i64 j ∧ Hid (∃ us is p, SpW T w wq (some ⟨rb, off, none⟩) sc nb u5 us qs ∧ SpQ T us qs is ∧ SpP T w wq nb pv p is ∧ us κ = true ∧ ∀ i', i' < k → us (slotOf n T.bars.length i') = true)) (fun pv jv _ => (T.bars.length + 2 - lenV pv) * (T.bars.length + 2) + (T.bars.length - (intOf jv).toNat))
        case atStart => exact ⟨0, Nat.zero_le _, rfl, HJ7.out⟩
        case round =>
          obtain ⟨j, hj, rfl, HI⟩ := hrel
          clear HJ7
          obtain ⟨us, is, p, hw, hq, hp, huk, ha⟩ := HI.out
          clear HI
          have hpl : p.length ≤ T.bars.length + 1 := by have := Tw.way_two hp.way; have := hq.len.1; omega
          obtain ⟨p', e, pg, pc, cur, hpe, rfl, hcg, hce⟩ := row_last hp.row hp.two
          have HPE := hid hpe
          have hpl' : p'.length ≤ T.bars.length := by rw [hpe] at hpl; simp at hpl; omega
          clear hpe hpl
          have HW := hid hw
          have HQ := hid hq
          have HP := hid hp
          have HU := hid (And.intro huk ha)
          have HCG := hid (And.intro hcg hce)
          clear hw hq hp huk ha hcg hce
          have c0 := cell_of HW.out.box
          by_cases hjl : j < T.bars.length
          case neg =>
            obtain rfl : j = T.bars.length := by omega
            have hx1 : Ext wr (wr.alloc (.cells #[.slice (some ⟨pg, 0, none⟩) (p'.length + 1) pc] 41)) := (Ext.refl _).alloc _
            have hsz := hx1.size
            obtain ⟨v', w', hrun, hpc', hgr⟩ := pcs_append (nb' := (wr.alloc (.cells #[.slice (some ⟨pg, 0, none⟩) (p'.length + 1) pc] 41)).heap.size) (HW.out.pcs.ext hx1) (by rw [List.length_map]; have := HQ.out.len.2; omega) (HP.out.row.mono hx1) (row_own_lt (HP.out.row.mono hx1)) (by have := HW.out.top; omega) (by have := HW.out.low; have := HW.out.top; omega) wr.heap.size (Ext.new (Ext.refl _))
            have HN := hid ((HW.out.mono hx1).push (is := is) hpc' hgr)
            have HQN := hid (HQ.out.close HP.out.way HP.out.two)
            clear hx1 hsz hpc' hgr
            gi_wp2_with (refine wpIn_append_at (fun _ => trivial) rfl (wr.alloc (.cells #[.slice (some ⟨pg, 0, none⟩) (p'.length + 1) pc] 41)) (.tmp 102) (.tmp 104) 25 rfl (by with_reducible rfl) hrun rfl rfl rfl ?_)
            go_roundw
            case rel =>
              refine ⟨k + 1, by omega, by go_num, _, us, _, HN.out, HQN.out, fun i' hi' => ?_⟩
              rcases Nat.lt_or_ge i' k with h' | h'
              · exact HU.out.2 i' h'
              · obtain rfl : i' = k := by omega
                rw [← HKP.out]; exact HU.out.1
            case measure => simp [intOf]; omega
          case pos =>
            have hji : (j : Int) < T.bars.length := by omega
            have hbd := HBD.out j hjl
            rw [getD_of hjl] at hbd
            have HSK := hid (HCL.out j hjl)
            have HGD : Hid (T.bars.getD j ⟨0, 0⟩ = T.bars[j]) := getD_of hjl
            generalize T.bars[j] = s at *
            obtain ⟨lo, hi⟩ := s
            simp only at *
            have hwp : IntKind.i64.wrap (p'.length : Int) = p'.length := by rw [IntKind.wrap_i64]; omega
            have hwq : (p'.length : Int) < (p'.length : Int) + 1 := by omega
            gi_wp2_with fail
            clear c0
            refine jj_own 14 [11] (boxJ wr 86 #[.int .i64 0, .int .i64 0] #[.int .i64 lo, .int .i64 hi]) (by kernel_rfl) (by kernel_rfl) (boxJ_start _ _ _ _) ?_
            simp only [List.take_succ_cons, List.take_zero, List.drop_succ_cons, List.drop_zero]
            apply jj_fun (by decide)
            · intro L x u hL hd hJ
              have e0 := cell_of (hJ.1.block HW.out.box)
              have e1 := (((HW.out.ext.trans hJ.1).cell (p := ⟨rb, _, none⟩) HRB.out).trans HSK.out.1)
              have e2 := (((HW.out.ext.trans hJ.1).cell (p := ⟨rb, _, none⟩) HRB.out).trans HSK.out.2)
              have e3 := (cell_of (hJ.1.block HCG.out.1) p'.length).trans HCG.out.2
              have HJ := hid hJ
              clear hJ hd hL
              go_simp
              exact ⟨rfl, HJ.out⟩
            simp only [Act.put, List.setIfInBounds_toArray, List.set_cons_succ, List.set_cons_zero]
            apply jj_fun (by decide)
            · intro L x u hL hd hJ
              have e0 := cell_of (hJ.1.block HW.out.box)
              have e1 := (((HW.out.ext.trans hJ.1).cell (p := ⟨rb, _, none⟩) HRB.out).trans HSK.out.1)
              have e2 := (((HW.out.ext.trans hJ.1).cell (p := ⟨rb, _, none⟩) HRB.out).trans HSK.out.2)
              have e3 := (cell_of (hJ.1.block HCG.out.1) p'.length).trans HCG.out.2
              have HJ := hid hJ
              clear hJ hd hL
              go_simp
              exact ⟨rfl, HJ.out⟩
            simp only [Act.put, List.setIfInBounds_toArray, List.set_cons_succ, List.set_cons_zero]
            apply jj_fun (by decide)
            · intro L x u hL hd hJ
              have e0 := cell_of (hJ.1.block HW.out.box)
              have e1 := (((HW.out.ext.trans hJ.1).cell (p := ⟨rb, _, none⟩) HRB.out).trans HSK.out.1)
              have e2 := (((HW.out.ext.trans hJ.1).cell (p := ⟨rb, _, none⟩) HRB.out).trans HSK.out.2)
              have e3 := (cell_of (hJ.1.block HCG.out.1) p'.length).trans HCG.out.2
              have HJ := hid hJ
              clear hJ hd hL
              go_simp
              exact ⟨rfl, HJ.out⟩
            simp only [Act.put, List.setIfInBounds_toArray, List.set_cons_succ, List.set_cons_zero]
            apply jj_fun (by decide)
            · intro L x u hL hd hJ
              have e0 := cell_of (hJ.1.block HW.out.box)
              have e1 := (((HW.out.ext.trans hJ.1).cell (p := ⟨rb, _, none⟩) HRB.out).trans HSK.out.1)
              have e2 := (((HW.out.ext.trans hJ.1).cell (p := ⟨rb, _, none⟩) HRB.out).trans HSK.out.2)
              have e3 := (cell_of (hJ.1.block HCG.out.1) p'.length).trans HCG.out.2
              have HJ := hid hJ
              clear hJ hd hL
              go_simp
              exact ⟨rfl, HJ.out⟩
            simp only [Act.put, List.setIfInBounds_toArray, List.set_cons_succ, List.set_cons_zero]
            apply jj_fun (by decide)
            · intro L x u hL hd hJ
              have e0 := cell_of (hJ.1.block HW.out.box)
              have e1 := (((HW.out.ext.trans hJ.1).cell (p := ⟨rb, _, none⟩) HRB.out).trans HSK.out.1)
              have e2 := (((HW.out.ext.trans hJ.1).cell (p := ⟨rb, _, none⟩) HRB.out).trans HSK.out.2)
              have e3 := (cell_of (hJ.1.block HCG.out.1) p'.length).trans HCG.out.2
              have HJ := hid hJ
              clear hJ hd hL
              go_simp
              exact ⟨rfl, HJ.out⟩
            simp only [Act.put, List.setIfInBounds_toArray, List.set_cons_succ, List.set_cons_zero]
            apply jj_fun (by decide)
            · intro L x u hL hd hJ
              have e0 := cell_of (hJ.1.block HW.out.box)
              have e1 := (((HW.out.ext.trans hJ.1).cell (p := ⟨rb, _, none⟩) HRB.out).trans HSK.out.1)
              have e2 := (((HW.out.ext.trans hJ.1).cell (p := ⟨rb, _, none⟩) HRB.out).trans HSK.out.2)
              have e3 := (cell_of (hJ.1.block HCG.out.1) p'.length).trans HCG.out.2
              have HJ := hid hJ
              clear hJ hd hL
              go_simp
              exact ⟨rfl, HJ.out⟩
            simp only [Act.put, List.setIfInBounds_toArray, List.set_cons_succ, List.set_cons_zero]
            apply jj_fun (by decide)
            · intro L x u hL hd hJ
              have e0 := cell_of (hJ.1.block HW.out.box)
              have e1 := (((HW.out.ext.trans hJ.1).cell (p := ⟨rb, _, none⟩) HRB.out).trans HSK.out.1)
              have e2 := (((HW.out.ext.trans hJ.1).cell (p := ⟨rb, _, none⟩) HRB.out).trans HSK.out.2)
              have e3 := (cell_of (hJ.1.block HCG.out.1) p'.length).trans HCG.out.2
              have HJ := hid hJ
              clear hJ hd hL
              go_simp
              exact ⟨rfl, HJ.out⟩
            simp only [Act.put, List.setIfInBounds_toArray, List.set_cons_succ, List.set_cons_zero]
            apply jj_fun (by decide)
            · intro L x u hL hd hJ
              have e0 := cell_of (hJ.1.block HW.out.box)
              have e1 := (((HW.out.ext.trans hJ.1).cell (p := ⟨rb, _, none⟩) HRB.out).trans HSK.out.1)
              have e2 := (((HW.out.ext.trans hJ.1).cell (p := ⟨rb, _, none⟩) HRB.out).trans HSK.out.2)
              have e3 := (cell_of (hJ.1.block HCG.out.1) p'.length).trans HCG.out.2
              have HJ := hid hJ
              clear hJ hd hL
              go_simp
              exact ⟨rfl, HJ.out⟩
            simp only [Act.put, List.setIfInBounds_toArray, List.set_cons_succ, List.set_cons_zero]
            apply jj_fun (by decide)
            · intro L x u hL hd hJ
              have e0 := cell_of (hJ.1.block HW.out.box)
              have e1 := (((HW.out.ext.trans hJ.1).cell (p := ⟨rb, _, none⟩) HRB.out).trans HSK.out.1)
              have e2 := (((HW.out.ext.trans hJ.1).cell (p := ⟨rb, _, none⟩) HRB.out).trans HSK.out.2)
              have e3 := (cell_of (hJ.1.block HCG.out.1) p'.length).trans HCG.out.2
              have HJ := hid hJ
              clear hJ hd hL
              go_simp
              exact ⟨rfl, HJ.out⟩
            simp only [Act.put, List.setIfInBounds_toArray, List.set_cons_succ, List.set_cons_zero]
            apply jj_fun (by decide)
            · intro L x u hL hd hJ
              have e0 := cell_of (hJ.1.block HW.out.box)
              have e1 := (((HW.out.ext.trans hJ.1).cell (p := ⟨rb, _, none⟩) HRB.out).trans HSK.out.1)
              have e2 := (((HW.out.ext.trans hJ.1).cell (p := ⟨rb, _, none⟩) HRB.out).trans HSK.out.2)
              have e3 := (cell_of (hJ.1.block HCG.out.1) p'.length).trans HCG.out.2
              have HJ := hid hJ
              clear hJ hd hL
              go_simp
              exact ⟨rfl, HJ.out⟩
            simp only [Act.put, List.setIfInBounds_toArray, List.set_cons_succ, List.set_cons_zero]
            apply jj_fun (by decide)
            · intro L x u hL hd hJ
              have e0 := cell_of (hJ.1.block HW.out.box)
              have e1 := (((HW.out.ext.trans hJ.1).cell (p := ⟨rb, _, none⟩) HRB.out).trans HSK.out.1)
              have e2 := (((HW.out.ext.trans hJ.1).cell (p := ⟨rb, _, none⟩) HRB.out).trans HSK.out.2)
              have e3 := (cell_of (hJ.1.block HCG.out.1) p'.length).trans HCG.out.2
              have HJ := hid hJ
              clear hJ hd hL
              go_simp
              exact ⟨rfl, HJ.out⟩
            simp only [Act.put, List.setIfInBounds_toArray, List.set_cons_succ, List.set_cons_zero]
            refine jj_inv (by decide) ?_ ?_
            · intro L x u hL hd hJ
              have HJ := hid (boxJ_make hJ hL)
              clear hJ hd hL
              go_simp
              exact HJ.out
            simp only [Act.put, List.setIfInBounds_toArray, List.set_cons_succ, List.set_cons_zero]
            refine jj_fun (v := undef) (by decide) ?_ ?_
            · intro L x u hL hd hJ
              have hl : L 11 = true := hd.1 rfl
              obtain ⟨g, hx8, hg, h3, _⟩ := hJ.2.1 hl
              have hb := h3 hL
              have hk := set_same (set_same hb 0 (.int .i64 lo)) 1 (.int .i64 hi)
              simp only [List.setIfInBounds_toArray, List.set_cons_succ, List.set_cons_zero] at hk
              have HJ : Hid (boxJ wr 86 #[.int .i64 0, .int .i64 0] #[.int .i64 lo, .int .i64 hi] (updL L 12) x ((u.setCell ⟨g, 0, none⟩ (.int .i64 lo)).setCell ⟨g, 1, none⟩ (.int .i64 hi))) := ⟨(hJ.1.set hg 0 _).set hg 1 _, fun _ => ⟨g, hx8, hg, (fun q => by cases q), fun _ => hk⟩, fun _ => hl⟩
              have cb := cell_of hb
              have fb := free_of hb
              rw [hx8]
              clear hJ hd hL hb h3 hl hx8 hk
              go_simp
              exact HJ.out
            simp only [Act.put, List.setIfInBounds_toArray, List.set_cons_succ, List.set_cons_zero]
            apply jj_fun (by decide)
            · intro L x u hL hd hJ
              have e0 := cell_of (hJ.1.block HW.out.box)
              have e1 := (((HW.out.ext.trans hJ.1).cell (p := ⟨rb, _, none⟩) HRB.out).trans HSK.out.1)
              have e2 := (((HW.out.ext.trans hJ.1).cell (p := ⟨rb, _, none⟩) HRB.out).trans HSK.out.2)
              have e3 := (cell_of (hJ.1.block HCG.out.1) p'.length).trans HCG.out.2
              have HJ := hid hJ
              clear hJ hd hL
              go_simp
              exact ⟨rfl, HJ.out⟩
            simp only [Act.put, List.setIfInBounds_toArray, List.set_cons_succ, List.set_cons_zero]
            refine jj_nil fun L x u hall hJ => ?_
            obtain ⟨gg, hg1, hgl1, _, hgb1⟩ := hJ.2.1 (hall 11 (by omega))
            have hgb1 := hgb1 (hall 12 (by omega))
            have hE := hJ.1
            clear hJ hall
            generalize x 11 = x11 at *
            clear x
            subst hg1
            have hgbw := HW.out.left
            have HW := hid (HW.out.mono hE)
            have HP : Hid (SpP T w u nb (.slice (some ⟨pg, 0, none⟩) (p'.length + 1) pc) p is) := ⟨HP.out.row.mono hE, HP.out.own, HP.out.way, HP.out.two⟩
            have d1 := cell_of hgb1
            clear HCG HSK hE hwp hwq
            by_cases hu : us j = true
            case pos =>
              have d0 : u.cell? ⟨w.heap.size + 1, j, none⟩ = some (.bool true) := by rw [cell_of HW.out.left, bArr_get hjl, hu]
              clear hu
              gi_wp2_with fail
              clear d0 d1
              go_roundw
              case rel => exact ⟨j + 1, by omega, by go_num, us, is, p, HW.out, HQ.out, HP.out, HU.out.1, HU.out.2⟩
              case measure => simp [intOf, lenV]; omega
            case neg =>
              have hu : us j = false := by simpa using hu
              have d0 : u.cell? ⟨w.heap.size + 1, j, none⟩ = some (.bool false) := by rw [cell_of HW.out.left, bArr_get hjl, hu]
              by_cases hcase : lo = e ∨ hi = e
              case neg =>
                have g1 : (lo != e) = true := by simp; omega
                have g2 : (hi != e) = true := by simp; omega
                clear hcase hu
                gi_wp2_with fail
                clear d0 d1 g1 g2
                go_roundw
                case rel => exact ⟨j + 1, by omega, by go_num, us, is, p, HW.out, HQ.out, HP.out, HU.out.1, HU.out.2⟩
                case measure => simp [intOf, lenV]; omega
              case pos =>
                have hne : gg ≠ w.heap.size + 1 := by have := lt_of_block hgbw; omega
                have d2 := cell_of (w := u.setCell ⟨w.heap.size + 1, j, none⟩ (.bool true)) (by rw [set_other hne]; exact hgb1)
                have hx0 : 0 ≤ lo + hi - e ∧ lo + hi - e < 100 := by omega
                have he0 : 0 ≤ e ∧ e < 100 := by omega
                have HJO : Hid (Tw.joins (T.bars.getD j ⟨0, 0⟩) e (lo + hi - e)) := by show Tw.joins _ _ _; rw [HGD.out]; unfold Tw.joins; simp only; omega
                have f0 := free_of HW.out.left
                have HW2 := hid (HW.out.use hjl)
                have HQ2 := hid (HQ.out.use hjl hu)
                have HU2 : Hid ((if κ = j then true else us κ) = true ∧ ∀ i', i' < k → (if slotOf n T.bars.length i' = j then true else us (slotOf n T.bars.length i')) = true) := by
                  refine ⟨?_, fun i' hi' => ?_⟩
                  · split
                    · rfl
                    · exact HU.out.1
                  · split
                    · rfl
                    · exact HU.out.2 i' hi'
                have hrw : Row (u.setCell ⟨w.heap.size + 1, j, none⟩ (.bool true)) 3 1 (.slice (some ⟨pg, 0, none⟩) (p'.length + 1) pc) p.length (intsV p) := HP.out.row.set (fun e => by have := HP.out.own _ e; have := HW.out.low; omega) _ _
                obtain ⟨W1, hW1⟩ : ∃ W1, W1 = (u.setCell ⟨w.heap.size + 1, j, none⟩ (.bool true)).alloc (.cells #[.int .i64 (lo + hi - e)] 3) := ⟨_, rfl⟩
                have hxw : Ext (u.setCell ⟨w.heap.size + 1, j, none⟩ (.bool true)) W1 := by rw [hW1]; exact (Ext.refl _).alloc _
                obtain ⟨v', w', hrun, hr', hgr, how⟩ := ints_append (w := W1) (hrw.mono hxw) (by have := Tw.way_two HP.out.way; have := HQ.out.len.1; omega) (lo + hi - e) u.heap.size (by rw [hW1]; have h0 := Ext.new (w := u.setCell ⟨w.heap.size + 1, j, none⟩ (.bool true)) (o := .cells #[.int .i64 (lo + hi - e)] 3) (Ext.refl _); rwa [show (u.setCell ⟨w.heap.size + 1, j, none⟩ (.bool true)).heap.size = u.heap.size by simp] at h0)
                have HN := hid ((HW2.out.mono hxw).grow (ob := (Value.slice (some ⟨pg, 0, none⟩) (p'.length + 1) pc).ownBlock) (fun g hg => HP.out.own g hg) (fun g hg o ho => row_ty (hrw.mono hxw) hg ho) hgr)
                have HPN : Hid (SpP T w w' nb v' (p ++ [lo + hi - e]) (is ++ [j])) := by
                  refine ⟨hr', fun g hg => ?_, ?_, by have := HP.out.two; simp; omega⟩
                  · rcases how with e1 | e1
                    · exact HP.out.own g (by rw [← e1]; exact hg)
                    · rw [hg] at e1; cases e1
                      have := hxw.size; have := HW2.out.top; omega
                  · have := HP.out.way
                    rw [HPE.out] at this ⊢
                    exact this.snoc hjl HJO.out
                obtain ⟨va, vc, rfl⟩ := hr'.isSliceN
                have hll : (p ++ [lo + hi - e]).length = p'.length + 2 := by rw [HPE.out]; simp
                rw [hll] at hrun HPN
                clear hrw hxw hr' hgr how hll
                rw [hW1] at hrun
                clear hW1
                by_cases h1 : lo = e
                case pos =>
                  have g1 : (lo != e) = false := by simp; omega
                  clear hcase h1 hu
                  gi_wp2_with (refine wpIn_append_at (fun _ => trivial) rfl ((u.setCell ⟨w.heap.size + 1, j, none⟩ (.bool true)).alloc (.cells #[.int .i64 (lo + hi - e)] 3)) (.tmp 92) (.tmp 100) 41 rfl (by with_reducible rfl) hrun rfl rfl rfl ?_)
                  go_roundw
                  case rel => exact ⟨0, by omega, rfl, _, _, _, HN.out, HQ2.out, HPN.out, HU2.out.1, HU2.out.2⟩
                  case measure => 
                    show (T.bars.length + 2 - lenV (.slice va (p'.length + 2) vc)) * (T.bars.length + 2) + _ < _
                    simp only [lenV, intOf]
                    rw [show T.bars.length + 2 - (p'.length + 1) = (T.bars.length + 2 - (p'.length + 2)) + 1 by omega, Nat.add_mul]
                    simp; omega
                case neg =>
                  have g1 : (lo != e) = true := by simp; omega
                  have g2 : (hi != e) = false := by simp; omega
                  clear hcase h1 hu
                  gi_wp2_with (refine wpIn_append_at (fun _ => trivial) rfl ((u.setCell ⟨w.heap.size + 1, j, none⟩ (.bool true)).alloc (.cells #[.int .i64 (lo + hi - e)] 3)) (.tmp 92) (.tmp 100) 41 rfl (by with_reducible rfl) hrun rfl rfl rfl ?_)
                  go_roundw
                  case rel => exact ⟨0, by omega, rfl, _, _, _, HN.out, HQ2.out, HPN.out, HU2.out.1, HU2.out.2⟩
                  case measure => 
                    show (T.bars.length + 2 - lenV (.slice va (p'.length + 2) vc)) * (T.bars.length + 2) + _ < _
                    simp only [lenV, intOf]
                    rw [show T.bars.length + 2 - (p'.length + 1) = (T.bars.length + 2 - (p'.length + 2)) + 1 by omega, Nat.add_mul]
                    simp; omega

end Go.Proofs.Ytmjelgonhpgmbaa
