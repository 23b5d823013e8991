/- Spinning along bars: what it yields. -/
import Derived.Test.YtmjelgonhpgmbaaMO
set_option linter.unusedSimpArgs false
set_option linter.unusedVariables false
namespace Go.Proofs.Ytmjelgonhpgmbaa
open Go Go.RowKit Go.Shelf

/-- Which bars are left, and the way. -/
abbrev Spin := (Nat → Bool) × List Int
def clr (L : Nat → Bool) (i : Nat) : Nat → Bool := fun j => if j = i then false else L j
def spinStep (rec : Int → Spin → Spin) (l : List Spn) (k : Int) (st : Spin) (i : Nat) : Spin :=
  if st.1 i then (if (l.getD i ⟨0, 0⟩).lo = k then rec (l.getD i ⟨0, 0⟩).hi (clr st.1 i, st.2) else if (l.getD i ⟨0, 0⟩).hi = k then rec (l.getD i ⟨0, 0⟩).lo (clr st.1 i, st.2) else st) else st
def spinTo (rec : Int → Spin → Spin) (l : List Spn) (k : Int) (st : Spin) : Nat → Spin
  | 0 => st
  | n + 1 => spinStep rec l k (spinTo rec l k st n) n
def spinF (l : List Spn) : Nat → Int → Spin → Spin
  | 0, _, st => st
  | f + 1, k, st => ((spinTo (spinF l f) l k st l.length).1, (spinTo (spinF l f) l k st l.length).2 ++ [k])
def cnt (L : Nat → Bool) : Nat → Nat
  | 0 => 0
  | n + 1 => cnt L n + (if L n then 1 else 0)
theorem cnt_le (L : Nat → Bool) : ∀ n, cnt L n ≤ n
  | 0 => Nat.le_refl _
  | n + 1 => by unfold cnt; have := cnt_le L n; split <;> omega
theorem cnt_clr_ge (L : Nat → Bool) (i : Nat) : ∀ n, n ≤ i → cnt (clr L i) n = cnt L n
  | 0, _ => rfl
  | n + 1, h => by
    have e : clr L i n = L n := by unfold clr; rw [if_neg (by omega)]
    unfold cnt; rw [cnt_clr_ge L i n (by omega), e]
theorem cnt_clr {L : Nat → Bool} {i : Nat} (hL : L i = true) : ∀ n, i < n → cnt (clr L i) n + 1 = cnt L n
  | 0, h => absurd h (by omega)
  | n + 1, h => by
    unfold cnt
    rcases Nat.lt_or_ge i n with h' | h'
    · have := cnt_clr hL n h'
      have e : clr L i n = L n := by unfold clr; rw [if_neg (by omega)]
      rw [e]; omega
    · obtain rfl : i = n := by omega
      rw [cnt_clr_ge L i i (Nat.le_refl _), hL]
      have e : clr L i i = false := by unfold clr; rw [if_pos rfl]
      rw [e]; simp
/-- Bars are only taken; each that is taken makes the way longer by no more than one. -/
structure Less (n : Nat) (d : Nat) (st st' : Spin) : Prop where
  left : ∀ j, st'.1 j = true → st.1 j = true
  len : st'.2.length + cnt st'.1 n ≤ st.2.length + cnt st.1 n + d
theorem cnt_mono {L M : Nat → Bool} (h : ∀ j, M j = true → L j = true) : ∀ n, cnt M n ≤ cnt L n
  | 0 => Nat.le_refl _
  | n + 1 => by
    unfold cnt
    have h1 := cnt_mono h n
    have h2 := h n
    cases hm : M n
    · simp; split <;> omega
    · rw [h2 hm]; simp; omega
theorem Less.refl (n : Nat) (st : Spin) : Less n 0 st st := ⟨fun _ h => h, by omega⟩
theorem Less.cnt {n d : Nat} {st st' : Spin} (h : Less n d st st') : cnt st'.1 n ≤ cnt st.1 n := cnt_mono h.left n
theorem spinStep_less {rec : Int → Spin → Spin} {l : List Spn} {k : Int} (hr : ∀ k st, Less l.length 1 st (rec k st)) (st : Spin) {i : Nat} (hi : i < l.length) : Less l.length 0 st (spinStep rec l k st i) := by
  unfold spinStep
  have key : st.1 i = true → ∀ k', Less l.length 0 st (rec k' (clr st.1 i, st.2)) := fun hL k' => by
    have h := hr k' (clr st.1 i, st.2)
    have hc := cnt_clr hL l.length hi
    refine ⟨fun j hj => ?_, ?_⟩
    · have := h.left j hj
      simp only [clr] at this
      split at this
      · cases this
      · exact this
    · have := h.len
      simp only at this
      omega
  split
  · next hL =>
    split
    · exact key hL _
    · split
      · exact key hL _
      · exact Less.refl _ _
  · exact Less.refl _ _
theorem spinTo_less {rec : Int → Spin → Spin} {l : List Spn} {k : Int} (hr : ∀ k st, Less l.length 1 st (rec k st)) (st : Spin) : ∀ n, n ≤ l.length → Less l.length 0 st (spinTo rec l k st n)
  | 0, _ => Less.refl _ _
  | n + 1, h => by
    have h1 := spinTo_less (k := k) hr st n (by omega)
    have h2 := spinStep_less (k := k) hr (spinTo rec l k st n) (i := n) (by omega)
    unfold spinTo
    exact ⟨fun j hj => h1.left j (h2.left j hj), by have := h1.len; have := h2.len; omega⟩
theorem spinF_less (l : List Spn) : ∀ f k st, Less l.length 1 st (spinF l f k st)
  | 0, k, st => ⟨fun _ h => h, by unfold spinF; omega⟩
  | f + 1, k, st => by
    have h := spinTo_less (k := k) (spinF_less l f) st l.length (Nat.le_refl _)
    unfold spinF
    exact ⟨h.left, by simp only [List.length_append, List.length_singleton]; have := h.len; omega⟩
/-- The closure's boxes, and the way's own row. -/
structure SpinAt (n0 : World) (lv : Value) (l : List Spn) (base B1 B2 B3 B4 : Nat) (w : World) (L : Nat → Bool) (way : List Int) (wv : Value) : Prop where
  ext : Ext n0 w
  size : base ≤ w.heap.size
  list : w.heap[B1]? = some (.cells #[lv] 22 (0, 0))
  left : w.heap[B2]? = some (.cells (boolArr L) 142 (0, 0))
  spin : w.heap[B3]? = some (.cells #[.func (.func 69) #[] #[.pointer (some ⟨B1, 0, none⟩), .pointer (some ⟨B2, 0, none⟩), .pointer (some ⟨B3, 0, none⟩), .pointer (some ⟨B4, 0, none⟩)]] 146 (0, 0))
  wayb : w.heap[B4]? = some (.cells #[wv] 41 (0, 0))
  row : Row w 3 1 wv way.length (intsV way)
  own : ∀ g, wv.ownBlock = some g → base ≤ g
/-- All else is kept. -/
structure SpinK (B2 B4 : Nat) (w : World) (wv : Value) (w' : World) (wv' : Value) : Prop where
  size : w.heap.size ≤ w'.heap.size
  keep : ∀ k o, w.heap[k]? = some o → k ≠ B2 → k ≠ B4 → wv.ownBlock ≠ some k → w'.heap[k]? = some o
  own : wv'.ownBlock = wv.ownBlock ∨ ∀ g, wv'.ownBlock = some g → w.heap.size ≤ g
theorem SpinK.refl (B2 B4 : Nat) (w : World) (wv : Value) : SpinK B2 B4 w wv w wv := ⟨Nat.le_refl _, fun _ _ h _ _ _ => h, .inl rfl⟩
theorem SpinK.trans {B2 B4 : Nat} {w w1 w2 : World} {v v1 v2 : Value} (h : SpinK B2 B4 w v w1 v1) (k : SpinK B2 B4 w1 v1 w2 v2) : SpinK B2 B4 w v w2 v2 := by
  refine ⟨Nat.le_trans h.size k.size, fun j o ho h2 h4 hv => k.keep j o (h.keep j o ho h2 h4 hv) h2 h4 fun e => ?_, ?_⟩
  · rcases h.own with e1 | e1
    · exact hv (by rw [← e1]; exact e)
    · have := e1 j e; have := lt_of_block ho; omega
  · rcases k.own with e2 | e2
    · rcases h.own with e1 | e1
      · exact .inl (e2.trans e1)
      · exact .inr fun g hg => e1 g (by rw [← e2]; exact hg)
    · exact .inr fun g hg => Nat.le_trans h.size (e2 g hg)
theorem SpinK.ext {B2 B4 : Nat} {w w' : World} {v : Value} (h : Ext w w') : SpinK B2 B4 w v w' v := ⟨h.size, fun _ _ ho _ _ _ => h.block ho, .inl rfl⟩
theorem SpinAt.mono {n0 : World} {lv : Value} {l : List Spn} {base B1 B2 B3 B4 : Nat} {w w' : World} {L : Nat → Bool} {way : List Int} {wv : Value} (h : SpinAt n0 lv l base B1 B2 B3 B4 w L way wv) (hx : Ext w w') : SpinAt n0 lv l base B1 B2 B3 B4 w' L way wv :=
  ⟨h.ext.trans hx, Nat.le_trans h.size hx.size, hx.block h.list, hx.block h.left, hx.block h.spin, hx.block h.wayb, h.row.mono hx, h.own⟩



theorem wpIn_append_at {F : Fence} {n0 : Nat} (hF : ∀ f, F.fn f) (hn : F.depth = none) {o : Oper} {act : Act} {w w' : World} {K : Act → World → Prop} {Q : Exit → Act → World → Prop} (W : World) (s x : Operand) (t : TypeId)
    (ho : o.op = .call { callee := .builtin .append, args := #[s, x], argTypes := #[t, t] }) (hw : w = W) {v xv v' : Value} {ty : TypeId} (hrun : (Builtin.append_ #[t, t] ty #[v, xv]).run Try.prog W = .ok v' w') (hty : o.type = ty) (hv : act.eval s = v) (hx : act.eval x = xv)
    (hK : K (act.put o.dst v') w') : o.wpIn F n0 Try.prog act w K Q := by
  subst hw
  subst hty
  exact wpIn_append_run hF hn s x t ho hv hx hrun hK
structure SpinB (n0 : World) (base B1 B2 B3 B4 : Nat) : Prop where
  n1 : n0.heap.size ≤ B1 ∧ n0.heap.size ≤ B2 ∧ n0.heap.size ≤ B3 ∧ n0.heap.size ≤ B4
  lt : B1 < base ∧ B2 < base ∧ B3 < base ∧ B4 < base
  ne : B1 ≠ B2 ∧ B1 ≠ B4 ∧ B3 ≠ B2 ∧ B3 ≠ B4 ∧ B2 ≠ B4
theorem SpinAt.clear {n0 : World} {lv : Value} {l : List Spn} {base B1 B2 B3 B4 : Nat} {w : World} {L : Nat → Bool} {way : List Int} {wv : Value} (hB : SpinB n0 base B1 B2 B3 B4) (h : SpinAt n0 lv l base B1 B2 B3 B4 w L way wv) {i : Nat} (hi : i < 96) :
    SpinAt n0 lv l base B1 B2 B3 B4 (w.setCell ⟨B2, i, none⟩ (.bool false)) (clr L i) way wv ∧ SpinK B2 B4 w wv (w.setCell ⟨B2, i, none⟩ (.bool false)) wv := by
  have hne := hB.ne
  have hlt := hB.lt
  refine ⟨⟨h.ext.set hB.n1.2.1 _ _, by simpa using h.size, ?_, ?_, ?_, ?_, h.row.set (fun e => by have := h.own _ e; omega) _ _, h.own⟩, ⟨by simp, fun k o ho h2 _ _ => by rw [set_other h2]; exact ho, .inl rfl⟩⟩
  · rw [set_other hne.1]; exact h.list
  · rw [set_same h.left, boolArr_set _ hi]; rfl
  · rw [set_other hne.2.2.1]; exact h.spin
  · rw [set_other (Ne.symm hne.2.2.2.2)]; exact h.wayb
theorem index147_0 (a b c d : Value) (w : World) : (Instr.index 147 (.agg #[a, b, c, d]) (.int .i64 0)).run Try.prog w = .ok (.agg #[a, b]) w := by
  simp [Instr.index, go_sem]
theorem index147_1 (a b c d : Value) (w : World) : (Instr.index 147 (.agg #[a, b, c, d]) (.int .i64 1)).run Try.prog w = .ok (.agg #[c, d]) w := by
  simp [Instr.index, go_sem]
set_option maxRecDepth 100000 in
set_option maxHeartbeats 16000000 in
theorem spin_any (n0 : World) (lv : Value) (l : List Spn) (base B1 B2 B3 B4 : Nat) (hB : SpinB n0 base B1 B2 B3 B4) (hlv : SpansAt n0 lv l) (hl : l.length ≤ 96) :
    ∀ (f : Nat) (k : Int) (L : Nat → Bool) (way : List Int) (wv : Value) (w : World), SpinAt n0 lv l base B1 B2 B3 B4 w L way wv → cnt L l.length < f → way.length + cnt L l.length ≤ 500 →
      Cal 69 #[.int .i64 k, .pointer (some ⟨B1, 0, none⟩), .pointer (some ⟨B2, 0, none⟩), .pointer (some ⟨B3, 0, none⟩), .pointer (some ⟨B4, 0, none⟩)] w fun e w' => e = .returned (.tuple #[]) ∧ ∃ wv', SpinAt n0 lv l base B1 B2 B3 B4 w' (spinF l f k (L, way)).1 (spinF l f k (L, way)).2 wv' ∧ SpinK B2 B4 w wv w' wv' := by
  intro f
  induction f with
  | zero => intro k L way wv w _ h; omega
  | succ f ih =>
  intro k L way wv w hS hf hlen
  have HI := hid ih
  have HB := hid hB
  obtain ⟨la, lc, rfl, hll, hlc⟩ := hlv
  have HC := hid hlc
  have HS := hid hS
  have hc1 := cell_of hS.list
  have hnon := hS.ext.size
  clear ih hB hlc hS
  have HSF : Hid (spinF l (f + 1) k (L, way) = ((spinTo (spinF l f) l k (L, way) l.length).1, (spinTo (spinF l f) l k (L, way) l.length).2 ++ [k])) := rfl
  rw [HSF.out]
  simp only
  have HLS := hid (fun n hn => spinTo_less (k := k) (spinF_less l f) (L, way) n hn)
  have HSR := hid (fun k st => spinF_less l f k st)
  obtain ⟨rec, hrec⟩ : ∃ rec : Int → Spin → Spin, rec = spinF l f := ⟨_, rfl⟩
  rw [← hrec] at HI HLS HSR ⊢
  clear hrec HSF
  refine callsIn_of_wp Try.func69 rfl trivial ?_
  simp only [Try.ntmps69, List.size_toArray, List.length_cons, List.length_nil, Nat.reduceAdd, Nat.reduceSub, Array.replicate_succ, Array.replicate_zero, List.push_toArray, List.append_toArray, List.nil_append, List.cons_append]
  rw [wpIn_wide]
  refine wp_scope_straight ?_
  rw [← wpIn_wide (n := 0)]
  gi_wp2_with fail
  rw [wpIn_wide]
  refine wp_label ?_
  gi_wp2_with fail
  gi_loopw [12] (fun i wr => ∃ m : Nat, m ≤ l.length ∧ i = .int .i64 m ∧ Hid (∃ wv', SpinAt n0 (.slice la l.length lc) l base B1 B2 B3 B4 wr (spinTo rec l k (L, way) m).1 (spinTo rec l k (L, way) m).2 wv' ∧ SpinK B2 B4 w wv wr wv')) (fun i _ => l.length - (intOf i).toNat)
  case atStart => exact ⟨0, Nat.zero_le _, rfl, wv, HS.out, SpinK.refl _ _ _ _⟩
  case round =>
    obtain ⟨m, hm, rfl, HJ⟩ := hrel
    clear hc1
    by_cases hlt : m < l.length
    · obtain ⟨wv1, hS1, hK1⟩ := HJ.out
      clear HJ
      obtain ⟨b, off, rfl, hbb, c0, c1⟩ := HC.out m hlt
      rw [← hS1.ext.cell (p := ⟨b, _, none⟩) hbb] at c0 c1
      have hmi : (m : Int) < l.length := by omega
      have hm96 : m < 96 := by omega
      have hmi96 : (m : Int) < 96 := by omega
      have HTS : Hid (spinTo rec l k (L, way) (m + 1) = spinStep rec l k (spinTo rec l k (L, way) m) m) := rfl
      have HLE := hid (HLS.out m hm)
      have HGD : Hid (l.getD m ⟨0, 0⟩ = l[m]) := getD_of hlt
      unfold spinStep at HTS
      rw [HGD.out] at HTS
      obtain ⟨⟨M, wy⟩, hst⟩ : ∃ st, spinTo rec l k (L, way) m = st := ⟨_, rfl⟩
      rw [hst] at hS1 HTS HLE
      clear hst
      obtain ⟨r, hrr⟩ : ∃ r, l[m] = r := ⟨_, rfl⟩
      rw [hrr] at c0 c1 HTS
      clear hrr HGD
      simp only at hS1 HTS HLE
      have hcl := HLE.out.len
      have hcc := HLE.out.cnt
      simp only at hcl hcc
      have HP := hid (And.intro hS1 hK1)
      have hxa : Ext wr (wr.alloc (.cells #[.int .i64 r.lo, .int .i64 r.hi] 86)) := (Ext.refl _).alloc _
      have hbr : (wr.alloc (.cells #[.int .i64 r.lo, .int .i64 r.hi] 86)).heap[wr.heap.size]? = some (.cells #[.int .i64 r.lo, .int .i64 r.hi] 86 (0, 0)) := Ext.new (Ext.refl _)
      clear hS1 hK1
      gi_upto_region 3 with fail
      clear c0 c1
      have HPn := hid (And.intro (HP.out.1.mono hxa) (HP.out.2.trans (SpinK.ext hxa)))
      clear HP
      have HP := HPn
      clear HPn
      have hcr := cell_of hbr
      clear hxa hbr
      generalize wr.alloc (.cells #[.int .i64 r.lo, .int .i64 r.hi] 86) = W2 at *
      generalize wr.heap.size = gr at *
      gi_wp2_with fail
      clear hcr
      have HMID : Hid (∃ mid : Spin, mid = (if r.lo = k then rec r.hi (clr M m, wy) else (M, wy))) := ⟨_, rfl⟩
      obtain ⟨mid, hmid⟩ := HMID.out
      have HMD := hid hmid
      clear HMID hmid
      obtain ⟨wo, rfl⟩ : ∃ wo, wo = wr := ⟨wr, rfl⟩
      have HQ0 := hid (fun (u : World) => index147_0 (.int .i64 r.lo) (.int .i64 r.hi) (.int .i64 r.hi) (.int .i64 r.lo) u)
      have HQ1 := hid (fun (u : World) => index147_1 (.int .i64 r.lo) (.int .i64 r.hi) (.int .i64 r.hi) (.int .i64 r.lo) u)
      have HCLR : Hid (M m = true → ∀ k', Less l.length 0 (M, wy) (rec k' (clr M m, wy)) ∧ (rec k' (clr M m, wy)).1 m = false ∧ cnt (clr M m) l.length + 1 = cnt M l.length) := fun hL k' => by
        have h := HSR.out k' (clr M m, wy)
        have hc := cnt_clr hL l.length hlt
        refine ⟨⟨fun j hj => ?_, ?_⟩, ?_, hc⟩
        · have := h.left j hj
          simp only [clr] at this
          split at this
          · cases this
          · exact this
        · have := h.len
          simp only at this ⊢
          omega
        · cases hh : (rec k' (clr M m, wy)).1 m
          · rfl
          · have := h.left m hh
            simp [clr] at this
      gi_loopw [24] (fun j wr => ∃ q : Nat, q ≤ 2 ∧ j = .int .i64 q ∧ Hid (∃ (st : Spin) (wv' : Value), SpinAt n0 (.slice (some ⟨b, off, none⟩) l.length lc) l base B1 B2 B3 B4 wr st.1 st.2 wv' ∧ SpinK B2 B4 w wv wr wv' ∧ (1 ≤ q → M m = true) ∧ (q = 0 → st = (M, wy)) ∧ (q = 1 → st = mid) ∧ (q = 2 → r.lo ≠ k ∧ st = (if r.hi = k then rec r.lo (clr M m, wy) else (M, wy))))) (fun j _ => 2 - (intOf j).toNat)
      case atStart => exact ⟨0, by omega, rfl, (M, wy), wv1, HP.out.1, HP.out.2, fun h => absurd h (by omega), fun _ => rfl, fun h => absurd h (by omega), fun h => absurd h (by omega)⟩
      case round =>
        obtain ⟨q, hq, rfl, HJ⟩ := hrel
        rcases (by omega : q = 0 ∨ q = 1 ∨ q = 2) with rfl | rfl | rfl
        · obtain ⟨st, wv2, hS2, hK2, _, h0, _, _⟩ := HJ.out
          obtain rfl := h0 rfl
          clear HJ h0
          clear HP
          have HP := hid (And.intro (show SpinAt n0 (.slice (some ⟨b, off, none⟩) l.length lc) l base B1 B2 B3 B4 wr M wy wv2 from hS2) hK2)
          clear hS2 hK2
          have hq := HQ0.out wr
          have hcl2 : wr.cell? ⟨B2, m, none⟩ = some (.bool (M m)) := by rw [cell_of HP.out.1.left, boolArr_get _ hm96]
          have hlb := lt_of_block HP.out.1.left
          cases hMm : M m
          case false =>
            rw [hMm] at hcl2
            have HF : Hid (spinTo rec l k (L, way) (m + 1) = (M, wy)) := by show _ = _; rw [HTS.out, hMm]; rfl
            clear hMm
            gi_wp2_with fail
            go_roundw
            case rel => exact ⟨m + 1, by omega, by go_num, wv2, by rw [HF.out]; exact (HP.out.1.mono ((Ext.refl wr).alloc _)), HP.out.2.trans (SpinK.ext ((Ext.refl wr).alloc _))⟩
            case measure => simp [intOf]; omega
          case true =>
            rw [hMm] at hcl2
            have HMm := hid hMm
            by_cases hrk : r.lo = k
            · have hrb : (r.lo == k) = true := by simpa using hrk
              have HMX : Hid (mid = rec r.hi (clr M m, wy)) := by show mid = _; rw [HMD.out, if_pos hrk]
              clear hrk
              have hc := (HCLR.out hMm r.hi).2.2
              have HSC0 := hid (SpinAt.clear HB.out HP.out.1 (i := m) hm96)
              have HSC := hid (And.intro (HSC0.out.1.mono ((Ext.refl (wr.setCell ⟨B2, m, none⟩ (.bool false))).alloc (.cells #[.int .i64 r.lo, .int .i64 r.hi] 86))) (HP.out.2.trans (HSC0.out.2.trans (SpinK.ext ((Ext.refl (wr.setCell ⟨B2, m, none⟩ (.bool false))).alloc (.cells #[.int .i64 r.lo, .int .i64 r.hi] 86))))))
              have HIH := hid (HI.out r.hi (clr M m) wy wv2 _ HSC.out.1 (by omega) (by omega))
              have hspin : ((wr.setCell ⟨B2, m, none⟩ (.bool false)).alloc (.cells #[.int .i64 r.lo, .int .i64 r.hi] 86)).cell? ⟨B3, 0, none⟩ = some (.func (.func 69) #[] #[.pointer (some ⟨B1, 0, none⟩), .pointer (some ⟨B2, 0, none⟩), .pointer (some ⟨B3, 0, none⟩), .pointer (some ⟨B4, 0, none⟩)]) := by rw [cell_of HSC.out.1.spin]; rfl
              have hfz := free_of HP.out.1.left
              have hgx : ((wr.setCell ⟨B2, m, none⟩ (.bool false)).alloc (.cells #[.int .i64 r.lo, .int .i64 r.hi] 86)).cell? ⟨wr.heap.size, 1, none⟩ = some (.int .i64 r.hi) := by rw [new_cell _ _ (by simp)]; rfl
              clear hMm
              gi_wp2_with (gi_at_call 69; ((with_reducible refine HIH.out.mono ?_); rintro e w3 ⟨rfl, wv3, hS3, hK3⟩))

              go_roundw

              case rel => exact ⟨1, by omega, by go_num, mid, wv3, by rw [HMX.out]; exact hS3, HSC.out.2.trans hK3, fun _ => (by first | exact HMm.out | trivial), fun h => absurd h (by omega), fun _ => rfl, fun h => absurd h (by omega)⟩
              case measure => simp [intOf]
            · have hrb : (r.lo == k) = false := by simpa using hrk
              have HMX : Hid (mid = (M, wy)) := by show mid = _; rw [HMD.out, if_neg hrk]
              clear hrk hMm
              gi_wp2_with fail
              go_roundw
              case rel => exact ⟨1, by omega, by go_num, mid, wv2, by rw [HMX.out]; exact HP.out.1.mono ((Ext.refl wr).alloc _), HP.out.2.trans (SpinK.ext ((Ext.refl wr).alloc _)), fun _ => (by first | exact HMm.out | trivial), fun h => absurd h (by omega), fun _ => rfl, fun h => absurd h (by omega)⟩
              case measure => simp [intOf]
        · obtain ⟨st, wv2, hS2, hK2, hMt, _, h1, _⟩ := HJ.out
          have hMm := hMt (by omega)
          obtain rfl : mid = st := (h1 rfl).symm
          clear HJ h1 hMt HP
          have HP := hid (And.intro hS2 hK2)
          clear hS2 hK2
          have hq := HQ1.out wr
          have hlb := lt_of_block HP.out.1.left
          have HMm := hid hMm
          by_cases hrk : r.lo = k
          · have HMX : Hid (mid = rec r.hi (clr M m, wy)) := by show mid = _; rw [HMD.out, if_pos hrk]
            have hcl2 : wr.cell? ⟨B2, m, none⟩ = some (.bool false) := by rw [cell_of HP.out.1.left, boolArr_get _ hm96, HMX.out, (HCLR.out hMm r.hi).2.1]
            have HF : Hid (spinTo rec l k (L, way) (m + 1) = mid) := by show _ = _; rw [HTS.out, if_pos hMm, if_pos hrk, HMX.out]
            clear hMm hrk
            gi_wp2_with fail
            go_roundw
            case rel => exact ⟨m + 1, by omega, by go_num, wv2, by rw [HF.out]; exact (HP.out.1.mono ((Ext.refl wr).alloc _)), HP.out.2.trans (SpinK.ext ((Ext.refl wr).alloc _))⟩
            case measure => simp [intOf]; omega
          · obtain rfl : mid = (M, wy) := by rw [HMD.out, if_neg hrk]
            have HPn := hid (And.intro (show SpinAt n0 (.slice (some ⟨b, off, none⟩) l.length lc) l base B1 B2 B3 B4 wr M wy wv2 from HP.out.1) HP.out.2)
            clear HP
            have HP := HPn
            clear HPn
            have hcl2 : wr.cell? ⟨B2, m, none⟩ = some (.bool true) := by rw [cell_of HP.out.1.left, boolArr_get _ hm96, hMm]
            have HRK := hid hrk
            clear hrk
            by_cases hrh : r.hi = k
            · have hrb : (r.hi == k) = true := by simpa using hrh
              have HRH := hid hrh
              clear hrh
              have hc := (HCLR.out hMm r.lo).2.2
              have HSC0 := hid (SpinAt.clear HB.out HP.out.1 (i := m) hm96)
              have HSC := hid (And.intro (HSC0.out.1.mono ((Ext.refl (wr.setCell ⟨B2, m, none⟩ (.bool false))).alloc (.cells #[.int .i64 r.hi, .int .i64 r.lo] 86))) (HP.out.2.trans (HSC0.out.2.trans (SpinK.ext ((Ext.refl (wr.setCell ⟨B2, m, none⟩ (.bool false))).alloc (.cells #[.int .i64 r.hi, .int .i64 r.lo] 86))))))
              have HIH := hid (HI.out r.lo (clr M m) wy wv2 _ HSC.out.1 (by omega) (by omega))
              have hspin : ((wr.setCell ⟨B2, m, none⟩ (.bool false)).alloc (.cells #[.int .i64 r.hi, .int .i64 r.lo] 86)).cell? ⟨B3, 0, none⟩ = some (.func (.func 69) #[] #[.pointer (some ⟨B1, 0, none⟩), .pointer (some ⟨B2, 0, none⟩), .pointer (some ⟨B3, 0, none⟩), .pointer (some ⟨B4, 0, none⟩)]) := by rw [cell_of HSC.out.1.spin]; rfl
              have hfz := free_of HP.out.1.left
              have hgx : ((wr.setCell ⟨B2, m, none⟩ (.bool false)).alloc (.cells #[.int .i64 r.hi, .int .i64 r.lo] 86)).cell? ⟨wr.heap.size, 1, none⟩ = some (.int .i64 r.lo) := by rw [new_cell _ _ (by simp)]; rfl
              clear hMm
              gi_wp2_with (gi_at_call 69; ((with_reducible refine HIH.out.mono ?_); rintro e w3 ⟨rfl, wv3, hS3, hK3⟩))

              go_roundw

              case rel => exact ⟨2, by omega, by go_num, _, wv3, hS3, HSC.out.2.trans hK3, fun _ => (by first | exact HMm.out | trivial), fun h => absurd h (by omega), fun h => absurd h (by omega), fun _ => ⟨HRK.out, by rw [if_pos HRH.out]⟩⟩
              case measure => simp [intOf]
            · have hrb : (r.hi == k) = false := by simpa using hrh
              have HRH := hid hrh
              clear hrh hMm
              gi_wp2_with fail
              go_roundw
              case rel => exact ⟨2, by omega, by go_num, (M, wy), wv2, HP.out.1.mono ((Ext.refl wr).alloc _), HP.out.2.trans (SpinK.ext ((Ext.refl wr).alloc _)), fun _ => (by first | exact HMm.out | trivial), fun h => absurd h (by omega), fun h => absurd h (by omega), fun _ => ⟨HRK.out, by rw [if_neg HRH.out]⟩⟩
              case measure => simp [intOf]
        · obtain ⟨st, wv2, hS2, hK2, hMt, _, _, h2⟩ := HJ.out
          have hMm := hMt (by omega)
          have h22 := h2 rfl
          have HF : Hid (spinTo rec l k (L, way) (m + 1) = st) := by
            show _ = _
            rw [HTS.out, if_pos hMm, if_neg h22.1, h22.2]
          have HP := hid (And.intro hS2 hK2)
          clear HJ h2 hMt hS2 hK2 hMm h22
          gi_wp2_with fail
          go_roundw
          case rel => exact ⟨m + 1, by omega, by go_num, wv2, by rw [HF.out]; exact HP.out.1, HP.out.2⟩
          case measure => simp [intOf]; omega
    · obtain rfl : m = l.length := by omega
      obtain ⟨wv1, hS1, hK1⟩ := HJ.out
      clear HJ
      have HLE := hid (HLS.out l.length (Nat.le_refl _))
      obtain ⟨⟨M, wy⟩, hst⟩ : ∃ st, spinTo rec l k (L, way) l.length = st := ⟨_, rfl⟩
      rw [hst] at hS1 HLE
      have HST := hid hst
      clear hst
      simp only at hS1 HLE
      have hcl := HLE.out.len
      simp only at hcl
      have HP := hid (And.intro hS1 hK1)
      have hc4 := cell_of hS1.wayb
      clear hS1 hK1
      obtain ⟨v', w', hrun, hr', hgr, how⟩ := ints_append (HP.out.1.row.mono ((Ext.refl wr).alloc (.cells #[.int .i64 k] 3))) (by omega) k wr.heap.size (Ext.new (Ext.refl _))
      obtain ⟨xa, xn, xc, rfl⟩ := hr'.isSlice
      have hlt4 := HB.out.lt
      have hne4 := HB.out.ne
      have hsz := HP.out.1.size
      have hkp : ∀ j o, j < base → wr.heap[j]? = some o → w'.heap[j]? = some o := fun j o hj ho => grownBy_block hgr (((Ext.refl wr).alloc (.cells #[.int .i64 k] 3)).block ho) (fun e => by have := HP.out.1.own j e.symm; omega)
      have hb4 := hkp _ _ hlt4.2.2.2 HP.out.1.wayb
      have hd4 := cell_of hb4
      have hf4 := free_of hb4
      have HKP := hid hkp
      have HB4 := hid hb4
      have HRW := hid (And.intro hr' (And.intro hgr how))
      clear hkp hb4 hr' hgr how hlen hf hll HI HSR
      gi_wp2_with (refine wpIn_append_at (fun _ => trivial) rfl (wr.alloc (.cells #[.int .i64 k] 3)) (.tmp 43) (.tmp 45) 41 rfl (by with_reducible rfl) hrun rfl rfl rfl ?_)
      refine noGoto_end ?_
      go_end0
      rw [HST.out]
      have hxa : Ext wr (wr.alloc (.cells #[.int .i64 k] 3)) := (Ext.refl wr).alloc _
      have hbel : Ext n0 w' := Below.trans (HP.out.1.ext.trans hxa) ⟨HRW.out.2.1.os, HRW.out.2.1.tape, HRW.out.2.1.output, HRW.out.2.1.size, fun j hj => HRW.out.2.1.block j (Nat.lt_of_lt_of_le hj (HP.out.1.ext.trans hxa).size) (fun e => by have := HP.out.1.own j e.symm; have := HB.out.n1.1; omega)⟩
      have hwo : ∀ g, (Value.slice xa xn xc).ownBlock = some g → base ≤ g := fun g hg => by
        rcases HRW.out.2.2 with e | e
        · exact HP.out.1.own g (by rw [← e]; exact hg)
        · rw [hg] at e; cases e; exact Nat.le_trans hsz hxa.size
      refine ⟨rfl, _, ⟨hbel.set HB.out.n1.2.2.2 _ _, by have := HRW.out.2.1.size; have := hxa.size; simp; omega, ?_, ?_, ?_, set_same HB4.out 0 _, HRW.out.1.set (fun e => by have := hwo _ e; omega) _ _, hwo⟩, HP.out.2.trans ⟨by have := HRW.out.2.1.size; have := hxa.size; simp; omega, fun j o ho h2 h4 hv => ?_, ?_⟩⟩
      · rw [set_other hne4.2.1]; exact HKP.out _ _ hlt4.1 HP.out.1.list
      · rw [set_other hne4.2.2.2.2]; exact HKP.out _ _ hlt4.2.1 HP.out.1.left
      · rw [set_other hne4.2.2.2.1]; exact HKP.out _ _ hlt4.2.2.1 HP.out.1.spin
      · rw [set_other h4]; exact grownBy_block HRW.out.2.1 (hxa.block ho) (fun e => hv e.symm)
      · rcases HRW.out.2.2 with e | e
        · exact .inl e
        · exact .inr fun g hg => by rw [hg] at e; cases e; exact hxa.size



/-- No bar that is left meets at the knot. -/
def freeAt (l : List Spn) (k : Int) (L : Nat → Bool) (n : Nat) : Prop := ∀ j, j < n → L j = true → (l.getD j ⟨0, 0⟩).lo ≠ k ∧ (l.getD j ⟨0, 0⟩).hi ≠ k
theorem spinTo_free {l : List Spn} {rec : Int → Spin → Spin} (hr : ∀ k st, Less l.length 1 st (rec k st)) (k : Int) (st : Spin) : ∀ n, n ≤ l.length → freeAt l k (spinTo rec l k st n).1 n
  | 0, _ => fun j h => absurd h (by omega)
  | n + 1, h => by
    have ih := spinTo_free hr k st n (by omega)
    have hs := spinStep_less (k := k) hr (spinTo rec l k st n) (i := n) (by omega)
    intro j hj hL
    unfold spinTo at hL
    rcases Nat.lt_or_ge j n with h' | h'
    · exact ih j h' (hs.left j hL)
    · obtain rfl : j = n := by omega
      unfold spinStep at hL
      have hclr : ∀ k', (rec k' (clr (spinTo rec l k st j).1 j, (spinTo rec l k st j).2)).1 j = true → False := fun k' h => by
        have := (hr k' (clr (spinTo rec l k st j).1 j, (spinTo rec l k st j).2)).left j h
        simp [clr] at this
      split at hL
      · split at hL
        · exact (hclr _ hL).elim
        · next h1 =>
          split at hL
          · exact (hclr _ hL).elim
          · next h2 => exact ⟨h1, h2⟩
      · next hn => exact absurd hL (by simpa using hn)
theorem spinF_free (l : List Spn) (f : Nat) (k : Int) (st : Spin) : freeAt l k (spinF l (f + 1) k st).1 l.length :=
  spinTo_free (spinF_less l f) k st l.length (Nat.le_refl _)
/-- The pieces after so many beginnings, from the hand down. -/
def mendTo (l : List Spn) (P : Nat) : Nat → (Nat → Bool) × List (List Int)
  | 0 => (fun i => decide (i < l.length), [])
  | n + 1 => ((spinF l 97 ((P : Int) - n) ((mendTo l P n).1, [])).1, (mendTo l P n).2 ++ cutF P (spinF l 97 ((P : Int) - n) ((mendTo l P n).1, [])).2)
theorem mendTo_left (l : List Spn) (P : Nat) : ∀ n j, (mendTo l P n).1 j = true → j < l.length
  | 0, j, h => by simpa [mendTo] using h
  | n + 1, j, h => mendTo_left l P n j ((spinF_less l 97 _ _).left j h)
theorem mendTo_free (l : List Spn) (P : Nat) : ∀ (n m : Nat), m < n → freeAt l ((P : Int) - m) (mendTo l P n).1 l.length
  | 0, m, h => absurd h (by omega)
  | n + 1, m, h => by
    rcases Nat.lt_or_ge m n with h' | h'
    · intro j hj hL
      exact mendTo_free l P n m h' j hj ((spinF_less l 97 _ _).left j hL)
    · obtain rfl : m = n := by omega
      exact spinF_free l 96 _ _
/-- All bars are run along once the beginnings have come down to 0. -/
theorem mendTo_all {l : List Spn} {P : Nat} (hl : ∀ s ∈ l, 0 ≤ s.lo ∧ s.lo ≤ P) : ∀ j, (mendTo l P (P + 1)).1 j = false := by
  intro j
  cases h : (mendTo l P (P + 1)).1 j
  · rfl
  · have hj := mendTo_left l P (P + 1) j h
    have hb := hl l[j] (List.getElem_mem hj)
    have hf := mendTo_free l P (P + 1) (P - (l[j].lo).toNat) (by omega) j hj h
    rw [getD_of hj] at hf
    exact absurd rfl (show ¬ (l[j].lo = l[j].lo) from fun _ => hf.1 (by omega))
theorem spinF_idle {l : List Spn} {f : Nat} {k : Int} {L : Nat → Bool} (h : ∀ j, L j = false) (way : List Int) : spinF l (f + 1) k (L, way) = (L, way ++ [k]) := by
  have key : ∀ n, spinTo (spinF l f) l k (L, way) n = (L, way) := fun n => by
    induction n with
    | zero => rfl
    | succ n ih => unfold spinTo; rw [ih]; unfold spinStep; simp [h n]
  show ((spinTo (spinF l f) l k (L, way) l.length).1, _) = _
  rw [key]
theorem cutF_one (P k : Int) : cutF P [k] = [] := by
  unfold cutF
  simp only [List.singleton_append, List.length_singleton]
  by_cases h : k = P
  · subst h; simp [cutTo, cutStep]
  · simp [cutTo, cutStep, h]
theorem mendTo_idle {l : List Spn} {P n : Nat} (h : ∀ j, (mendTo l P n).1 j = false) : ∀ m, n ≤ m → (mendTo l P m).2 = (mendTo l P n).2 ∧ ∀ j, (mendTo l P m).1 j = false := by
  intro m hm
  induction m with
  | zero => obtain rfl : n = 0 := by omega
            exact ⟨rfl, h⟩
  | succ m ih =>
    rcases Nat.lt_or_ge m n with h' | h'
    · obtain rfl : n = m + 1 := by omega
      exact ⟨rfl, h⟩
    · obtain ⟨h1, h2⟩ := ih h'
      have hs := spinF_idle (l := l) (f := 96) (k := (P : Int) - m) h2 []
      refine ⟨?_, fun j => ?_⟩
      · show (mendTo l P m).2 ++ cutF P (spinF l 97 _ _).2 = _
        rw [hs, List.nil_append, cutF_one, List.append_nil, h1]
      · show (spinF l 97 _ _).1 j = false
        rw [hs]; exact h2 j
/-- The pieces that mend a torn net, as the program makes them. -/
def mendF (l : List Spn) (wide high : Int) : List (List Int) := (mendTo (handTo l (wide * high) (wide * high).toNat) (wide * high).toNat ((wide * high).toNat + 1)).2

end Go.Proofs.Ytmjelgonhpgmbaa
