/- The splits of debts. -/
import Derived.Test.YtjocoadhalimjaaGreatRAR
import Derived.Laws.EntriesVeiled
import Derived.Test.YtjocoadhalimjaaGreatRAL
set_option linter.unusedSimpArgs false
set_option linter.unusedVariables false
namespace Go.Proofs.YtjocoadhalimjaaGreat
section
open Go Go.RowKit Go.Shelf

theorem zeroSpOk (xs : List Int) : SpOk xs.length (balF xs) [(.int .i64 0, .agg #[.int .i64 0, .int .i64 0])] := by
  refine ⟨List.mem_singleton.2 rfl, fun p hp => ?_⟩
  rw [List.mem_singleton] at hp
  exact ⟨0, 0, 0, hp, .inl ⟨rfl, rfl, rfl⟩⟩
set_option maxRecDepth 100000 in
set_option maxHeartbeats 16000000 in
theorem splits_any (v : Value) (xs : List Int) (w : World) (hv : IntsAt w v xs) (hl : xs.length ≤ 10) (hx : ∀ x ∈ xs, -1000000 ≤ x ∧ x ≤ 1000000) (hs : xs.sum = 0) :
    Cal 86 #[v] w fun e w' => ∃ (bm : Nat) (m : GMap) (g t : Nat), e = .returned (.map (some bm)) ∧ Ext w w' ∧ Hid (w.heap.size ≤ bm ∧ GMapAt (.int .i64) w' bm m ∧ SpOk xs.length (balF xs) m ∧ entG m (openTo xs xs.length) g t) := by
  obtain ⟨da, dc, rfl, _⟩ := id hv
  have HV := hid hv
  have HL := hid hl
  have HXB := hid hx
  have HSM := hid hs
  have hmm := @run_makeMap Tryz.prog
  have hx1 : Ext w ((w.alloc (.cells #[.slice da xs.length dc] 94)).alloc (.map #[] 0)) := ((Ext.refl _).alloc _).alloc _
  have hm1 : GMapAt (.int .i64) ((w.alloc (.cells #[.slice da xs.length dc] 94)).alloc (.map #[] 0)) (w.heap.size + 1) [] := by
    have := GMapAt.made (.int .i64) (w.alloc (.cells #[.slice da xs.length dc] 94)); rwa [World.size_alloc] at this
  obtain ⟨o, hup, hm2⟩ := gupdate_new hm1 (show MapKept.IsKey (.int .i64) (.int .i64 0) from rfl) (by simp) (.agg #[.int .i64 0, .int .i64 0]) Tryz.underlying132 Tryz.underlying134
  have hx2 : Ext w (((w.alloc (.cells #[.slice da xs.length dc] 94)).alloc (.map #[] 0)).putObj (w.heap.size + 1) o) := below_put hx1 (by omega) o
  have hb2 : (((w.alloc (.cells #[.slice da xs.length dc] 94)).alloc (.map #[] 0)).putObj (w.heap.size + 1) o).heap[w.heap.size]? = some (.cells #[.slice da xs.length dc] 94 (0, 0)) := by
    rw [World.putObj_heap_other (by omega)]
    exact ((Ext.refl _).alloc _).block (Ext.new (Ext.refl _))
  have hsz : (((w.alloc (.cells #[.slice da xs.length dc] 94)).alloc (.map #[] 0)).putObj (w.heap.size + 1) o).heap.size = w.heap.size + 2 := by simp
  have HX2 := hid hx2
  have HM2 := hid hm2
  have HB2 := hid hb2
  have HSZ := hid hsz
  clear hv hl hx hs hx1 hm1 hm2 hx2 hb2 hsz
  gi_enter Tryz.func86, Tryz.ntmps86
  gi_upto_region 2 with fail
  have hx3 : Ext w (((((w.alloc (.cells #[.slice da xs.length dc] 94)).alloc (.map #[] 0)).putObj (w.heap.size + 1) o)).alloc (.cells #[.map (some (w.heap.size + 1))] 132)) := HX2.out.alloc _
  have hy3 := (Ext.refl ((((w.alloc (.cells #[.slice da xs.length dc] 94)).alloc (.map #[] 0)).putObj (w.heap.size + 1) o))).alloc (.cells #[.map (some (w.heap.size + 1))] 132)
  have hb1 : (((((w.alloc (.cells #[.slice da xs.length dc] 94)).alloc (.map #[] 0)).putObj (w.heap.size + 1) o)).alloc (.cells #[.map (some (w.heap.size + 1))] 132)).heap[w.heap.size + 1 + 1]? = some (.cells #[.map (some (w.heap.size + 1))] 132 (0, 0)) := by
    have := Ext.new (w := (((w.alloc (.cells #[.slice da xs.length dc] 94)).alloc (.map #[] 0)).putObj (w.heap.size + 1) o)) (o := .cells #[.map (some (w.heap.size + 1))] 132) (Ext.refl _); rwa [HSZ.out] at this
  have HX3 := hid hx3
  have HB1 := hid hb1
  have HB23 := hid (hy3.block HB2.out)
  have HM3 := hid (HM2.out.mono hy3)
  have HS3 : Hid (w.heap.size + 1 < w.heap.size + 1 + 1) := hid (by omega)
  have HS4 : Hid (w.heap.size < w.heap.size + 1) := hid (by omega)
  clear hx3 hy3 hb1 HX2 HM2 HB2 HSZ hup hmm
  generalize ((((w.alloc (.cells #[.slice da xs.length dc] 94)).alloc (.map #[] 0)).putObj (w.heap.size + 1) o)).alloc (.cells #[.map (some (w.heap.size + 1))] 132) = W3 at *
  generalize w.heap.size + 1 + 1 = B1 at *
  generalize w.heap.size + 1 = bm at *
  have hx4 : Ext W3 (W3.alloc (.cells #[.nilFunc] 151)) := (Ext.refl _).alloc _
  have hb3 : (W3.alloc (.cells #[.nilFunc] 151)).heap[W3.heap.size]? = some (.cells #[.nilFunc] 151 (0, 0)) := Ext.new (Ext.refl _)
  have hs5 : B1 < W3.heap.size := lt_of_block HB1.out
  gi_upto_region 3 with fail
  have HX4 := hid (HX3.out.trans hx4)
  have HB14 := hid (hx4.block HB1.out)
  have HB24 := hid (hx4.block HB23.out)
  have HM4 := hid (HM3.out.mono hx4)
  have HS5 := hid hs5
  clear hx4 hs5 HX3 HB1 HB23 HM3
  generalize W3.alloc (.cells #[.nilFunc] 151) = W4 at *
  generalize W3.heap.size = B3 at *
  have c3 := cell_of hb3
  have f3 := free_of hb3
  have l3 := lt_of_block hb3
  gi_upto_region 4 with fail
  have hx5 : Ext w (W4.setCell ⟨B3, 0, none⟩ (.func (.func 102) #[] #[.pointer (some ⟨B1, 0, none⟩), .pointer (some ⟨w.heap.size, 0, none⟩), .pointer (some ⟨B3, 0, none⟩)])) := Ext.set HX4.out (by have := HS5.out; have := HS4.out; have := HS3.out; omega) 0 _
  have h3' := set_same hb3 0 (.func (.func 102) #[] #[.pointer (some ⟨B1, 0, none⟩), .pointer (some ⟨w.heap.size, 0, none⟩), .pointer (some ⟨B3, 0, none⟩)])
  have h1' : (W4.setCell ⟨B3, 0, none⟩ (.func (.func 102) #[] #[.pointer (some ⟨B1, 0, none⟩), .pointer (some ⟨w.heap.size, 0, none⟩), .pointer (some ⟨B3, 0, none⟩)])).heap[B1]? = _ := (set_other (by have := HS5.out; omega) 0 _).trans HB14.out
  have h2' : (W4.setCell ⟨B3, 0, none⟩ (.func (.func 102) #[] #[.pointer (some ⟨B1, 0, none⟩), .pointer (some ⟨w.heap.size, 0, none⟩), .pointer (some ⟨B3, 0, none⟩)])).heap[w.heap.size]? = _ := (set_other (by have := HS5.out; have := HS4.out; have := HS3.out; omega) 0 _).trans HB24.out
  have hm' : GMapAt (.int .i64) (W4.setCell ⟨B3, 0, none⟩ (.func (.func 102) #[] #[.pointer (some ⟨B1, 0, none⟩), .pointer (some ⟨w.heap.size, 0, none⟩), .pointer (some ⟨B3, 0, none⟩)])) bm _ := HM4.out.kept fun o ho => by rw [set_other (by have := HS5.out; have := HS3.out; omega)]; exact ho
  clear hb3 c3 f3 l3
  have HFA := hid (FindAt.mk (dv := .slice da xs.length dc) (d := xs) hx5 h1' h2' h3' hm' (zeroSpOk xs))
  have HB0 := hid (And.intro h1' h2')
  have HBS : Hid (w.heap.size < bm) := HS4
  clear hx5 h1' h2' h3' hm' HX4 HB14 HB24 HM4
  generalize W4.setCell ⟨B3, 0, none⟩ (.func (.func 102) #[] #[.pointer (some ⟨B1, 0, none⟩), .pointer (some ⟨w.heap.size, 0, none⟩), .pointer (some ⟨B3, 0, none⟩)]) = W5 at *
  have HOP := hid (fun (u : World) (hu : Ext W5 u) => open_any (.slice da xs.length dc) xs u (HV.out.mono (HFA.out.ext.trans hu)) HL.out)
  have HFI := hid (fun (u : World) (hu : Ext W5 u) => find_any w (.slice da xs.length dc) xs bm B1 w.heap.size B3 HV.out HL.out HXB.out (Nat.le_of_lt HBS.out) (openTo xs xs.length + 1) (openTo xs xs.length) _ u (by omega) (openTo_lt xs xs.length) (by rw [tal_open]; exact HSM.out) (HFA.out.mono hu))
  have c1 : ∀ e : Later W5, e.1.cell? ⟨w.heap.size, 0, none⟩ = some (.slice da xs.length dc) := fun e => by rw [cell_of (Ext.block e.grown HFA.out.b2)]; rfl
  have c3 : ∀ e : Later W5, e.1.cell? ⟨B3, 0, none⟩ = some (.func (.func 102) #[] #[.pointer (some ⟨B1, 0, none⟩), .pointer (some ⟨w.heap.size, 0, none⟩), .pointer (some ⟨B3, 0, none⟩)]) := fun e => by rw [cell_of (Ext.block e.grown HFA.out.b3)]; rfl
  refine quiet_wide 3 (by kernel_rfl) (by kernel_rfl) ?_
  simp only [List.take_succ_cons, List.take_zero, List.drop_succ_cons, List.drop_zero]
  have HC := hid (fun e : Later W5 => HOP.out e.1 e.grown)
  repeat (any_goals (first | go_big_quiet_step ((go_at_call 87; with_reducible exact Cal.quiet_same (HC.out _))) | quiet_step ((go_at_call 87; with_reducible exact Cal.quiet_same (HC.out _)))))
  refine wpQuiet_nil ?_
  rintro w6 ⟨⟨w6q, hx6⟩, hew6⟩
  obtain rfl : w6 = w6q := hew6
  have hx6 : Ext W5 w6 := hx6
  clear c1 c3
  have HCF := hid (HFI.out w6 hx6)
  clear HFI HOP HC
  gi_wp2_with (gi_at_call 102; ((with_reducible refine (HCF.out).mono ?_); rintro e w7 ⟨g, t, m2, rfl, hF2, he2, hs2, hn2, hk2⟩; have c1 := cell_of hF2.b1; have HF2 := hid hF2; have HE2 := hid he2; clear hF2 he2 hs2 hn2 hk2))
  go_ret
  exact ⟨bm, m2, g, t, rfl, HF2.out.ext, hid ⟨Nat.le_of_lt HBS.out, HF2.out.map, HF2.out.ok, HE2.out⟩⟩
end
section
open Go Go.RowKit Go.Shelf

section
variable {n : Nat} {b : Nat → Int}
/-- The groups found so far, and what is left. -/
structure GroupsOk (n : Nat) (b : Nat → Int) (S a : Nat) (ts : List Nat) : Prop where
  each : ∀ t ∈ ts, t < 2 ^ n ∧ Sv.Sub (bitN t) (bitN S) ∧ (∃ i, i < n ∧ bitN t i = true) ∧ Sv.tal n b (bitN t) = 0 ∧ ∀ A, Sv.Sub A (bitN t) → Sv.tal n b A = 0 → Sv.some' n A → ¬ Sv.some' n (Sv.dif (bitN t) A)
  apart : ts.Pairwise fun s t => ∀ i, bitN s i = true → bitN t i = false
  rest : ∀ t ∈ ts, ∀ i, bitN t i = true → bitN a i = false
  all : ∀ i, bitN S i = true → bitN a i = true ∨ ∃ t ∈ ts, bitN t i = true
  sub : Sv.Sub (bitN a) (bitN S)
theorem GroupsOk.start (S : Nat) : GroupsOk n b S S [] := ⟨by simp, .nil, by simp, fun i h => .inl h, Sv.Sub.refl _⟩
theorem GroupsOk.snoc {S a g t : Nat} {m : GMap} {ts : List Nat} (hn : n ≤ 10) (h : GroupsOk n b S a ts) (hg : Good n b m a g t) : GroupsOk n b S (anN a t) (ts ++ [t]) := by
  have h1024 : a < 1024 := Nat.lt_of_lt_of_le hg.lt (Nat.pow_le_pow_right (n := 2) (by omega) hn)
  have hta : t ≤ a := sub_le hg.sub
  have hd := bitN_anN h1024 (show t < 1024 by omega)
  obtain ⟨g', t', h1, h2, h3⟩ := hg.rest
  refine ⟨fun s hs => ?_, ?_, fun s hs i hi => ?_, fun i hi => ?_, fun i hi => ?_⟩
  · rcases List.mem_append.1 hs with hs | hs
    · exact h.each s hs
    · rw [List.mem_singleton] at hs
      subst hs
      refine ⟨by have := hg.lt; omega, hg.sub.trans h.sub, hg.some, hg.tz, fun A hA h0 hs => ?_⟩
      have hb := hg.best
      rw [h1] at hb
      exact Sv.best_least hb hg.sub hg.tz h2.1 hA h0 hs
  · rw [List.pairwise_append]
    refine ⟨h.apart, List.pairwise_singleton _ _, fun s hs u hu i hi => ?_⟩
    rw [List.mem_singleton] at hu
    subst hu
    have h4 := h.rest s hs i hi
    cases h5 : bitN u i with
    | false => rfl
    | true => rw [hg.sub i h5] at h4; cases h4
  · rw [hd]
    rcases List.mem_append.1 hs with hs | hs
    · have := h.rest s hs i hi; simp [Sv.dif, this]
    · rw [List.mem_singleton] at hs
      subst hs
      simp [Sv.dif, hi]
  · rw [hd]
    rcases h.all i hi with h4 | ⟨s, hs, h4⟩
    · cases h5 : bitN t i with
      | false => left; simp [Sv.dif, h4, h5]
      | true => right; exact ⟨t, by simp, h5⟩
    · right; exact ⟨s, by simp [hs], h4⟩
  · rw [hd] at hi
    exact h.sub i (Sv.sub_dif _ _ i hi)
theorem Good.less {a g t : Nat} {m : GMap} (hn : n ≤ 10) (hg : Good n b m a g t) : anN a t < a := by
  have h1024 : a < 1024 := Nat.lt_of_lt_of_le hg.lt (Nat.pow_le_pow_right (n := 2) (by omega) hn)
  have hta : t ≤ a := sub_le hg.sub
  have hd := bitN_anN h1024 (show t < 1024 by omega)
  have h1 := anN_le a t
  rcases Nat.lt_or_ge (anN a t) a with h | h
  · exact h
  · have he : anN a t = a := by omega
    obtain ⟨i, hi, hb⟩ := hg.some
    rw [he] at hd
    have h2 := congrFun hd i
    have h3 := hg.sub i hb
    simp [Sv.dif, h3, hb] at h2
end
/-- Lists of numbers in memory, each a row of its own. -/
def GsAt (n0 : Nat) (w : World) (vs : List Value) (gs : List (List Int)) : Prop :=
  vs.length = gs.length ∧ ∀ k, k < gs.length → Row w 3 1 (vs.getD k undef) (gs.getD k []).length (intsV (gs.getD k [])) ∧ ∀ g, (vs.getD k undef).ownBlock = some g → n0 ≤ g
theorem row_mem {w : World} {T : TypeId} {sz n : Nat} {v : Value} {xs : List Value} (h : Row w T sz v n xs) {g : Nat} (hg : v.ownBlock = some g) : ∃ cur, w.heap[g]? = some (.cells cur T (0, 0)) := by
  rcases h.2 with ⟨rfl, _⟩ | ⟨g', cap, cur, rfl, hb, _⟩
  · simp [Value.ownBlock] at hg
  · simp [Value.ownBlock] at hg
    subst hg; exact ⟨cur, hb⟩
theorem GsAt.kept {n0 : Nat} {w w' : World} {vs : List Value} {gs : List (List Int)} (h : GsAt n0 w vs gs) (hk : ∀ g cs, n0 ≤ g → w.heap[g]? = some (.cells cs 3 (0, 0)) → w'.heap[g]? = some (.cells cs 3 (0, 0))) : GsAt n0 w' vs gs := by
  refine ⟨h.1, fun k hk' => ?_⟩
  obtain ⟨h1, h2⟩ := h.2 k hk'
  refine ⟨h1.kept fun g o ho hg => ?_, h2⟩
  obtain ⟨cur, hc⟩ := row_mem h1 ho
  rw [hc] at hg; cases hg
  exact hk g cur (h2 g ho) hc
theorem GsAt.mono {n0 : Nat} {w w' : World} {vs : List Value} {gs : List (List Int)} (h : GsAt n0 w vs gs) (hx : Ext w w') : GsAt n0 w' vs gs := h.kept fun _ _ _ ho => hx.block ho
theorem GsAt.snoc {n0 : Nat} {w : World} {vs : List Value} {gs : List (List Int)} (h : GsAt n0 w vs gs) {v : Value} {g : List Int} (hr : Row w 3 1 v g.length (intsV g)) (ho : ∀ k, v.ownBlock = some k → n0 ≤ k) : GsAt n0 w (vs ++ [v]) (gs ++ [g]) := by
  refine ⟨by simp [h.1], fun k hk => ?_⟩
  rcases Nat.lt_or_ge k gs.length with hl | hl
  · have e1 : (vs ++ [v]).getD k undef = vs.getD k undef := by
      rw [List.getD_eq_getElem?_getD, List.getD_eq_getElem?_getD, List.getElem?_append_left (by rw [h.1]; exact hl)]
    have e2 : (gs ++ [g]).getD k [] = gs.getD k [] := by
      rw [List.getD_eq_getElem?_getD, List.getD_eq_getElem?_getD, List.getElem?_append_left hl]
    rw [e1, e2]; exact h.2 k hl
  · have hkk : k = gs.length := by simp at hk; omega
    subst hkk
    have e1 : (vs ++ [v]).getD gs.length undef = v := by
      rw [List.getD_eq_getElem?_getD, ← h.1, List.getElem?_append_right (Nat.le_refl _)]; simp
    have e2 : (gs ++ [g]).getD gs.length [] = g := by
      rw [List.getD_eq_getElem?_getD, List.getElem?_append_right (Nat.le_refl _)]; simp
    rw [e1, e2]; exact ⟨hr, ho⟩
theorem info23 : (Tryz.prog.info? 23).map (fun i => (i.zero, i.size, i.bytes)) = some (some (.slice none 0 0), 1, 24) := by kernel_rfl
theorem field137_1 (x y : Int) (w : World) : (Instr.field 137 (.agg #[.int .i64 x, .int .i64 y]) 1).run Tryz.prog w = .ok (.int .i64 y) w := by
  simp [Instr.field, go_sem, asAgg]
def grpsN (ts : List Nat) : List (List Int) := ts.map fun t => numsTo t 10
theorem grpsN_snoc (ts : List Nat) (t : Nat) : grpsN (ts ++ [t]) = grpsN ts ++ [numsTo t 10] := by simp [grpsN]
set_option maxRecDepth 100000 in
set_option maxHeartbeats 16000000 in
theorem groups_any (v : Value) (xs : List Int) (w : World) (hv : IntsAt w v xs) (hl : xs.length ≤ 10) (hx : ∀ x ∈ xs, -1000000 ≤ x ∧ x ≤ 1000000) (hs : xs.sum = 0) :
    Cal 63 #[v] w fun e w' => ∃ (r : Value) (vs : List Value) (ts : List Nat), e = .returned r ∧ Ext w w' ∧ Hid (Row w' 23 1 r ts.length vs ∧ (∀ g, r.ownBlock = some g → w.heap.size ≤ g) ∧ GsAt w.heap.size w' vs (grpsN ts) ∧ GroupsOk xs.length (balF xs) (openTo xs xs.length) 0 ts ∧ Sv.Best xs.length (balF xs) (Sv.nz xs.length (balF xs)) ts.length ∧ ts.length ≤ 10) := by
  have HSP := hid (splits_any v xs w hv hl hx hs)
  have HOP := hid (fun (u : World) (hu : Ext w u) => open_any v xs u (hv.mono hu) hl)
  have HL := hid hl
  clear hv hx hs hl
  gi_enter Tryz.func63, Tryz.ntmps63
  gi_upto_region 3 with (gi_at_call 86; ((with_reducible refine (HSP.out).mono ?_); rintro e w1 ⟨bm, m, g0, t0, rfl, hx1, HM⟩))
  have HX1 := hid hx1
  have HO1 := hid (HOP.out w1 hx1)
  clear hx1 HSP HOP
  gi_wp2_with (gi_at_call 87; ((with_reducible refine (HO1.out).mono ?_); rintro e w2 ⟨rfl, rfl⟩))
  clear HO1
  have HG0 : Hid (g0 ≤ 10) := hid (by have := best_le (HM.out.2.2.1.best HM.out.2.2.2); have := HL.out; omega)
  have HJ : Hid (∃ (vs : List Value) (ts : List Nat) (g t : Nat), Ext w w1 ∧ GMapAt (.int .i64) w1 bm m ∧ Row w1 23 1 (.slice none 0 0) ts.length vs ∧ (∀ g, (Value.slice none 0 0).ownBlock = some g → w.heap.size ≤ g) ∧ GsAt w.heap.size w1 vs (grpsN ts) ∧ GroupsOk xs.length (balF xs) (openTo xs xs.length) (openTo xs xs.length) ts ∧ entG m (openTo xs xs.length) g t ∧ ts.length + g = g0) :=
    hid ⟨[], [], g0, t0, HX1.out, HM.out.2.1, Row.nil _ _ _, fun g h => by simp [Value.ownBlock] at h, ⟨rfl, fun k h => by simp [grpsN] at h⟩, .start _, HM.out.2.2.2, by simp⟩
  have HMO := hid HM.out.2.2.1
  have HBM := hid HM.out.1
  have HE0 := hid HM.out.2.2.2
  clear HX1 HM
  gi_loopw [3, 5] (fun r al wr => ∃ a : Nat, al = .int .i64 a ∧ Hid (∃ (vs : List Value) (ts : List Nat) (g t : Nat), Ext w wr ∧ GMapAt (.int .i64) wr bm m ∧ Row wr 23 1 r ts.length vs ∧ (∀ g, r.ownBlock = some g → w.heap.size ≤ g) ∧ GsAt w.heap.size wr vs (grpsN ts) ∧ GroupsOk xs.length (balF xs) (openTo xs xs.length) a ts ∧ entG m a g t ∧ ts.length + g = g0)) (fun _ al _ => (intOf al).toNat)
  case atStart => exact ⟨_, rfl, HJ⟩
  case round =>
    obtain ⟨a, rfl, HI⟩ := hrel
    clear HJ
    obtain ⟨vs, ts, g, t, hx, hm, hrow, hown, hgs, hok, he, hlen⟩ := HI.out
    obtain ⟨g1, t1, hve, hkey⟩ := HMO.out.key he
    have e1 : g = g1 := by simp at hve; omega
    have e2 : t = t1 := by simp at hve; omega
    subst e1 e2
    obtain ⟨na, nc, rfl⟩ := hrow.isSliceN
    by_cases ha : a = 0
    · subst ha
      have hg0 : g = 0 := by
        rcases hkey with h | ⟨h, _⟩
        · exact h.2.1
        · omega
      subst hg0
      have HR := hid (And.intro hx (And.intro hrow (And.intro hown (And.intro hgs hok))))
      have HLN := hid hlen
      clear HI hx hm hrow hown hgs hok he hlen hve hkey
      gi_wp2_with fail
      go_ret
      refine ⟨_, vs, ts, rfl, HR.out.1, hid ⟨HR.out.2.1, HR.out.2.2.1, HR.out.2.2.2.1, HR.out.2.2.2.2, ?_, ?_⟩⟩
      · have h1 := HMO.out.best HE0.out
        rw [openTo_nz] at h1
        have h2 := HLN.out
        simp at h2
        rw [h2]; exact h1
      · have h1 := HG0.out
        have h2 := HLN.out
        omega
    · have hpos : 0 < a := by omega
      have hgood : Good xs.length (balF xs) m a g t := by
        rcases hkey with h | ⟨_, h⟩
        · omega
        · exact h
      have hai : ¬ (a : Int) = 0 := by omega
      have hab : ((a : Int) == 0) = false := by simpa using hai
      have hac : ((a : Int) != 0) = true := by simpa using hai
      have h1024 : a < 1024 := Nat.lt_of_lt_of_le hgood.lt (Nat.pow_le_pow_right (n := 2) (by omega) HL.out)
      have htt : t < 1024 := by have := sub_le hgood.sub; omega
      have HLT := hid (hgood.less HL.out)
      have HOK2 := hid (hok.snoc HL.out hgood)
      obtain ⟨g', t', hg1, hg2, hg3⟩ := hgood.rest
      have HE2 := hid hg3
      have HLN : Hid (ts.length + 1 + g' = g0) := hid (by omega)
      have hlk := glookup_some hm (show MapKept.IsKey (.int .i64) (.int .i64 (a : Int)) from rfl) he false Tryz.underlying132 Tryz.underlying134
      simp only [Bool.false_eq_true, if_false] at hlk
      have hfd := fun u => field137_1 g t u
      have HNU := hid (fun u => numbers_any t u htt)
      have han := bits_andNot h1024 htt
      have HM2 := hid hm
      have HX2 := hid hx
      have HR2 := hid hrow
      have HO2 := hid hown
      have HG2 := hid hgs
      have HAN := hid han
      have HEM := hid he
      clear HI hx hm hrow hown hgs hok he hlen hve hkey hgood hg1 hg2 hg3 han
      obtain ⟨i0, hi0, hz0, hz1, hz2⟩ := info_parts info23
      have HZ := hid (And.intro hi0 (And.intro hz0 (And.intro hz1 hz2)))
      have hmax : ts.length + 1 ≤ 1000000000 := by have := HLN.out; have := HG0.out; omega
      clear hi0 hz0 hz1 hz2
      obtain ⟨kl, hkl⟩ : ∃ kl, (numsTo t 10).length = kl := ⟨_, rfl⟩
      rw [hkl] at HNU
      obtain ⟨tl, htl⟩ : ∃ tl, ts.length = tl := ⟨_, rfl⟩
      rw [htl] at HR2 HO2 hmax ⊢
      obtain ⟨a2, ha2⟩ : ∃ a2, anN a t = a2 := ⟨_, rfl⟩
      rw [ha2] at HLT HOK2 HE2 HAN
      have han := HAN.out
      have HKL := hid hkl
      have HTL := hid htl
      clear hkl htl ha2
      gi_wp2_with (first | (gi_at_call 88; ((with_reducible refine (HNU.out _).mono ?_); rintro e w3 ⟨r3, rfl, hx3, HR3⟩; obtain ⟨ra, rc, rfl⟩ := HR3.out.1.isSliceN; have HX3 := hid (HX2.out.trans hx3); have hx4 : Ext w3 (w3.alloc (.cells #[.slice ra kl rc] 23)) := (Ext.refl _).alloc _; have HRW := hid (HR2.out.mono (hx3.trans hx4)); have HM4 := hid (HM2.out.mono (hx3.trans hx4)); have HG4 := hid (HG2.out.mono (hx3.trans hx4)); have HN4 := hid (HR3.out.1.mono hx4); have HX4 := hid (HX3.out.trans hx4); have HW3 := hid hx3.size; have HNW : Hid (∀ j u, ([.slice ra kl rc] : List Value)[j]? = some u → (w3.alloc (.cells #[.slice ra kl rc] 23)).cell? ((⟨w3.heap.size, 0, none⟩ : Addr).add j) = some u) := (fun j u hj => by rw [Addr.add_mid, Nat.zero_add, new_cell _ _ rfl]; simpa using hj); clear hx3 hx4)) | (refine wpIn_append_row (fun _ => trivial) rfl (.tmp 18) (.tmp 24) rfl Tryz.underlying61 HZ.out.1 HZ.out.2.1 HZ.out.2.2.1 HZ.out.2.2.2 (by simp [Value.cells]) (by omega) (v := .slice na tl nc) rfl HRW.out ⟨w3.heap.size, 0, none⟩ 1 rfl [.slice ra kl rc] rfl HNW.out (fun u hu => by simp at hu; subst hu; rfl) hmax (by omega) ?_; intro v' w' hrow' hgr' how'; have hm5 : GMapAt (.int .i64) w' bm m := HM4.out.kept (fun o ho => grownBy_block hgr' ho (fun e => by obtain ⟨cur, hc⟩ := row_mem HRW.out e.symm; exact HM4.out.notCells hc rfl)); have hlk5 := glookup_some hm5 (show MapKept.IsKey (.int .i64) (.int .i64 (a : Int)) from rfl) HEM.out false Tryz.underlying132 Tryz.underlying134; simp only [Bool.false_eq_true, if_false] at hlk5; have HM5 := hid hm5; clear hm5))
      have hbel := ext_grown HX4.out hgr' (fun g hg => HO2.out g hg)
      have hown' : ∀ g, v'.ownBlock = some g → w.heap.size ≤ g := fun g hg => by
        rcases how' with e | e
        · exact HO2.out g (by rw [← e]; exact hg)
        · rw [hg] at e; cases e; exact HX4.out.size
      have hkk : ∀ g cs, w.heap.size ≤ g → (w3.alloc (.cells #[.slice ra kl rc] 23)).heap[g]? = some (.cells cs 3 (0, 0)) → w'.heap[g]? = some (.cells cs 3 (0, 0)) := fun g cs _ ho => grownBy_block hgr' ho (fun e => by
        obtain ⟨cur, hc⟩ := row_mem HRW.out e.symm
        rw [ho] at hc; cases hc)
      have hn4 := HN4.out
      have hg5 : GsAt w.heap.size w' (vs ++ [.slice ra kl rc]) (grpsN (ts ++ [t])) := by
        rw [grpsN_snoc]
        refine GsAt.kept (w := w3.alloc (.cells #[.slice ra kl rc] 23)) (HG4.out.snoc (by rw [HKL.out]; exact hn4) (fun k hk => by have h1 := HR3.out.2 k hk; have h2 := HX2.out.size; omega)) hkk
      have hl4 := HLT.out
      exact ⟨⟨a2, rfl, hid ⟨_, ts ++ [t], g', t', hbel, HM5.out, by rw [List.length_append, HTL.out]; exact hrow', hown', hg5, HOK2.out, HE2.out, by have := HLN.out; simp; omega⟩⟩, by simp [intOf]; omega⟩
end
section
open Go Go.RowKit Go.Shelf Go.MapKept

/-- Balances. -/
def debtsB (xs : List Int) : Bool := decide (xs.length ≤ 10) && (areB (-1000000) 1000000 xs && (xs.sum == 0))
theorem debts_ok {xs : List Int} (h : debtsB xs = true) : xs.length ≤ 10 ∧ (∀ x ∈ xs, -1000000 ≤ x ∧ x ≤ 1000000) ∧ xs.sum = 0 := by
  unfold debtsB at h
  simp only [Bool.and_eq_true, decide_eq_true_eq, beq_iff_eq] at h
  exact ⟨h.1, areB_iff.1 h.2.1, h.2.2⟩
theorem eqlNil (a : Option Addr) (n c : Nat) (w : World) : (binOp .eql 23 (.slice a n c) (.slice none 0 0)).run Tryz.prog w = .ok (.bool a.isNone) w := by
  have h : ∀ d, (Op.equalIn (d + 1) 23 (.slice a n c) (.slice none 0 0)).run Tryz.prog w = .ok a.isNone w := fun d => by
    cases a <;> simp [Op.equalIn, run_underlying Tryz.underlying23]
  simp only [binOp]
  simp only [Op.equal]
  rw [show Op.maxDepth = 9999 + 1 from rfl]
  simp [h]
set_option maxRecDepth 100000 in
set_option maxHeartbeats 4000000 in
theorem clone_any (v : Value) (xs : List Int) (w : World) (hv : IntsAt w v xs) (hl : xs.length ≤ 1000) : Cal 85 #[v] w fun e w' => ∃ r, e = .returned r ∧ Ext w w' ∧ Hid (Row w' 3 1 r xs.length (intsV xs) ∧ ∀ g, r.ownBlock = some g → w.heap.size ≤ g) := by
  obtain ⟨a, cap, rfl, hll, hc⟩ := id hv
  cases a with
  | none =>
    have h0 : xs = [] := by
      cases xs with
      | nil => rfl
      | cons x xs =>
        obtain ⟨b, off, e, _⟩ := hc 0 (by simp)
        cases e
    clear hc hv hll
    subst h0
    have hq := eqlNil none 0 cap w
    gi_enter Tryz.func85, Tryz.ntmps85
    gi_wp2_with fail
    go_ret
    exact ⟨_, rfl, Ext.refl _, hid ⟨Row.nil _ _ _, fun g h => by simp [Value.ownBlock] at h⟩⟩
  | some p =>
    clear hc
    rcases Nat.eq_zero_or_pos xs.length with h0 | h0
    · have e := List.eq_nil_of_length_eq_zero h0
      subst e
      obtain ⟨i0, hi0, hz0, hz1, hz2⟩ := info_parts info3
      have hap := append_none (w := w.alloc (.cells #[] 3)) (t := 23) (ty := 23) Tryz.underlying23 hi0 (sa := some ⟨w.heap.size, 0, none⟩) (n := 0) (c := 0) (Nat.le_refl _) (some p) cap
      have hx : Ext w (w.alloc (.cells #[] 3)) := (Ext.refl _).alloc _
      have hr := row_empty w 3 1
      clear hv hll hi0 hz0 hz1 hz2 h0
      have hq := fun (n : Nat) => eqlNil (some p) n cap w
      gi_enter Tryz.func85, Tryz.ntmps85
      gi_wp2_with (refine wpIn_append_at (fun _ => trivial) rfl (w.alloc (.cells #[] 3)) (.tmp 5) (.tmp 6) 23 rfl (by with_reducible rfl) hap rfl rfl rfl ?_)
      go_ret
      exact ⟨_, rfl, hx, hid ⟨hr, fun g h => by simp [Value.ownBlock] at h; omega⟩⟩
    · obtain ⟨g, c, w', hrun, hrow, hg, hx⟩ := whole_ints (w := w) (Ext.refl w) hv ⟨h0, hl⟩
      have HR := hid hrow
      clear hv hll h0 hl hrow
      have hq := fun (n : Nat) => eqlNil (some p) n cap w
      gi_enter Tryz.func85, Tryz.ntmps85
      gi_wp2_with (refine wpIn_append_at (fun _ => trivial) rfl (w.alloc (.cells #[] 3)) (.tmp 5) (.tmp 6) 23 rfl (by with_reducible rfl) hrun rfl rfl rfl ?_)
      go_ret
      exact ⟨_, rfl, hx, hid ⟨HR.out, fun q hq => by simp [Value.ownBlock] at hq; omega⟩⟩
set_option maxHeartbeats 4000000 in
theorem newDebts_any (v : Value) (xs : List Int) (w : World) (hv : IntsAt w v xs) : Cal 62 #[v] w fun e w' => Ext w w' ∧ ((debtsB xs = false ∧ e = .returned (.tuple #[.slice none 0 0, .int .i64 33])) ∨
    (debtsB xs = true ∧ ∃ r, e = .returned (.tuple #[r, .int .i64 0]) ∧ Hid (Row w' 3 1 r xs.length (intsV xs) ∧ ∀ g, r.ownBlock = some g → w.heap.size ≤ g))) := by
  obtain ⟨a, cap, rfl, hll⟩ := id hv
  have HV := hid hv
  have HE : Hid (debtsB xs = (decide (xs.length ≤ 10) && (areB (-1000000) 1000000 xs && (xs.sum == 0)))) := hid rfl
  clear hv hll
  by_cases h1 : xs.length ≤ 10
  · have h1i : ¬ (10 : Int) < (xs.length : Int) := by omega
    cases h2 : areB (-1000000) 1000000 xs with
    | false =>
      have HF : Hid (debtsB xs = false) := hid (by rw [HE.out, h2]; simp)
      have HA := hid (areIn_b (-1000000) 1000000 _ xs false w HV.out h2)
      clear h2 HE
      gi_enter Tryz.func62, Tryz.ntmps62
      gi_wp2_with (gi_at_call 82; ((with_reducible refine (HA.out).mono ?_); rintro e w1 ⟨rfl, rfl⟩))
      exact bodyPost_ret (v := .tuple #[.slice none 0 0, .int .i64 33]) (by simp [results, Tryz.results62, go_sem]) rfl ⟨Ext.refl _, .inl ⟨HF.out, rfl⟩⟩
    | true =>
      have hb := areB_iff.1 h2
      have HA := hid (areIn_b (-1000000) 1000000 _ xs true w HV.out h2)
      have HS := hid (sumI_any _ xs w HV.out (fun x hx => by have := hb x hx; omega) (by omega))
      have HC := hid (clone_any _ xs w HV.out (by omega))
      cases h3 : (xs.sum == 0) with
      | false =>
        have HF : Hid (debtsB xs = false) := hid (by rw [HE.out, h3]; simp)
        generalize xs.sum = sm at *
        clear h2 HE hb
        gi_enter Tryz.func62, Tryz.ntmps62
        gi_wp2_with (first | (gi_at_call 82; ((with_reducible refine (HA.out).mono ?_); rintro e w1 ⟨rfl, rfl⟩)) | (gi_at_call 83; ((with_reducible refine (HS.out).mono ?_); rintro e w1 ⟨rfl, rfl⟩)))
        exact bodyPost_ret (v := .tuple #[.slice none 0 0, .int .i64 33]) (by simp [results, Tryz.results62, go_sem]) rfl ⟨Ext.refl _, .inl ⟨HF.out, rfl⟩⟩
      | true =>
        have HT : Hid (debtsB xs = true) := hid (by rw [HE.out, h3, h2]; simp [h1])
        generalize xs.sum = sm at *
        clear h2 HE hb
        gi_enter Tryz.func62, Tryz.ntmps62
        gi_wp2_with (first | (gi_at_call 82; ((with_reducible refine (HA.out).mono ?_); rintro e w1 ⟨rfl, rfl⟩)) | (gi_at_call 83; ((with_reducible refine (HS.out).mono ?_); rintro e w1 ⟨rfl, rfl⟩)) | (gi_at_call 85; ((with_reducible refine (HC.out).mono ?_); rintro e w2 ⟨r, rfl, hx2, hr2⟩)))
        exact bodyPost_ret (v := .tuple #[r, .int .i64 0]) (by simp [results, Tryz.results62, go_sem]) rfl ⟨hx2, .inr ⟨HT.out, r, rfl, hr2⟩⟩
  · have h1i : (10 : Int) < (xs.length : Int) := by omega
    have HF : Hid (debtsB xs = false) := hid (by rw [HE.out]; simp [h1])
    gi_enter Tryz.func62, Tryz.ntmps62
    gi_wp2_with fail
    exact bodyPost_ret (v := .tuple #[.slice none 0 0, .int .i64 33]) (by simp [results, Tryz.results62, go_sem]) rfl ⟨Ext.refl _, .inl ⟨HF.out, rfl⟩⟩
/-- The place of the first of which something is so, or -1. -/
def idxF (p : Int → Bool) (g : List Int) : Int := match g.findIdx? p with | some i => (i : Int) | none => -1
theorem idxF_at {p : Int → Bool} {g : List Int} {k : Nat} (h : k < g.length) (h0 : ∀ j, j < k → p (g.getD j 0) = false) (h1 : p g[k] = true) : idxF p g = k := by
  have : g.findIdx? p = some k := by
    rw [List.findIdx?_eq_some_iff_getElem]
    refine ⟨h, h1, fun j hj => ?_⟩
    have := h0 j hj
    rw [getD_of (by omega)] at this
    simp [this]
  unfold idxF; rw [this]
theorem idxF_none {p : Int → Bool} {g : List Int} (h0 : ∀ j, j < g.length → p (g.getD j 0) = false) : idxF p g = -1 := by
  have : g.findIdx? p = none := by
    rw [List.findIdx?_eq_none_iff]
    intro x hx
    obtain ⟨j, hj, rfl⟩ := List.getElem_of_mem hx
    have := h0 j hj
    rwa [getD_of hj] at this
  unfold idxF; rw [this]
def payP (d : List Int) : Int → Bool := fun x => decide (d.getD x.toNat 0 < 0)
def getP (d : List Int) : Int → Bool := fun x => decide (0 < d.getD x.toNat 0)
set_option maxHeartbeats 4000000 in
theorem indexP_any (dv : Value) (d : List Int) (gv : Value) (g : List Int) (w : World) (hd : IntsAt w dv d) (hg : IntsAt w gv g) (hr : ∀ x ∈ g, 0 ≤ x ∧ x < (d.length : Int)) :
    Cal 106 #[gv, .func (.func 105) #[dv] #[]] w fun e w' => e = .returned (.int .i64 (idxF (payP d) g)) ∧ w = w' := by
  obtain ⟨a, cap, rfl, ⟨hcap, hlen⟩, hc⟩ := hg
  have HC := hid hc
  have HF : Hid (∀ x ∈ g, Cal 105 #[dv, .int .i64 x] w fun e w' => e = .returned (.bool (payP d x)) ∧ w = w') := hid fun x hx => by
    have h := hr x hx
    obtain ⟨X, rfl⟩ : ∃ X : Nat, x = X := ⟨x.toNat, by omega⟩
    have := pays_any dv d X (by omega) w hd
    unfold payP
    rw [Int.toNat_natCast, getD_of (by omega)]
    exact this
  clear hc hd hr
  gi_enter Tryz.func106, Tryz.ntmps106
  gi_wp2_with fail
  gi_loop [5, 8, 9, 10, 11, 12, 13, 14, 15, 16, 17, 18] (fun u5 i u9 u10 u11 u12 u13 u14 u15 u16 u17 u18 => ∃ k : Nat, k ≤ g.length ∧ i = .int .i64 k ∧ Hid (∀ j, j < k → payP d (g.getD j 0) = false)) (fun _ i _ _ _ _ _ _ _ _ _ _ => g.length - (intOf i).toNat)
  case atStart => exact ⟨0, Nat.zero_le _, rfl, hid fun j h => absurd h (by omega)⟩
  case round =>
    obtain ⟨k, hk, rfl, HG⟩ := hrel
    by_cases hlt : k < g.length
    · have hki : (k : Int) < (g.length : Int) := by omega
      obtain ⟨b, off, rfl, hbb, hck⟩ := HC.out k hlt
      have HFK := hid (HF.out g[k] (List.getElem_mem _))
      have HGD : Hid (payP d (g.getD k 0) = payP d g[k]) := hid (by rw [getD_of hlt])
      have HAT := hid (fun (h : payP d g[k] = true) => idxF_at hlt HG.out h)
      generalize g[k] = x at *
      cases hp : payP d x with
      | true =>
        have HR := hid (HAT.out hp)
        rw [hp] at HFK
        clear hp HAT HG HGD
        gi_wp2_with (gi_at_call 105; ((with_reducible refine (HFK.out).mono ?_); rintro e w1 ⟨rfl, rfl⟩))
        go_ret
        exact ⟨by rw [HR.out]; rfl, rfl⟩
      | false =>
        have HU : Hid (∀ j, j < k + 1 → payP d (g.getD j 0) = false) := hid fun j hj => by
          rcases Nat.lt_or_ge j k with h | h
          · exact HG.out j h
          · obtain rfl : j = k := by omega
            rw [HGD.out]; exact hp
        rw [hp] at HFK
        clear hp HAT HG HGD
        gi_wp2_with (gi_at_call 105; ((with_reducible refine (HFK.out).mono ?_); rintro e w1 ⟨rfl, rfl⟩))
        go_round
        case rel => exact ⟨k + 1, by omega, by go_num, HU⟩
        case measure => simp [intOf]; omega
    · obtain rfl : k = g.length := by omega
      have HR := hid (idxF_none HG.out)
      gi_wp2_with fail
      go_ret
      exact ⟨by rw [HR.out]; rfl, rfl⟩
set_option maxHeartbeats 4000000 in
theorem indexG_any (dv : Value) (d : List Int) (gv : Value) (g : List Int) (w : World) (hd : IntsAt w dv d) (hg : IntsAt w gv g) (hr : ∀ x ∈ g, 0 ≤ x ∧ x < (d.length : Int)) :
    Cal 106 #[gv, .func (.func 107) #[dv] #[]] w fun e w' => e = .returned (.int .i64 (idxF (getP d) g)) ∧ w = w' := by
  obtain ⟨a, cap, rfl, ⟨hcap, hlen⟩, hc⟩ := hg
  have HC := hid hc
  have HF : Hid (∀ x ∈ g, Cal 107 #[dv, .int .i64 x] w fun e w' => e = .returned (.bool (getP d x)) ∧ w = w') := hid fun x hx => by
    have h := hr x hx
    obtain ⟨X, rfl⟩ : ∃ X : Nat, x = X := ⟨x.toNat, by omega⟩
    have := gets_any dv d X (by omega) w hd
    unfold getP
    rw [Int.toNat_natCast, getD_of (by omega)]
    exact this
  clear hc hd hr
  gi_enter Tryz.func106, Tryz.ntmps106
  gi_wp2_with fail
  gi_loop [5, 8, 9, 10, 11, 12, 13, 14, 15, 16, 17, 18] (fun u5 i u9 u10 u11 u12 u13 u14 u15 u16 u17 u18 => ∃ k : Nat, k ≤ g.length ∧ i = .int .i64 k ∧ Hid (∀ j, j < k → getP d (g.getD j 0) = false)) (fun _ i _ _ _ _ _ _ _ _ _ _ => g.length - (intOf i).toNat)
  case atStart => exact ⟨0, Nat.zero_le _, rfl, hid fun j h => absurd h (by omega)⟩
  case round =>
    obtain ⟨k, hk, rfl, HG⟩ := hrel
    by_cases hlt : k < g.length
    · have hki : (k : Int) < (g.length : Int) := by omega
      obtain ⟨b, off, rfl, hbb, hck⟩ := HC.out k hlt
      have HFK := hid (HF.out g[k] (List.getElem_mem _))
      have HGD : Hid (getP d (g.getD k 0) = getP d g[k]) := hid (by rw [getD_of hlt])
      have HAT := hid (fun (h : getP d g[k] = true) => idxF_at hlt HG.out h)
      generalize g[k] = x at *
      cases hp : getP d x with
      | true =>
        have HR := hid (HAT.out hp)
        rw [hp] at HFK
        clear hp HAT HG HGD
        gi_wp2_with (gi_at_call 107; ((with_reducible refine (HFK.out).mono ?_); rintro e w1 ⟨rfl, rfl⟩))
        go_ret
        exact ⟨by rw [HR.out]; rfl, rfl⟩
      | false =>
        have HU : Hid (∀ j, j < k + 1 → getP d (g.getD j 0) = false) := hid fun j hj => by
          rcases Nat.lt_or_ge j k with h | h
          · exact HG.out j h
          · obtain rfl : j = k := by omega
            rw [HGD.out]; exact hp
        rw [hp] at HFK
        clear hp HAT HG HGD
        gi_wp2_with (gi_at_call 107; ((with_reducible refine (HFK.out).mono ?_); rintro e w1 ⟨rfl, rfl⟩))
        go_round
        case rel => exact ⟨k + 1, by omega, by go_num, HU⟩
        case measure => simp [intOf]; omega
    · obtain rfl : k = g.length := by omega
      have HR := hid (idxF_none HG.out)
      gi_wp2_with fail
      go_ret
      exact ⟨by rw [HR.out]; rfl, rfl⟩

theorem contains_any (dv : Value) (d : List Int) (gv : Value) (g : List Int) (w : World) (hd : IntsAt w dv d) (hg : IntsAt w gv g) (hr : ∀ x ∈ g, 0 ≤ x ∧ x < (d.length : Int)) :
    Cal 104 #[gv, .func (.func 105) #[dv] #[]] w fun e w' => e = .returned (.bool (decide (0 ≤ idxF (payP d) g))) ∧ w = w' := by
  have H := hid (indexP_any dv d gv g w hd hg hr)
  clear hd hg hr
  gi_enter Tryz.func104, Tryz.ntmps104
  gi_wp2_with (gi_at_call 106; ((with_reducible refine (H.out).mono ?_); rintro e w1 ⟨rfl, rfl⟩))
  go_ret
  exact ⟨rfl, rfl⟩
def minI (x y : Int) : Int := if y < x then y else x
set_option maxHeartbeats 4000000 in
theorem least_any (x y : Int) (g : Nat) (w : World) (hg : w.cell? ⟨g, 0, none⟩ = some (.int .i64 y)) (hs : g < w.heap.size) :
    Cal 108 #[.int .i64 x, .slice (some ⟨g, 0, none⟩) 1 1] w fun e w' => e = .returned (.int .i64 (minI x y)) ∧ w = w' := by
  gi_enter Tryz.func108, Tryz.ntmps108
  gi_wp2_with fail
  gi_loop [0, 6, 9, 10, 11, 12, 13, 14, 15, 16, 17] (fun u0 u6 i u10 u11 u12 u13 u14 u15 u16 u17 => ∃ k : Nat, k ≤ 1 ∧ i = .int .i64 k ∧ (k = 0 → u0 = .int .i64 x) ∧ (k = 1 → u0 = .int .i64 (minI x y))) (fun _ _ i _ _ _ _ _ _ _ _ => 1 - (intOf i).toNat)
  case atStart => exact ⟨0, by omega, rfl, fun _ => rfl, fun h => absurd h (by omega)⟩
  case round =>
    obtain ⟨k, hk, rfl, h0, h1⟩ := hrel
    rcases (by omega : k = 0 ∨ k = 1) with rfl | rfl
    · obtain rfl := h0 rfl
      clear h0 h1
      by_cases hyx : y < x
      · gi_wp2_with fail
        go_round
        case rel => exact ⟨1, by omega, by go_num, fun h => absurd h (by omega), fun _ => by unfold minI; rw [if_pos hyx]⟩
        case measure => simp [intOf]
      · gi_wp2_with fail
        go_round
        case rel => exact ⟨1, by omega, by go_num, fun h => absurd h (by omega), fun _ => by unfold minI; rw [if_neg hyx]⟩
        case measure => simp [intOf]
    · have h2 := h1 rfl
      obtain ⟨z, hz⟩ : ∃ z, minI x y = z := ⟨_, rfl⟩
      rw [hz] at h2
      obtain rfl := h2
      have HZ := hid hz
      clear h0 h1 hz
      gi_wp2_with fail
      go_ret
      exact ⟨by rw [HZ.out]; rfl, rfl⟩
end
end Go.Proofs.YtjocoadhalimjaaGreat
