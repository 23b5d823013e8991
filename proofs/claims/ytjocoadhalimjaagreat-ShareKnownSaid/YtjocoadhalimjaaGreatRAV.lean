/- The groups of the example; lists of what each gets. -/
import Derived.Test.YtjocoadhalimjaaGreatRAU
import Derived.Test.YtjocoadhalimjaaGreatRAB
import Derived.Test.YtjocoadhalimjaaGreatRAC
set_option linter.unusedSimpArgs false
set_option linter.unusedVariables false
namespace Go.Proofs.YtjocoadhalimjaaGreat
section
open Go Go.RowKit Go.Shelf

theorem sum_le0 (f : Nat → Int) : ∀ l : List Nat, (∀ i ∈ l, f i ≤ 0) → (l.map f).sum ≤ 0 ∧ ∀ i ∈ l, f i < 0 → (l.map f).sum < 0
  | [], _ => ⟨by simp, by simp⟩
  | x :: l, h => by
    have ih := sum_le0 f l fun i hi => h i (List.mem_cons_of_mem _ hi)
    have h1 := h x List.mem_cons_self
    refine ⟨by rw [List.map_cons, List.sum_cons]; omega, fun i hi hlt => ?_⟩
    rw [List.map_cons, List.sum_cons]
    rcases List.mem_cons.1 hi with rfl | hi
    · omega
    · have := ih.2 i hi hlt; omega
theorem pack_pos {n : Nat} {b : Nat → Int} {S : Sv.St} {k : Nat} (h : Sv.Pack n b S k) : Sv.Sub S (Sv.nz n b) → k ≤ (List.range n).countP fun i => S i && decide (0 < b i) := by
  induction h with
  | none => intro _; exact Nat.zero_le _
  | @add S T k h1 h2 h3 h4 ih =>
    intro hs
    have h5 := ih fun i hi => hs i (Sv.sub_dif _ _ i hi)
    obtain ⟨i0, hi0, hT0⟩ := h2
    have hpos : ∃ i, i < n ∧ T i = true ∧ 0 < b i := by
      refine Classical.byContradiction fun hno => ?_
      have h6 := sum_le0 (fun i => if T i then b i else 0) (List.range n) fun i hi => by
        by_cases ht : T i = true
        · rw [if_pos ht]
          exact Classical.byContradiction fun hc => hno ⟨i, List.mem_range.1 hi, ht, by omega⟩
        · rw [if_neg ht]; exact Int.le_refl _
      have h7 := hs i0 (h1 i0 hT0)
      unfold Sv.nz at h7
      simp only [Bool.and_eq_true, decide_eq_true_eq] at h7
      have h8 : b i0 ≤ 0 := Classical.byContradiction fun hc => hno ⟨i0, hi0, hT0, by omega⟩
      have h9 := h6.2 i0 (List.mem_range.2 hi0) (by rw [if_pos hT0]; have := h7.2; omega)
      unfold Sv.tal at h3
      omega
    obtain ⟨i, hi, hT, hb⟩ := hpos
    have h6 := countP_less (p := fun i => Sv.dif S T i && decide (0 < b i)) (q := fun i => S i && decide (0 < b i)) (List.range n) (fun j hj => by
      simp only [Bool.and_eq_true] at hj ⊢
      exact ⟨Sv.sub_dif S T j hj.1, hj.2⟩) (List.mem_range.2 hi) (by simp [h1 i hT, hb]) (by simp [Sv.dif, hT])
    omega
theorem wkBest {k : Nat} (h : Sv.Best wkX.length (balF wkX) (Sv.nz wkX.length (balF wkX)) k) : k = 2 := by
  have hup := pack_pos h.1 (Sv.Sub.refl _)
  have hc : ((List.range wkX.length).countP fun i => Sv.nz wkX.length (balF wkX) i && decide (0 < balF wkX i)) = 2 := by kernel_rfl
  rw [hc] at hup
  have hsub : ∀ s, s < 1024 → (List.range 10).all (fun i => !(bitN s i) || Sv.nz wkX.length (balF wkX) i) = true → Sv.Sub (bitN s) (Sv.nz wkX.length (balF wkX)) := fun s hs ha i hi => by
    rw [List.all_eq_true] at ha
    have hlt : i < 10 := by
      rcases Nat.lt_or_ge i 10 with h | h
      · exact h
      · rw [bitN_high (n := 10) hs h] at hi; cases hi
    have := ha i (List.mem_range.2 hlt)
    rw [hi] at this
    simpa using this
  have h1 := hsub 7 (by omega) (by kernel_rfl)
  have hd : Sv.Sub (bitN 24) (Sv.dif (Sv.nz wkX.length (balF wkX)) (bitN 7)) := fun i hi => by
    have ha := hsub 24 (by omega) (by kernel_rfl) i hi
    have hn : bitN 7 i = false := by
      have hlt : i < 10 := by
        rcases Nat.lt_or_ge i 10 with h | h
        · exact h
        · rw [bitN_high (n := 10) (s := 24) (by omega) h] at hi; cases hi
      have hall : ((List.range 10).all fun i => !(bitN 24 i) || !(bitN 7 i)) = true := by kernel_rfl
      rw [List.all_eq_true] at hall
      have := hall i (List.mem_range.2 hlt)
      rw [hi] at this
      simpa using this
    simp [Sv.dif, ha, hn]
  have hp : Sv.Pack wkX.length (balF wkX) (Sv.nz wkX.length (balF wkX)) 2 :=
    .add h1 ⟨0, by decide, by kernel_rfl⟩ (by kernel_rfl) (.add hd ⟨3, by decide, by kernel_rfl⟩ (by kernel_rfl) (.none _))
  have := h.2 2 hp
  omega
/-- Lists of what each gets, in memory. -/
def DuAt (w : World) (v : Value) (l : List Du) : Prop :=
  ∃ a cap, v = .slice a l.length cap ∧ (l.length ≤ cap ∧ l.length ≤ 1000000000000000) ∧ ∀ i (h : i < l.length), ∃ b off, a = some ⟨b, off, none⟩ ∧ b < w.heap.size ∧
    w.cell? ⟨b, off + i * 4, none⟩ = some (.string l[i].nm) ∧ w.cell? ⟨b, off + i * 4 + 1, none⟩ = some (.int .i64 l[i].b) ∧ w.cell? ⟨b, off + i * 4 + 2, none⟩ = some (.int .i64 l[i].n) ∧ w.cell? ⟨b, off + i * 4 + 3, none⟩ = some (.int .i64 l[i].c)
theorem DuAt.mono {w w' : World} {v : Value} {l : List Du} (h : DuAt w v l) (hx : Ext w w') : DuAt w' v l := by
  obtain ⟨a, cap, hv, hl, hc⟩ := h
  refine ⟨a, cap, hv, hl, fun i hi => ?_⟩
  obtain ⟨b, off, ha, hb, h0, h1, h2, h3⟩ := hc i hi
  exact ⟨b, off, ha, Nat.lt_of_lt_of_le hb hx.size, by rw [hx.cell (p := ⟨b, _, none⟩) hb]; exact h0, by rw [hx.cell (p := ⟨b, _, none⟩) hb]; exact h1, by rw [hx.cell (p := ⟨b, _, none⟩) hb]; exact h2, by rw [hx.cell (p := ⟨b, _, none⟩) hb]; exact h3⟩
theorem duF_get : ∀ (l : List Du) (i : Nat) (h : i < l.length), (duF l)[i * 4]? = some (.string l[i].nm) ∧ (duF l)[i * 4 + 1]? = some (.int .i64 l[i].b) ∧ (duF l)[i * 4 + 2]? = some (.int .i64 l[i].n) ∧ (duF l)[i * 4 + 3]? = some (.int .i64 l[i].c)
  | [], i, h => by simp at h
  | d :: l, 0, h => ⟨rfl, rfl, rfl, rfl⟩
  | d :: l, i + 1, h => by
    have ih := duF_get l i (by simpa using h)
    have e : duF (d :: l) = duC d ++ duF l := rfl
    have hl : (duC d).length = 4 := rfl
    rw [e]
    refine ⟨?_, ?_, ?_, ?_⟩
    · rw [List.getElem?_append_right (by omega), hl, show (i + 1) * 4 - 4 = i * 4 by omega]; exact ih.1
    · rw [List.getElem?_append_right (by omega), hl, show (i + 1) * 4 + 1 - 4 = i * 4 + 1 by omega]; exact ih.2.1
    · rw [List.getElem?_append_right (by omega), hl, show (i + 1) * 4 + 2 - 4 = i * 4 + 2 by omega]; exact ih.2.2.1
    · rw [List.getElem?_append_right (by omega), hl, show (i + 1) * 4 + 3 - 4 = i * 4 + 3 by omega]; exact ih.2.2.2
theorem DuAt.of_row {w : World} {v : Value} {l : List Du} (h : Row w 53 4 v l.length (duF l)) (hl : l.length ≤ 1000) : DuAt w v l := by
  obtain ⟨_, h⟩ := h
  rcases h with ⟨rfl, h0⟩ | ⟨g, cap, cur, rfl, hg, h1, h2, h3, h4⟩
  · exact ⟨none, 0, by rw [h0], ⟨by omega, by omega⟩, fun i hi => by omega⟩
  · refine ⟨_, cap, rfl, ⟨h1, by omega⟩, fun i hi => ⟨g, 0, rfl, lt_of_block hg, ?_⟩⟩
    obtain ⟨k0, k1, k2, k3⟩ := duF_get l i hi
    have key : ∀ j u, (duF l)[j]? = some u → w.cell? ⟨g, j, none⟩ = some u := fun j u hj => by
      rw [← h4, List.getElem?_take] at hj
      split at hj
      · rw [Array.getElem?_toList] at hj; rw [cell_of hg]; exact hj
      · cases hj
    simp only [Nat.zero_add]
    exact ⟨key _ _ k0, key _ _ k1, key _ _ k2, key _ _ k3⟩
theorem neq53 (nm : ByteArray) (x y z : Int) (w : World) : (binOp .neq 53 (.agg #[.string nm, .int .i64 x, .int .i64 y, .int .i64 z]) (.agg #[.string nm, .int .i64 x, .int .i64 y, .int .i64 z])).run Tryz.prog w = .ok (.bool false) w := by
  rw [run_neq_struct]
  have h : (Op.equalIn 10000 53 (.agg #[.string nm, .int .i64 x, .int .i64 y, .int .i64 z]) (.agg #[.string nm, .int .i64 x, .int .i64 y, .int .i64 z])).run Tryz.prog w = .ok true w := by
    simp [go_sem]
  rw [h]; rfl
set_option maxRecDepth 100000 in
set_option maxHeartbeats 16000000 in
theorem sameDues_true (v1 v2 : Value) (l : List Du) (w : World) (h1 : DuAt w v1 l) (h2 : DuAt w v2 l) : Cal 27 #[v1, v2] w fun e w' => e = .returned (.bool true) ∧ Ext w w' := by
  obtain ⟨a1, c1, rfl, ⟨hl1, hm1⟩, hc1⟩ := h1
  obtain ⟨a2, c2, rfl, ⟨hl2, hm2⟩, hc2⟩ := h2
  have HA := hid hc1
  have HB := hid hc2
  have hlb : ((l.length : Int) == (l.length : Int)) = true := by simp
  clear hc1 hc2
  gi_enter Tryz.func27, Tryz.ntmps27
  gi_wp2_with fail
  gi_loopw [5] (fun i wr => ∃ k : Nat, k ≤ l.length ∧ i = .int .i64 k ∧ Hid (Ext w wr)) (fun i _ => l.length - (intOf i).toNat)
  case atStart => exact ⟨0, Nat.zero_le _, rfl, hid (Ext.refl _)⟩
  case round =>
    obtain ⟨k, hk, rfl, HX⟩ := hrel
    by_cases hlt : k < l.length
    · have hki : (k : Int) < (l.length : Int) := by omega
      obtain ⟨b1, o1, rfl, hb1, d0, d1, d2, d3⟩ := HA.out k hlt
      obtain ⟨b2, o2, rfl, hb2, g0, g1, g2, g3⟩ := HB.out k hlt
      rw [← HX.out.cell (p := ⟨b1, _, none⟩) hb1] at d0 d1 d2 d3
      rw [← HX.out.cell (p := ⟨b2, _, none⟩) hb2] at g0 g1 g2 g3
      have hb1r : b1 < wr.heap.size := Nat.lt_of_lt_of_le hb1 HX.out.size
      have hb2r : b2 < wr.heap.size := Nat.lt_of_lt_of_le hb2 HX.out.size
      generalize l[k] = d at *
      have HD1 := hid (And.intro d0 (And.intro d1 (And.intro d2 d3)))
      have HD2 := hid (And.intro g0 (And.intro g1 (And.intro g2 g3)))
      clear d0 d1 d2 d3 g0 g1 g2 g3 hb1 hb2
      gi_upto_region 6 with fail
      refine lex_wide 9 [] (by kernel_rfl) (by kernel_rfl) nStab_nil ?_
      simp only [List.take_succ_cons, List.take_zero, List.drop_succ_cons, List.drop_zero]
      apply lex_fun (rfl : psAt _ _ = none)
      · intro x u hR hf
        clear hR hf
        go_simp
        exact ⟨rfl, Ext.refl _⟩
      simp only [Act.put, List.setIfInBounds_toArray, List.set_cons_succ, List.set_cons_zero]
      apply lex_fun (rfl : psAt _ _ = none)
      · intro x u hR hf
        clear hR hf
        go_simp
        exact ⟨rfl, Ext.refl _⟩
      simp only [Act.put, List.setIfInBounds_toArray, List.set_cons_succ, List.set_cons_zero]
      apply lex_fun (rfl : psAt _ _ = none)
      · intro x u hR hf
        clear hR hf
        go_simp
        exact ⟨rfl, Ext.refl _⟩
      simp only [Act.put, List.setIfInBounds_toArray, List.set_cons_succ, List.set_cons_zero]
      apply lex_fun (rfl : psAt _ _ = none)
      · intro x u hR hf
        have c0 : u.cell? ⟨b1, o1 + k * 4, none⟩ = _ := (hR.cell (p := ⟨b1, o1 + k * 4, none⟩) hb1r).trans HD1.out.1
        have c1 : u.cell? ⟨b1, o1 + k * 4 + 1, none⟩ = _ := (hR.cell (p := ⟨b1, o1 + k * 4 + 1, none⟩) hb1r).trans HD1.out.2.1
        have c2 : u.cell? ⟨b1, o1 + k * 4 + 2, none⟩ = _ := (hR.cell (p := ⟨b1, o1 + k * 4 + 2, none⟩) hb1r).trans HD1.out.2.2.1
        have c3 : u.cell? ⟨b1, o1 + k * 4 + 3, none⟩ = _ := (hR.cell (p := ⟨b1, o1 + k * 4 + 3, none⟩) hb1r).trans HD1.out.2.2.2
        clear hR hf
        go_simp
        exact ⟨rfl, Ext.refl _⟩
      simp only [Act.put, List.setIfInBounds_toArray, List.set_cons_succ, List.set_cons_zero]
      apply lex_fun (rfl : psAt _ _ = none)
      · intro x u hR hf
        clear hR hf
        go_simp
        exact ⟨rfl, Ext.refl _⟩
      simp only [Act.put, List.setIfInBounds_toArray, List.set_cons_succ, List.set_cons_zero]
      apply lex_fun (rfl : psAt _ _ = none)
      · intro x u hR hf
        clear hR hf
        go_simp
        exact ⟨rfl, Ext.refl _⟩
      simp only [Act.put, List.setIfInBounds_toArray, List.set_cons_succ, List.set_cons_zero]
      apply lex_fun (rfl : psAt _ _ = none)
      · intro x u hR hf
        clear hR hf
        go_simp
        exact ⟨rfl, Ext.refl _⟩
      simp only [Act.put, List.setIfInBounds_toArray, List.set_cons_succ, List.set_cons_zero]
      apply lex_fun (rfl : psAt _ _ = none)
      · intro x u hR hf
        have c0 : u.cell? ⟨b2, o2 + k * 4, none⟩ = _ := (hR.cell (p := ⟨b2, o2 + k * 4, none⟩) hb2r).trans HD2.out.1
        have c1 : u.cell? ⟨b2, o2 + k * 4 + 1, none⟩ = _ := (hR.cell (p := ⟨b2, o2 + k * 4 + 1, none⟩) hb2r).trans HD2.out.2.1
        have c2 : u.cell? ⟨b2, o2 + k * 4 + 2, none⟩ = _ := (hR.cell (p := ⟨b2, o2 + k * 4 + 2, none⟩) hb2r).trans HD2.out.2.2.1
        have c3 : u.cell? ⟨b2, o2 + k * 4 + 3, none⟩ = _ := (hR.cell (p := ⟨b2, o2 + k * 4 + 3, none⟩) hb2r).trans HD2.out.2.2.2
        clear hR hf
        go_simp
        exact ⟨rfl, Ext.refl _⟩
      simp only [Act.put, List.setIfInBounds_toArray, List.set_cons_succ, List.set_cons_zero]
      apply lex_fun (rfl : psAt _ _ = none)
      · intro x u hR hf
        have hne := neq53 d.nm d.b d.n d.c u
        clear hR hf
        go_simp
        exact ⟨rfl, Ext.refl _⟩
      simp only [Act.put, List.setIfInBounds_toArray, List.set_cons_succ, List.set_cons_zero]

      refine lex_nil fun x w6 hE hfacts => ?_
      clear hfacts
      clear x
      have HX6 := hid (HX.out.trans hE)
      clear hE
      gi_wp2_with fail
      go_roundw
      case rel => exact ⟨k + 1, by omega, by go_num, HX6⟩
      case measure => simp [intOf]; omega
    · obtain rfl : k = l.length := by omega
      have hki : ¬ (l.length : Int) < (l.length : Int) := by omega
      gi_wp2_with fail
      go_ret
      exact ⟨rfl, HX.out⟩
end
section
open Go Go.RowKit Go.Shelf

theorem ints_new {W' : World} {cs : Array Value} {xs : List Int} {ty : TypeId} {g : Nat} (hb : W'.heap[g]? = some (.cells cs ty (0, 0))) (hc : cs.toList = intsV xs) (hl : xs.length ≤ 1000) : IntsAt W' (.slice (some ⟨g, 0, none⟩) xs.length xs.length) xs := by
  refine ⟨_, _, rfl, ⟨Nat.le_refl _, by omega⟩, fun i hi => ⟨g, 0, rfl, lt_of_block hb, ?_⟩⟩
  rw [Nat.zero_add, cell_of hb, ← intsV_get hi, ← hc, Array.getElem?_toList]
theorem stakes_new {W' : World} {cs : Array Value} {l : List Stk} {ty : TypeId} {g : Nat} (hb : W'.heap[g]? = some (.cells cs ty (0, 0))) (hc : cs.toList = stkF l) (hl : l.length ≤ 1000) : StakesAt W' (.slice (some ⟨g, 0, none⟩) l.length l.length) l := by
  refine ⟨_, _, rfl, ⟨Nat.le_refl _, by omega⟩, fun i hi => ⟨g, 0, rfl, lt_of_block hb, ?_⟩⟩
  obtain ⟨h1, h2⟩ := stkF_get l i hi
  rw [Nat.zero_add, cell_of hb, cell_of hb, ← h1, ← h2, ← hc, Array.getElem?_toList, Array.getElem?_toList]
  exact ⟨rfl, rfl⟩
theorem dues_new {W' : World} {cs : Array Value} {l : List Du} {ty : TypeId} {g : Nat} (hb : W'.heap[g]? = some (.cells cs ty (0, 0))) (hc : cs.toList = duF l) (hl : l.length ≤ 1000) : DuAt W' (.slice (some ⟨g, 0, none⟩) l.length l.length) l := by
  refine ⟨_, _, rfl, ⟨Nat.le_refl _, by omega⟩, fun i hi => ⟨g, 0, rfl, lt_of_block hb, ?_⟩⟩
  obtain ⟨h1, h2, h3, h4⟩ := duF_get l i hi
  rw [Nat.zero_add, cell_of hb, cell_of hb, cell_of hb, cell_of hb, ← h1, ← h2, ← h3, ← h4, ← hc, Array.getElem?_toList, Array.getElem?_toList, Array.getElem?_toList, Array.getElem?_toList]
  exact ⟨rfl, rfl, rfl, rfl⟩
set_option maxHeartbeats 4000000 in
theorem balances_any (w : World) : Cal 45 #[] w fun e w' => ∃ r, e = .returned r ∧ Ext w w' ∧ Hid (IntsAt w' r wkX) := by
  gi_enter Tryz.func45, Tryz.ntmps45
  gi_wp2_with fail
  have hb := Ext.new (w := w) (o := .cells #[.int .i64 5, .int .i64 (-3), .int .i64 (-2), .int .i64 4, .int .i64 (-4), .int .i64 0] 3) (Ext.refl _)
  go_ret
  exact ⟨_, rfl, (Ext.refl _).alloc _, hid (ints_new (xs := wkX) hb rfl (by decide))⟩
set_option maxHeartbeats 4000000 in
theorem duesList_any (w : World) : Cal 53 #[] w fun e w' => ∃ r, e = .returned r ∧ Ext w w' ∧ Hid (DuAt w' r ntD) := by
  gi_enter Tryz.func53, Tryz.ntmps53
  gi_wp2_with fail
  have hb := Ext.new (w := w) (o := .cells #[.string ⟨#[98, 111, 121]⟩, .int .i64 0, .int .i64 0, .int .i64 43, .string ⟨#[98, 117, 99, 107, 105, 101]⟩, .int .i64 221, .int .i64 235, .int .i64 0, .string ⟨#[99, 117, 108, 108, 101, 110]⟩, .int .i64 132, .int .i64 0, .int .i64 0, .string ⟨#[101, 121, 101, 109, 111, 117, 116, 104]⟩, .int .i64 0, .int .i64 44, .int .i64 0, .string ⟨#[115, 109, 105, 116, 104]⟩, .int .i64 0, .int .i64 74, .int .i64 107, .string ⟨#[119, 105, 99, 107]⟩, .int .i64 0, .int .i64 0, .int .i64 85] 53) (Ext.refl _)
  go_ret
  exact ⟨_, rfl, (Ext.refl _).alloc _, hid (dues_new (l := ntD) hb rfl (by decide))⟩
theorem ntNm : nmOk nt.ow ∧ nmOk nt.le ∧ nmOk nt.ha := by
  refine ⟨fun s hs => ?_, fun s hs => ?_, fun s hs => ?_⟩ <;> simp [nt] at hs <;> rcases hs with h | h <;> first | (subst h; decide) | (rcases h with h | h <;> subst h <;> decide)
theorem size32 : (Tryz.prog.info? 32).map (·.size) = some 9 := by kernel_rfl
set_option maxRecDepth 100000 in
set_option maxHeartbeats 8000000 in
theorem night_any (w : World) : Cal 44 #[] w fun e w' => ∃ s, e = .returned (.agg (voyA nt s)) ∧ Ext w w' ∧ Hid (VoyAt w' nt s) := by
  gi_enter Tryz.func44, Tryz.ntmps44
  gi_upto_region 1 with fail
  have hx0 : Ext w (w.alloc (.cells #[.int .i64 0, .slice none 0 0, .int .i64 0, .int .i64 0, .int .i64 0, .slice none 0 0, .slice none 0 0, .slice none 0 0, .slice none 0 0] 32)) := (Ext.refl _).alloc _
  have hb0 := Ext.new (w := w) (o := .cells #[.int .i64 0, .slice none 0 0, .int .i64 0, .int .i64 0, .int .i64 0, .slice none 0 0, .slice none 0 0, .slice none 0 0, .slice none 0 0] 32) (Ext.refl _)
  generalize w.alloc (.cells #[.int .i64 0, .slice none 0 0, .int .i64 0, .int .i64 0, .int .i64 0, .slice none 0 0, .slice none 0 0, .slice none 0 0, .slice none 0 0] 32) = W0 at *
  have hb1 : (((((W0.alloc (.cells #[.int .i64 40, .int .i64 19] 3)).alloc (.cells #[.string ⟨#[98, 117, 99, 107, 105, 101]⟩, .int .i64 5, .string ⟨#[99, 117, 108, 108, 101, 110]⟩, .int .i64 3] 49)).alloc (.cells #[.string ⟨#[98, 117, 99, 107, 105, 101]⟩, .int .i64 20, .string ⟨#[101, 121, 101, 109, 111, 117, 116, 104]⟩, .int .i64 10, .string ⟨#[115, 109, 105, 116, 104]⟩, .int .i64 0] 49)).alloc (.cells #[.string ⟨#[115, 109, 105, 116, 104]⟩, .int .i64 10, .string ⟨#[119, 105, 99, 107]⟩, .int .i64 8, .string ⟨#[98, 111, 121]⟩, .int .i64 4] 49)).alloc (.cells #[.string ⟨#[101, 121, 101, 109, 111, 117, 116, 104]⟩, .string ⟨#[115, 109, 105, 116, 104]⟩, .int .i64 10, .int .i64 3] 59)).heap[W0.heap.size]? = some (.cells #[.int .i64 40, .int .i64 19] 3 (0, 0)) := by
    have h := Ext.new (w := W0) (o := .cells #[.int .i64 40, .int .i64 19] 3) (Ext.refl _)
    try simp only [World.size_alloc] at h
    exact Ext.block (((((Ext.refl _).alloc _).alloc _).alloc _).alloc _) h
  have hb2 : (((((W0.alloc (.cells #[.int .i64 40, .int .i64 19] 3)).alloc (.cells #[.string ⟨#[98, 117, 99, 107, 105, 101]⟩, .int .i64 5, .string ⟨#[99, 117, 108, 108, 101, 110]⟩, .int .i64 3] 49)).alloc (.cells #[.string ⟨#[98, 117, 99, 107, 105, 101]⟩, .int .i64 20, .string ⟨#[101, 121, 101, 109, 111, 117, 116, 104]⟩, .int .i64 10, .string ⟨#[115, 109, 105, 116, 104]⟩, .int .i64 0] 49)).alloc (.cells #[.string ⟨#[115, 109, 105, 116, 104]⟩, .int .i64 10, .string ⟨#[119, 105, 99, 107]⟩, .int .i64 8, .string ⟨#[98, 111, 121]⟩, .int .i64 4] 49)).alloc (.cells #[.string ⟨#[101, 121, 101, 109, 111, 117, 116, 104]⟩, .string ⟨#[115, 109, 105, 116, 104]⟩, .int .i64 10, .int .i64 3] 59)).heap[W0.heap.size + 1]? = some (.cells #[.string ⟨#[98, 117, 99, 107, 105, 101]⟩, .int .i64 5, .string ⟨#[99, 117, 108, 108, 101, 110]⟩, .int .i64 3] 49 (0, 0)) := by
    have h := Ext.new (w := (W0.alloc (.cells #[.int .i64 40, .int .i64 19] 3))) (o := .cells #[.string ⟨#[98, 117, 99, 107, 105, 101]⟩, .int .i64 5, .string ⟨#[99, 117, 108, 108, 101, 110]⟩, .int .i64 3] 49) (Ext.refl _)
    try simp only [World.size_alloc] at h
    exact Ext.block ((((Ext.refl _).alloc _).alloc _).alloc _) h
  have hb3 : (((((W0.alloc (.cells #[.int .i64 40, .int .i64 19] 3)).alloc (.cells #[.string ⟨#[98, 117, 99, 107, 105, 101]⟩, .int .i64 5, .string ⟨#[99, 117, 108, 108, 101, 110]⟩, .int .i64 3] 49)).alloc (.cells #[.string ⟨#[98, 117, 99, 107, 105, 101]⟩, .int .i64 20, .string ⟨#[101, 121, 101, 109, 111, 117, 116, 104]⟩, .int .i64 10, .string ⟨#[115, 109, 105, 116, 104]⟩, .int .i64 0] 49)).alloc (.cells #[.string ⟨#[115, 109, 105, 116, 104]⟩, .int .i64 10, .string ⟨#[119, 105, 99, 107]⟩, .int .i64 8, .string ⟨#[98, 111, 121]⟩, .int .i64 4] 49)).alloc (.cells #[.string ⟨#[101, 121, 101, 109, 111, 117, 116, 104]⟩, .string ⟨#[115, 109, 105, 116, 104]⟩, .int .i64 10, .int .i64 3] 59)).heap[W0.heap.size + 1 + 1]? = some (.cells #[.string ⟨#[98, 117, 99, 107, 105, 101]⟩, .int .i64 20, .string ⟨#[101, 121, 101, 109, 111, 117, 116, 104]⟩, .int .i64 10, .string ⟨#[115, 109, 105, 116, 104]⟩, .int .i64 0] 49 (0, 0)) := by
    have h := Ext.new (w := ((W0.alloc (.cells #[.int .i64 40, .int .i64 19] 3)).alloc (.cells #[.string ⟨#[98, 117, 99, 107, 105, 101]⟩, .int .i64 5, .string ⟨#[99, 117, 108, 108, 101, 110]⟩, .int .i64 3] 49))) (o := .cells #[.string ⟨#[98, 117, 99, 107, 105, 101]⟩, .int .i64 20, .string ⟨#[101, 121, 101, 109, 111, 117, 116, 104]⟩, .int .i64 10, .string ⟨#[115, 109, 105, 116, 104]⟩, .int .i64 0] 49) (Ext.refl _)
    try simp only [World.size_alloc] at h
    exact Ext.block (((Ext.refl _).alloc _).alloc _) h
  have hb4 : (((((W0.alloc (.cells #[.int .i64 40, .int .i64 19] 3)).alloc (.cells #[.string ⟨#[98, 117, 99, 107, 105, 101]⟩, .int .i64 5, .string ⟨#[99, 117, 108, 108, 101, 110]⟩, .int .i64 3] 49)).alloc (.cells #[.string ⟨#[98, 117, 99, 107, 105, 101]⟩, .int .i64 20, .string ⟨#[101, 121, 101, 109, 111, 117, 116, 104]⟩, .int .i64 10, .string ⟨#[115, 109, 105, 116, 104]⟩, .int .i64 0] 49)).alloc (.cells #[.string ⟨#[115, 109, 105, 116, 104]⟩, .int .i64 10, .string ⟨#[119, 105, 99, 107]⟩, .int .i64 8, .string ⟨#[98, 111, 121]⟩, .int .i64 4] 49)).alloc (.cells #[.string ⟨#[101, 121, 101, 109, 111, 117, 116, 104]⟩, .string ⟨#[115, 109, 105, 116, 104]⟩, .int .i64 10, .int .i64 3] 59)).heap[W0.heap.size + 1 + 1 + 1]? = some (.cells #[.string ⟨#[115, 109, 105, 116, 104]⟩, .int .i64 10, .string ⟨#[119, 105, 99, 107]⟩, .int .i64 8, .string ⟨#[98, 111, 121]⟩, .int .i64 4] 49 (0, 0)) := by
    have h := Ext.new (w := (((W0.alloc (.cells #[.int .i64 40, .int .i64 19] 3)).alloc (.cells #[.string ⟨#[98, 117, 99, 107, 105, 101]⟩, .int .i64 5, .string ⟨#[99, 117, 108, 108, 101, 110]⟩, .int .i64 3] 49)).alloc (.cells #[.string ⟨#[98, 117, 99, 107, 105, 101]⟩, .int .i64 20, .string ⟨#[101, 121, 101, 109, 111, 117, 116, 104]⟩, .int .i64 10, .string ⟨#[115, 109, 105, 116, 104]⟩, .int .i64 0] 49))) (o := .cells #[.string ⟨#[115, 109, 105, 116, 104]⟩, .int .i64 10, .string ⟨#[119, 105, 99, 107]⟩, .int .i64 8, .string ⟨#[98, 111, 121]⟩, .int .i64 4] 49) (Ext.refl _)
    try simp only [World.size_alloc] at h
    exact Ext.block ((Ext.refl _).alloc _) h
  have hb5 : (((((W0.alloc (.cells #[.int .i64 40, .int .i64 19] 3)).alloc (.cells #[.string ⟨#[98, 117, 99, 107, 105, 101]⟩, .int .i64 5, .string ⟨#[99, 117, 108, 108, 101, 110]⟩, .int .i64 3] 49)).alloc (.cells #[.string ⟨#[98, 117, 99, 107, 105, 101]⟩, .int .i64 20, .string ⟨#[101, 121, 101, 109, 111, 117, 116, 104]⟩, .int .i64 10, .string ⟨#[115, 109, 105, 116, 104]⟩, .int .i64 0] 49)).alloc (.cells #[.string ⟨#[115, 109, 105, 116, 104]⟩, .int .i64 10, .string ⟨#[119, 105, 99, 107]⟩, .int .i64 8, .string ⟨#[98, 111, 121]⟩, .int .i64 4] 49)).alloc (.cells #[.string ⟨#[101, 121, 101, 109, 111, 117, 116, 104]⟩, .string ⟨#[115, 109, 105, 116, 104]⟩, .int .i64 10, .int .i64 3] 59)).heap[W0.heap.size + 1 + 1 + 1 + 1]? = some (.cells #[.string ⟨#[101, 121, 101, 109, 111, 117, 116, 104]⟩, .string ⟨#[115, 109, 105, 116, 104]⟩, .int .i64 10, .int .i64 3] 59 (0, 0)) := by
    have h := Ext.new (w := ((((W0.alloc (.cells #[.int .i64 40, .int .i64 19] 3)).alloc (.cells #[.string ⟨#[98, 117, 99, 107, 105, 101]⟩, .int .i64 5, .string ⟨#[99, 117, 108, 108, 101, 110]⟩, .int .i64 3] 49)).alloc (.cells #[.string ⟨#[98, 117, 99, 107, 105, 101]⟩, .int .i64 20, .string ⟨#[101, 121, 101, 109, 111, 117, 116, 104]⟩, .int .i64 10, .string ⟨#[115, 109, 105, 116, 104]⟩, .int .i64 0] 49)).alloc (.cells #[.string ⟨#[115, 109, 105, 116, 104]⟩, .int .i64 10, .string ⟨#[119, 105, 99, 107]⟩, .int .i64 8, .string ⟨#[98, 111, 121]⟩, .int .i64 4] 49))) (o := .cells #[.string ⟨#[101, 121, 101, 109, 111, 117, 116, 104]⟩, .string ⟨#[115, 109, 105, 116, 104]⟩, .int .i64 10, .int .i64 3] 59) (Ext.refl _)
    try simp only [World.size_alloc] at h
    exact Ext.block (Ext.refl _) h
  have hx5 : Ext W0 (((((W0.alloc (.cells #[.int .i64 40, .int .i64 19] 3)).alloc (.cells #[.string ⟨#[98, 117, 99, 107, 105, 101]⟩, .int .i64 5, .string ⟨#[99, 117, 108, 108, 101, 110]⟩, .int .i64 3] 49)).alloc (.cells #[.string ⟨#[98, 117, 99, 107, 105, 101]⟩, .int .i64 20, .string ⟨#[101, 121, 101, 109, 111, 117, 116, 104]⟩, .int .i64 10, .string ⟨#[115, 109, 105, 116, 104]⟩, .int .i64 0] 49)).alloc (.cells #[.string ⟨#[115, 109, 105, 116, 104]⟩, .int .i64 10, .string ⟨#[119, 105, 99, 107]⟩, .int .i64 8, .string ⟨#[98, 111, 121]⟩, .int .i64 4] 49)).alloc (.cells #[.string ⟨#[101, 121, 101, 109, 111, 117, 116, 104]⟩, .string ⟨#[115, 109, 105, 116, 104]⟩, .int .i64 10, .int .i64 3] 59)) := ((((((Ext.refl _).alloc _).alloc _).alloc _).alloc _).alloc _)
  have hb0' := hx5.block hb0
  have HX := hid (hx0.trans hx5)
  have hne : w.heap.size < W0.heap.size := lt_of_block hb0
  have HNE := hid hne
  have HB := hid (And.intro hb1 (And.intro hb2 (And.intro hb3 (And.intro hb4 hb5))))
  have HB0 := hid hb0'
  clear hb1 hb2 hb3 hb4 hb5 hb0 hb0' hx0 hx5 hne
  gi_wp2_with (refine wpIn_store_at 32 (.tmp 0) (.tmp 15) rfl (fun _ => trivial) (g := w.heap.size) (off := 0) rfl rfl HB0.out size32 (by simp) (by simp [Value.oneCell']) ?_; refine Hid.out ?_)
  refine hid ?_
  have hs := setRow_heap _ _ _ #[.int .i64 1000, .slice (some ⟨W0.heap.size, 0, none⟩) 2 2, .int .i64 3, .int .i64 3, .int .i64 2, .slice (some ⟨W0.heap.size + 1, 0, none⟩) 2 2, .slice (some ⟨W0.heap.size + 1 + 1, 0, none⟩) 3 3, .slice (some ⟨W0.heap.size + 1 + 1 + 1, 0, none⟩) 3 3, .slice (some ⟨W0.heap.size + 1 + 1 + 1 + 1, 0, none⟩) 1 1] _ _ HB0.out
  have hX2 := ext_setRow HX.out (Nat.le_refl _) #[.int .i64 1000, .slice (some ⟨W0.heap.size, 0, none⟩) 2 2, .int .i64 3, .int .i64 3, .int .i64 2, .slice (some ⟨W0.heap.size + 1, 0, none⟩) 2 2, .slice (some ⟨W0.heap.size + 1 + 1, 0, none⟩) 3 3, .slice (some ⟨W0.heap.size + 1 + 1 + 1, 0, none⟩) 3 3, .slice (some ⟨W0.heap.size + 1 + 1 + 1 + 1, 0, none⟩) 1 1]
  have s1 := (setRow_other _ w.heap.size _ #[.int .i64 1000, .slice (some ⟨W0.heap.size, 0, none⟩) 2 2, .int .i64 3, .int .i64 3, .int .i64 2, .slice (some ⟨W0.heap.size + 1, 0, none⟩) 2 2, .slice (some ⟨W0.heap.size + 1 + 1, 0, none⟩) 3 3, .slice (some ⟨W0.heap.size + 1 + 1 + 1, 0, none⟩) 3 3, .slice (some ⟨W0.heap.size + 1 + 1 + 1 + 1, 0, none⟩) 1 1] (by have := HNE.out; omega)).trans HB.out.1
  have s2 := (setRow_other _ w.heap.size _ #[.int .i64 1000, .slice (some ⟨W0.heap.size, 0, none⟩) 2 2, .int .i64 3, .int .i64 3, .int .i64 2, .slice (some ⟨W0.heap.size + 1, 0, none⟩) 2 2, .slice (some ⟨W0.heap.size + 1 + 1, 0, none⟩) 3 3, .slice (some ⟨W0.heap.size + 1 + 1 + 1, 0, none⟩) 3 3, .slice (some ⟨W0.heap.size + 1 + 1 + 1 + 1, 0, none⟩) 1 1] (by have := HNE.out; omega)).trans HB.out.2.1
  have s3 := (setRow_other _ w.heap.size _ #[.int .i64 1000, .slice (some ⟨W0.heap.size, 0, none⟩) 2 2, .int .i64 3, .int .i64 3, .int .i64 2, .slice (some ⟨W0.heap.size + 1, 0, none⟩) 2 2, .slice (some ⟨W0.heap.size + 1 + 1, 0, none⟩) 3 3, .slice (some ⟨W0.heap.size + 1 + 1 + 1, 0, none⟩) 3 3, .slice (some ⟨W0.heap.size + 1 + 1 + 1 + 1, 0, none⟩) 1 1] (by have := HNE.out; omega)).trans HB.out.2.2.1
  have s4 := (setRow_other _ w.heap.size _ #[.int .i64 1000, .slice (some ⟨W0.heap.size, 0, none⟩) 2 2, .int .i64 3, .int .i64 3, .int .i64 2, .slice (some ⟨W0.heap.size + 1, 0, none⟩) 2 2, .slice (some ⟨W0.heap.size + 1 + 1, 0, none⟩) 3 3, .slice (some ⟨W0.heap.size + 1 + 1 + 1, 0, none⟩) 3 3, .slice (some ⟨W0.heap.size + 1 + 1 + 1 + 1, 0, none⟩) 1 1] (by have := HNE.out; omega)).trans HB.out.2.2.2.1
  have s5 := (setRow_other _ w.heap.size _ #[.int .i64 1000, .slice (some ⟨W0.heap.size, 0, none⟩) 2 2, .int .i64 3, .int .i64 3, .int .i64 2, .slice (some ⟨W0.heap.size + 1, 0, none⟩) 2 2, .slice (some ⟨W0.heap.size + 1 + 1, 0, none⟩) 3 3, .slice (some ⟨W0.heap.size + 1 + 1 + 1, 0, none⟩) 3 3, .slice (some ⟨W0.heap.size + 1 + 1 + 1 + 1, 0, none⟩) 1 1] (by have := HNE.out; omega)).trans HB.out.2.2.2.2
  clear HB0 HB HX
  generalize (((((W0.alloc (.cells #[.int .i64 40, .int .i64 19] 3)).alloc (.cells #[.string ⟨#[98, 117, 99, 107, 105, 101]⟩, .int .i64 5, .string ⟨#[99, 117, 108, 108, 101, 110]⟩, .int .i64 3] 49)).alloc (.cells #[.string ⟨#[98, 117, 99, 107, 105, 101]⟩, .int .i64 20, .string ⟨#[101, 121, 101, 109, 111, 117, 116, 104]⟩, .int .i64 10, .string ⟨#[115, 109, 105, 116, 104]⟩, .int .i64 0] 49)).alloc (.cells #[.string ⟨#[115, 109, 105, 116, 104]⟩, .int .i64 10, .string ⟨#[119, 105, 99, 107]⟩, .int .i64 8, .string ⟨#[98, 111, 121]⟩, .int .i64 4] 49)).alloc (.cells #[.string ⟨#[101, 121, 101, 109, 111, 117, 116, 104]⟩, .string ⟨#[115, 109, 105, 116, 104]⟩, .int .i64 10, .int .i64 3] 59)).setRow w.heap.size #[.int .i64 1000, .slice (some ⟨W0.heap.size, 0, none⟩) 2 2, .int .i64 3, .int .i64 3, .int .i64 2, .slice (some ⟨W0.heap.size + 1, 0, none⟩) 2 2, .slice (some ⟨W0.heap.size + 1 + 1, 0, none⟩) 3 3, .slice (some ⟨W0.heap.size + 1 + 1 + 1, 0, none⟩) 3 3, .slice (some ⟨W0.heap.size + 1 + 1 + 1 + 1, 0, none⟩) 1 1] = W9 at *
  have hc9 := cell_of hs
  have HV : Hid (VoyAt W9 nt ⟨some ⟨W0.heap.size, 0, none⟩, some ⟨W0.heap.size + 1, 0, none⟩, some ⟨W0.heap.size + 1 + 1, 0, none⟩, some ⟨W0.heap.size + 1 + 1 + 1, 0, none⟩, some ⟨W0.heap.size + 1 + 1 + 1 + 1, 0, none⟩, 2, 2, 3, 3, 1⟩) := hid ⟨ints_new (xs := nt.cs) s1 rfl (by decide), stakes_new (l := nt.ow) s2 rfl (by decide), stakes_new (l := nt.le) s3 rfl (by decide), stakes_new (l := nt.ha) s4 rfl (by decide), ⟨_, _, rfl, ⟨Nat.le_refl _, by decide⟩, fun i hi => ⟨_, 0, rfl, lt_of_block s5, by
    have h0 : i = 0 := by have : nt.lo.length = 1 := rfl; omega
    subst h0
    rw [cell_of s5, cell_of s5, cell_of s5, cell_of s5]
    exact ⟨rfl, rfl, rfl, rfl⟩⟩⟩, ntNm.1, ntNm.2.1, ntNm.2.2⟩
  clear s1 s2 s3 s4 s5 hs
  gi_wp2_with fail
  exact bodyPost_ret (v := .agg #[.int .i64 1000, .slice (some ⟨W0.heap.size, 0, none⟩) 2 2, .int .i64 3, .int .i64 3, .int .i64 2, .slice (some ⟨W0.heap.size + 1, 0, none⟩) 2 2, .slice (some ⟨W0.heap.size + 1 + 1, 0, none⟩) 3 3, .slice (some ⟨W0.heap.size + 1 + 1 + 1, 0, none⟩) 3 3, .slice (some ⟨W0.heap.size + 1 + 1 + 1 + 1, 0, none⟩) 1 1]) (by simp [results, Tryz.results44, go_sem, hc9]) rfl ⟨_, rfl, hX2, HV⟩
end
section
open Go Go.RowKit Go.Shelf

theorem same_iff {xs ys : List Int} (hl : xs.length = ys.length) : (xs == ys) = allTo (fun i => xs.getD i 0 == ys.getD i 0) xs.length := by
  rw [Bool.eq_iff_iff, beq_iff_eq]
  unfold allTo
  rw [List.all_eq_true]
  constructor
  · rintro rfl i _; simp
  · intro h
    refine List.ext_getElem hl fun i h1 h2 => ?_
    have := h i (List.mem_range.mpr h1)
    rw [getD_of h1, getD_of h2] at this
    simpa using this
set_option maxRecDepth 100000 in
set_option maxHeartbeats 2000000 in
theorem Same_any (v1 v2 : Value) (xs ys : List Int) (w : World) (hv1 : IntsAt w v1 xs) (hv2 : IntsAt w v2 ys) :
    Cal 17 #[v1, v2] w fun e w' => e = .returned (.bool (xs == ys)) ∧ Ext w w' := by
  obtain ⟨a, cap, rfl, ⟨hcap, hlen⟩, hc⟩ := hv1
  obtain ⟨a2, cap2, rfl, ⟨hcap2, hlen2⟩, hc2⟩ := hv2
  have HC := hid hc
  have HC2 := hid hc2
  clear hc hc2
  by_cases hl : xs.length = ys.length
  · have HS := hid (same_iff hl)
    have hli : ((xs.length : Int) == (ys.length : Int)) = true := by simp [hl]
    have HLY := hid hl
    rw [← hl] at hcap2 hlen2 ⊢
    gi_enter Tryz.func17, Tryz.ntmps17
    gi_wp2
    clear hli hl
    gi_loopw [5] (fun i wr => ∃ k : Nat, k ≤ xs.length ∧ i = .int .i64 k ∧ Hid (Ext w wr ∧ ∀ j, j < k → (xs.getD j 0 == ys.getD j 0) = true)) (fun i _ => xs.length - (intOf i).toNat)
    case atStart => exact ⟨0, Nat.zero_le _, rfl, hid ⟨Ext.refl _, fun _ h => absurd h (by omega)⟩⟩
    case round =>
      obtain ⟨k, hk, rfl, HI⟩ := hrel
      by_cases hlt : k < xs.length
      · have hki : (k : Int) < (xs.length : Int) := by omega
        have hlt2 : k < ys.length := by have := HLY.out; omega
        obtain ⟨b, off, rfl, hbb, hck⟩ := HC.out k hlt
        obtain ⟨b2, off2, rfl, hbb2, hck2⟩ := HC2.out k hlt2
        have HX := hid HI.out.1
        have HG := hid HI.out.2
        have HE := hid (show (xs.getD k 0 == ys.getD k 0) = (xs[k] == ys[k]) by rw [getD_of hlt, getD_of hlt2])
        generalize xs[k] = x at *
        generalize ys[k] = y at *
        have HD0 := hid ((HX.out.cell (p := ⟨b, off + k, none⟩) hbb).trans hck)
        have HD1 := hid ((HX.out.cell (p := ⟨b2, off2 + k, none⟩) hbb2).trans hck2)
        clear hck hck2 HI HLY
        cases hxy : (x == y) with
        | true =>
          have HU := hid (upTo_succ (good := fun j => xs.getD j 0 == ys.getD j 0) HG.out (by show (xs.getD k 0 == ys.getD k 0) = true; rw [HE.out]; exact hxy))
          have hne : (x != y) = false := by simp [bne, hxy]
          have hxe : x = y := by simpa using hxy
          subst hxe
          clear HG HE hxy hne
          gi_upto_region 6 with fail
          refine lex_wide 8 [] (by kernel_rfl) (by kernel_rfl) (nStab_nil) ?_
          simp only [List.take_succ_cons, List.take_zero, List.drop_succ_cons, List.drop_zero]
          apply lex_fun (rfl : psAt _ _ = none)
          · intro x u hR hf
            clear hR hf
            go_simp
            exact ⟨rfl, Ext.refl _⟩
          simp only [Act.put, List.setIfInBounds_toArray, List.set_cons_succ, List.set_cons_zero]
          apply lex_fun (rfl : psAt _ _ = none)
          · intro x u hR hf
            clear hR hf
            go_simp
            exact ⟨rfl, Ext.refl _⟩
          simp only [Act.put, List.setIfInBounds_toArray, List.set_cons_succ, List.set_cons_zero]
          apply lex_fun (rfl : psAt _ _ = none)
          · intro x u hR hf
            clear hR hf
            go_simp
            exact ⟨rfl, Ext.refl _⟩
          simp only [Act.put, List.setIfInBounds_toArray, List.set_cons_succ, List.set_cons_zero]
          apply lex_fun (rfl : psAt _ _ = none)
          · intro x u hR hf
            have d0 := (hR.cell (p := ⟨b, off + k, none⟩) (Nat.lt_of_lt_of_le hbb HX.out.size)).trans HD0.out
            clear hR hf
            go_simp
            exact ⟨rfl, Ext.refl _⟩
          simp only [Act.put, List.setIfInBounds_toArray, List.set_cons_succ, List.set_cons_zero]
          apply lex_fun (rfl : psAt _ _ = none)
          · intro x u hR hf
            clear hR hf
            go_simp
            exact ⟨rfl, Ext.refl _⟩
          simp only [Act.put, List.setIfInBounds_toArray, List.set_cons_succ, List.set_cons_zero]
          apply lex_fun (rfl : psAt _ _ = none)
          · intro x u hR hf
            clear hR hf
            go_simp
            exact ⟨rfl, Ext.refl _⟩
          simp only [Act.put, List.setIfInBounds_toArray, List.set_cons_succ, List.set_cons_zero]
          apply lex_fun (rfl : psAt _ _ = none)
          · intro x u hR hf
            clear hR hf
            go_simp
            exact ⟨rfl, Ext.refl _⟩
          simp only [Act.put, List.setIfInBounds_toArray, List.set_cons_succ, List.set_cons_zero]
          apply lex_fun (rfl : psAt _ _ = none)
          · intro x u hR hf
            have d1 := (hR.cell (p := ⟨b2, off2 + k, none⟩) (Nat.lt_of_lt_of_le hbb2 HX.out.size)).trans HD1.out
            clear hR hf
            go_simp
            exact ⟨rfl, Ext.refl _⟩
          simp only [Act.put, List.setIfInBounds_toArray, List.set_cons_succ, List.set_cons_zero]
          refine lex_nil fun x' w6 hE hfacts => ?_
          clear hfacts x'
          gi_wp2
          go_roundw
          case rel => exact ⟨k + 1, by omega, by go_num, hid ⟨HX.out.trans hE, HU.out⟩⟩
          case measure => simp [intOf]; omega
        | false =>
          have HF : Hid ((xs == ys) = false) := hid (by rw [HS.out]; exact allTo_no hlt (by show (xs.getD k 0 == ys.getD k 0) = false; rw [HE.out]; exact hxy))
          have hxn : ¬ x = y := by simpa using hxy
          clear HG HE
          gi_upto_region 6 with fail
          refine lex_wide 8 [] (by kernel_rfl) (by kernel_rfl) (nStab_nil) ?_
          simp only [List.take_succ_cons, List.take_zero, List.drop_succ_cons, List.drop_zero]
          apply lex_fun (rfl : psAt _ _ = none)
          · intro x u hR hf
            clear hR hf
            go_simp
            exact ⟨rfl, Ext.refl _⟩
          simp only [Act.put, List.setIfInBounds_toArray, List.set_cons_succ, List.set_cons_zero]
          apply lex_fun (rfl : psAt _ _ = none)
          · intro x u hR hf
            clear hR hf
            go_simp
            exact ⟨rfl, Ext.refl _⟩
          simp only [Act.put, List.setIfInBounds_toArray, List.set_cons_succ, List.set_cons_zero]
          apply lex_fun (rfl : psAt _ _ = none)
          · intro x u hR hf
            clear hR hf
            go_simp
            exact ⟨rfl, Ext.refl _⟩
          simp only [Act.put, List.setIfInBounds_toArray, List.set_cons_succ, List.set_cons_zero]
          apply lex_fun (rfl : psAt _ _ = none)
          · intro x u hR hf
            have d0 := (hR.cell (p := ⟨b, off + k, none⟩) (Nat.lt_of_lt_of_le hbb HX.out.size)).trans HD0.out
            clear hR hf
            go_simp
            exact ⟨rfl, Ext.refl _⟩
          simp only [Act.put, List.setIfInBounds_toArray, List.set_cons_succ, List.set_cons_zero]
          apply lex_fun (rfl : psAt _ _ = none)
          · intro x u hR hf
            clear hR hf
            go_simp
            exact ⟨rfl, Ext.refl _⟩
          simp only [Act.put, List.setIfInBounds_toArray, List.set_cons_succ, List.set_cons_zero]
          apply lex_fun (rfl : psAt _ _ = none)
          · intro x u hR hf
            clear hR hf
            go_simp
            exact ⟨rfl, Ext.refl _⟩
          simp only [Act.put, List.setIfInBounds_toArray, List.set_cons_succ, List.set_cons_zero]
          apply lex_fun (rfl : psAt _ _ = none)
          · intro x u hR hf
            clear hR hf
            go_simp
            exact ⟨rfl, Ext.refl _⟩
          simp only [Act.put, List.setIfInBounds_toArray, List.set_cons_succ, List.set_cons_zero]
          apply lex_fun (rfl : psAt _ _ = none)
          · intro x u hR hf
            have d1 := (hR.cell (p := ⟨b2, off2 + k, none⟩) (Nat.lt_of_lt_of_le hbb2 HX.out.size)).trans HD1.out
            clear hR hf
            go_simp
            exact ⟨rfl, Ext.refl _⟩
          simp only [Act.put, List.setIfInBounds_toArray, List.set_cons_succ, List.set_cons_zero]
          refine lex_nil fun x' w6 hE hfacts => ?_
          clear hfacts x'
          gi_wp2
          go_ret
          exact ⟨by rw [HF.out]; rfl, HX.out.trans hE⟩
      · obtain rfl : k = xs.length := by omega
        have HT : Hid ((xs == ys) = true) := hid (by rw [HS.out]; exact allTo_yes HI.out.2)
        have HX := hid HI.out.1
        clear HI
        gi_wp2_with fail
        go_ret
        exact ⟨by rw [HT.out]; rfl, HX.out⟩
  · have HF : Hid ((xs == ys) = false) := hid (by
      rw [beq_eq_false_iff_ne]; rintro rfl; exact hl rfl)
    have hli : ¬ ((xs.length : Int) = (ys.length : Int)) := by omega
    gi_enter Tryz.func17, Tryz.ntmps17
    gi_wp2
    go_ret
    exact ⟨by rw [HF.out]; rfl, Ext.refl _⟩
end
end Go.Proofs.YtjocoadhalimjaaGreat
