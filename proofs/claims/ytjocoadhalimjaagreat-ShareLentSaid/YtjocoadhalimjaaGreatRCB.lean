/- Nets that are lent and lent back, or for all that they bring: the mathematics. -/
import Derived.Test.YtjocoadhalimjaaGreatRBZ
set_option linter.unusedSimpArgs false
set_option linter.unusedVariables false
namespace Go.Proofs.YtjocoadhalimjaaGreat
section
open Go Go.RowKit Go.Shelf

def lendV (V : Voy) (xs : List Ln) : Voy := { V with lo := V.lo ++ xs }
def oneL (V : Voy) (a b : Nat) (n r : Int) : Ln := ⟨(V.le.getD a noStk).name, (V.le.getD b noStk).name, n, r⟩
def clmW (V : Voy) : List Int := wts (clm V.le (lentV V) V.le.length)
section
variable {V : Voy} {a b : Nat} {n r : Int}
theorem names_ne (hv : ValidV V) (ha : a < V.le.length) (hb : b < V.le.length) (hab : a ≠ b) : (V.le.getD a noStk).name ≠ (V.le.getD b noStk).name := by
  have hd := (stakes_ok hv.le).2.2
  rw [getD_of ha, getD_of hb]
  intro he
  rcases Nat.lt_or_gt_of_ne hab with h | h
  · have := List.pairwise_iff_getElem.1 hd a b (by simpa using ha) (by simpa using hb) h
    simp only [List.getElem_map] at this
    exact this he
  · have := List.pairwise_iff_getElem.1 hd b a (by simpa using hb) (by simpa using ha) h
    simp only [List.getElem_map] at this
    exact this he.symm
theorem one_good (hv : ValidV V) (ha : a < V.le.length) (hb : b < V.le.length) (hab : a ≠ b) (hn : 1 ≤ n ∧ n ≤ 100) (hr : 0 ≤ r ∧ r ≤ 8) : lnGood V.le (oneL V a b n r) = true := by
  have hne := names_ne hv ha hb hab
  refine good_iff.2 ⟨List.mem_map.2 ⟨_, List.getElem_mem ha, ?_⟩, List.mem_map.2 ⟨_, List.getElem_mem hb, ?_⟩, ?_⟩
  · simp only [oneL]; rw [getD_of ha]
  · simp only [oneL]; rw [getD_of hb]
  · unfold loanB oneL inB
    simp only [Bool.and_eq_true, decide_eq_true_eq]
    refine ⟨?_, ⟨by omega, by omega⟩, by omega, by omega⟩
    have h2 : (V.le.getD a noStk).name.toList ≠ (V.le.getD b noStk).name.toList := fun e => hne (names_inj e)
    simpa using h2
theorem lent_more (hv : ValidV V) (xs : List Ln) {i : Nat} (hi : i < V.le.length) :
    (lentV (lendV V xs) i).1 = (lentV V i).1 + (xs.map fun x => (dlt (V.le.getD i noStk).name x).1).sum ∧ (lentV (lendV V xs) i).2 = (lentV V i).2 + (xs.map fun x => (dlt (V.le.getD i noStk).name x).2).sum := by
  have hd := (stakes_ok hv.le).2.2
  have e1 := lent_dlt hd hi V.lo
  have e2 := lent_dlt hd hi (V.lo ++ xs)
  rw [List.map_append, List.map_append, List.sum_append, List.sum_append] at e2
  unfold lentV lendV
  simp only
  omega
theorem back_same (hv : ValidV V) (ha : a < V.le.length) (hb : b < V.le.length) (hab : a ≠ b) {i : Nat} (hi : i < V.le.length) : lentV (lendV V [oneL V a b n r, oneL V b a n r]) i = lentV V i := by
  have h := lent_more hv [oneL V a b n r, oneL V b a n r] hi
  have hne := names_ne hv ha hb hab
  have hz : ∀ nm, (dlt nm (oneL V a b n r)).1 + (dlt nm (oneL V b a n r)).1 = 0 ∧ (dlt nm (oneL V a b n r)).2 + (dlt nm (oneL V b a n r)).2 = 0 := fun nm => by
    unfold dlt oneL
    simp only
    by_cases h1 : nm = (V.le.getD b noStk).name
    · rw [if_pos h1, if_neg (fun e => hne (e.symm.trans h1)), if_pos h1]; simp only; omega
    · rw [if_neg h1]
      by_cases h2 : nm = (V.le.getD a noStk).name
      · rw [if_pos h2, if_pos h2]; simp only; omega
      · rw [if_neg h2, if_neg h2, if_neg h1]; simp
  have h0 := hz (V.le.getD i noStk).name
  simp only [List.map_cons, List.map_nil, List.sum_cons, List.sum_nil] at h
  exact Prod.ext (by omega) (by omega)
theorem free_same (hv : ValidV V) {i : Nat} (hi : i < V.le.length) : (lentV (lendV V [oneL V a b n 8]) i).2 = (lentV V i).2 := by
  have h := lent_more hv [oneL V a b n 8] hi
  have hz : ∀ nm, (dlt nm (oneL V a b n 8)).2 = 0 := fun nm => by
    unfold dlt oneL
    simp only
    split
    · simp
    · split <;> simp
  have h0 := hz (V.le.getD i noStk).name
  simp only [List.map_cons, List.map_nil, List.sum_cons, List.sum_nil] at h
  omega
theorem clmW_len (V : Voy) : (clmW V).length = V.le.length := by unfold clmW wts; rw [List.length_map, clm_len]
theorem clmW_congr {X : Voy} (hl : X.le = V.le) (h : ∀ i, i < V.le.length → (lentV X i).2 = (lentV V i).2) : clmW X = clmW V := by
  unfold clmW wts clm
  rw [hl, List.map_map, List.map_map]
  refine List.map_congr_left fun i hi => ?_
  simp only [Function.comp]
  rw [h i (List.mem_range.1 hi)]
theorem lendV_valid (hv : ValidV V) (xs : List Ln) : ValidV (lendV V xs) := ⟨hv.gr, hv.csl, hv.cs, hv.net, hv.bo, hv.ne, hv.cr, hv.all, hv.ow, hv.le, hv.ha, hv.bbo, hv.bne, hv.bcr⟩
theorem back_ok (hE : voyE V = 0) (ha : a < V.le.length) (hb : b < V.le.length) (hab : a ≠ b) (hn : 1 ≤ n ∧ n ≤ 100) (hr : 0 ≤ r ∧ r ≤ 8) (hl : V.lo.length + 2 ≤ 12) : voyE (lendV V [oneL V a b n r, oneL V b a n r]) = 0 ∧ clmW (lendV V [oneL V a b n r, oneL V b a n r]) = clmW V := by
  obtain ⟨hv, hle⟩ := voyE_ok hE
  have hs := fun i hi => back_same (n := n) (r := r) hv ha hb hab (i := i) hi
  refine ⟨?_, clmW_congr rfl fun i hi => by rw [hs i hi]⟩
  have h1 : lendB V.le (V.lo ++ [oneL V a b n r, oneL V b a n r]) = true := by
    refine lend_mk (by simpa using hl) (fun x hx => ?_) fun i hi => ?_
    · rcases List.mem_append.1 hx with h | h
      · exact lend_all hle x h
      · simp only [List.mem_cons, List.not_mem_nil, or_false] at h
        rcases h with rfl | rfl
        · exact one_good hv ha hb hab hn hr
        · exact one_good hv hb ha (Ne.symm hab) hn hr
    · have : lentTo V.le (V.lo ++ [oneL V a b n r, oneL V b a n r]) (V.lo ++ [oneL V a b n r, oneL V b a n r]).length i = lentV V i := hs i hi
      rw [this]
      exact (lend_ok hle).2.2 i hi
  unfold voyE
  rw [if_pos (valid_iff.2 (lendV_valid hv _))]
  exact if_pos h1
theorem free_ok (hE : voyE V = 0) : (voyE (lendV V [oneL V a b n 8]) = 0 ∨ voyE (lendV V [oneL V a b n 8]) = 31) ∧ clmW (lendV V [oneL V a b n 8]) = clmW V := by
  obtain ⟨hv, hle⟩ := voyE_ok hE
  refine ⟨?_, clmW_congr rfl fun i hi => free_same hv hi⟩
  unfold voyE
  rw [if_pos (valid_iff.2 (lendV_valid hv _))]
  split
  · exact .inl rfl
  · exact .inr rfl
theorem clmW_get (V : Voy) {i : Nat} (hi : i < V.le.length) : (clmW V).getD i 0 = (lentV V i).2 := by
  rw [getD_of (by rw [clmW_len]; exact hi)]; simp [clmW, wts, clm]
theorem clmW_bound (hE : voyE V = 0) : ∀ x ∈ clmW V, 0 ≤ x ∧ x ≤ 200000 := fun x hx => by
  obtain ⟨hv, hle⟩ := voyE_ok hE
  obtain ⟨i, hi, rfl⟩ := List.getElem_of_mem hx
  rw [clmW_len] at hi
  have e := clmW_get V hi
  rw [getD_of (by rw [clmW_len]; exact hi)] at e
  rw [e]
  have hok := lend_ok hle
  have h1 := (hok.2.2 i hi).2
  have h2 := (lentTo_bound (xs := V.lo) (fun s hs => ((stakes_ok hv.le).2.1 s hs).2) V.lo.length (Nat.le_refl _) hok.2.1 i).2
  have h3 := hok.1
  unfold lentV
  omega
theorem clmW_sum (hE : voyE V = 0) : (clmW V).sum = 8 * sumW V.le := by
  obtain ⟨hv, hle⟩ := voyE_ok hE
  have h := lent_sum (stakes_ok hv.le).2.2 V.lo.length (Nat.le_refl _) (lend_ok hle).2.1
  rw [← h]
  exact clm_sum V.le (lentV V) V.le.length
end
end
section
open Go Go.RowKit Go.Shelf

theorem gives_storeF {F : Fence} {n : Nat} {R : World → World → Prop} {o : Oper} {a : Act} {w W : World} {V : Value → World → Prop} (ty : TypeId) (x y : Operand) (ho : o.op = .store ty x y) {c c' : Array Value}
    (hx : a.eval x = .pointer (some ⟨W.heap.size, 0, none⟩)) (hy : a.eval y = .agg c') (hw : w = W.alloc (.cells c ty)) (hi : (Tryz.prog.info? ty).map (·.size) = some c'.size) (hs : c.size = c'.size) (h1 : c'.all (·.oneCell') = true)
    (h : V undef (W.alloc (.cells c' ty)) ∧ R w (W.alloc (.cells c' ty))) : gives F n Tryz.prog R o a w V := by
  subst hw
  have hr := run_storeAt_new (P := Tryz.prog) W ty c c' hi hs h1
  unfold gives
  rw [Oper.semAt_eq _ _ _ (by rw [ho]; intro c h; cases h)]
  unfold execOp
  simp only [ho, hx, hy, Sem.run_bind, Sem.run_pure, Result.andThen_ok, hr]
  exact h
theorem updL_ne {L : Nat → Bool} {j k : Nat} (h : j ≠ k) : updL L k j = L j := if_neg h
theorem updL_eq {L : Nat → Bool} {k : Nat} : updL L k k = true := if_pos rfl
theorem updX_ne {x : Nat → Value} {j k : Nat} {v : Value} (h : j ≠ k) : updX x k v j = x j := if_neg h
theorem updX_eq {x : Nat → Value} {k : Nat} {v : Value} : updX x k v k = v := if_pos rfl
theorem info32 : (Tryz.prog.info? 32).map (·.size) = some 9 := by kernel_rfl
theorem size59 : (Tryz.prog.info? 59).map (·.size) = some 4 := by kernel_rfl
/-- One box: made by operation i, filled by j. -/
def mkJ (wd wa w1 : World) (i j : Nat) : InvJ := fun L x u => (L i = false → u = wd) ∧ (L i = true → L j = false → u = wa) ∧ (L j = true → u = w1) ∧ (L j = true → L i = true)
section
variable {wd wa w1 u w0 : World} {L : Nat → Bool} {x : Nat → Value} {i j : Nat}
theorem mkJ_start : mkJ wd wa w1 i j (fun _ => false) (fun _ => undef) wd := by refine ⟨fun _ => rfl, ?_, ?_, ?_⟩ <;> intro h <;> cases h
theorem mkJ_ext (h : mkJ wd wa w1 i j L x u) (ha : Ext wd wa) (h1 : Ext wd w1) : Ext wd u := by
  obtain ⟨a, b, c, d⟩ := h
  cases hi : L i with
  | false => rw [a hi]; exact Ext.refl _
  | true =>
    cases hj : L j with
    | false => rw [b hi hj]; exact ha
    | true => rw [c hj]; exact h1
theorem mkJ_skip {k : Nat} (hk : (i != k && j != k) = true) (h : mkJ wd wa w1 i j L x u) : mkJ wd wa w1 i j (updL L k) x u := by
  simp only [Bool.and_eq_true, bne_iff_ne, ne_eq] at hk
  unfold mkJ updL at *
  rw [if_neg hk.1, if_neg hk.2]; exact h
theorem mkJ_make (h : mkJ wd wa w1 i j L x u) (hL : L i = false) (hj : j ≠ i) : u = wd ∧ mkJ wd wa w1 i j (updL L i) x wa := by
  obtain ⟨a, b, c, d⟩ := h
  have hLj : L j = false := by cases hh : L j with | false => rfl | true => rw [d hh] at hL; cases hL
  refine ⟨a hL, ?_⟩
  unfold mkJ updL
  rw [if_pos rfl, if_neg hj, hLj]
  exact ⟨fun h => (by cases h), fun _ _ => rfl, fun h => (by cases h), fun h => (by cases h)⟩
theorem mkJ_fill (h : mkJ wd wa w1 i j L x u) (hi : L i = true) (hL : L j = false) (hj : i ≠ j) : u = wa ∧ mkJ wd wa w1 i j (updL L j) x w1 := by
  obtain ⟨a, b, c, d⟩ := h
  refine ⟨b hi hL, ?_⟩
  unfold mkJ updL
  rw [if_pos rfl, if_neg hj, hi]
  exact ⟨fun h => (by cases h), fun _ h => (by cases h), fun _ => rfl, fun _ => rfl⟩
end
/-- A loan whose two names are changed for each other. -/
def bkJ (w0 : World) (b : Nat) (A B : ByteArray) (n r : Int) : InvJ := fun L x u => Ext w0 u ∧ u.heap[b]? = some (.cells #[.string (if L 5 then B else A), .string (if L 7 then A else B), .int .i64 n, .int .i64 r] 59 (0, 0))
section
variable {w0 u : World} {b : Nat} {A B : ByteArray} {n r : Int} {L : Nat → Bool} {x : Nat → Value}
theorem bkJ_skip {k : Nat} (hk : (5 != k && 7 != k) = true) (h : bkJ w0 b A B n r L x u) : bkJ w0 b A B n r (updL L k) x u := by
  simp only [Bool.and_eq_true, bne_iff_ne, ne_eq] at hk
  unfold bkJ updL at *
  rw [if_neg hk.1, if_neg hk.2]; exact h
theorem bkJ_5 (h : bkJ w0 b A B n r L x u) (hb : w0.heap.size ≤ b) : bkJ w0 b A B n r (updL L 5) x (u.setCell ⟨b, 0, none⟩ (.string B)) := ⟨h.1.set hb _ _, set_same h.2 0 _⟩
theorem bkJ_7 (h : bkJ w0 b A B n r L x u) (hb : w0.heap.size ≤ b) : bkJ w0 b A B n r (updL L 7) x (u.setCell ⟨b, 1, none⟩ (.string A)) := ⟨h.1.set hb _ _, set_same h.2 1 _⟩
end
/-- Two boxes made by the operations 2 and 3, and filled by 4 and 5. -/
def boxJ (w0 : World) (Z C : Array Value) (T : TypeId) : InvJ := fun L x u => Ext w0 u ∧
  (L 2 = true → ∃ g, x 2 = .pointer (some ⟨g, 0, none⟩) ∧ w0.heap.size ≤ g ∧ u.heap[g]? = some (.cells (if L 4 then C else Z) T (0, 0))) ∧
  (L 3 = true → ∃ g, x 3 = .pointer (some ⟨g, 0, none⟩) ∧ w0.heap.size ≤ g ∧ u.heap[g]? = some (.cells (if L 5 then C else Z) T (0, 0))) ∧
  (L 2 = true → L 3 = true → x 2 ≠ x 3) ∧ (L 4 = true → L 2 = true) ∧ (L 5 = true → L 3 = true)
section
variable {w0 u : World} {Z C : Array Value} {T : TypeId} {L : Nat → Bool} {x : Nat → Value}
theorem boxJ_start {u : World} (h : Ext w0 u) : boxJ w0 Z C T (fun _ => false) (fun _ => undef) { u with drawn := u.drawn + 1 } :=
  ⟨h.trans (Ext.drawn _), fun h => (by cases h), fun h => (by cases h), fun h => (by cases h), fun h => (by cases h), fun h => (by cases h)⟩
theorem boxJ_skip {k : Nat} (hk : (2 != k && 3 != k && 4 != k && 5 != k) = true) (h : boxJ w0 Z C T L x u) : boxJ w0 Z C T (updL L k) x u := by
  simp only [Bool.and_eq_true, bne_iff_ne, ne_eq] at hk
  unfold boxJ updL at *
  rw [if_neg hk.1.1.1, if_neg hk.1.1.2, if_neg hk.1.2, if_neg hk.2]; exact h
theorem boxJ_2 (h : boxJ w0 Z C T L x u) (hL : L 2 = false) : boxJ w0 Z C T (updL L 2) (updX x 2 (.pointer (some ⟨u.heap.size, 0, none⟩))) (u.alloc (.cells Z T)) := by
  obtain ⟨h1, h2, h3, h4, h5, h6⟩ := h
  have hx : Ext u (u.alloc (.cells Z T)) := (Ext.refl _).alloc _
  have hL4 : L 4 = false := by cases hh : L 4 with | false => rfl | true => rw [h5 hh] at hL; cases hL
  unfold boxJ
  rw [updL_ne (show 3 ≠ 2 by decide), updL_ne (show 4 ≠ 2 by decide), updL_ne (show 5 ≠ 2 by decide), updX_eq, updX_ne (show 3 ≠ 2 by decide), hL4]
  refine ⟨h1.trans hx, fun _ => ⟨u.heap.size, rfl, h1.size, Ext.new (Ext.refl _)⟩, fun e => ?_, fun _ e => ?_, fun e => (by cases e), h6⟩
  · obtain ⟨g, k1, k2, k3⟩ := h3 e
    exact ⟨g, k1, k2, hx.block k3⟩
  · obtain ⟨g, k1, k2, k3⟩ := h3 e
    rw [k1]
    intro he
    cases he
    have := lt_of_block k3; omega
theorem boxJ_3 (h : boxJ w0 Z C T L x u) (hL : L 3 = false) : boxJ w0 Z C T (updL L 3) (updX x 3 (.pointer (some ⟨u.heap.size, 0, none⟩))) (u.alloc (.cells Z T)) := by
  obtain ⟨h1, h2, h3, h4, h5, h6⟩ := h
  have hx : Ext u (u.alloc (.cells Z T)) := (Ext.refl _).alloc _
  have hL5 : L 5 = false := by cases hh : L 5 with | false => rfl | true => rw [h6 hh] at hL; cases hL
  unfold boxJ
  rw [updL_ne (show 2 ≠ 3 by decide), updL_ne (show 4 ≠ 3 by decide), updL_ne (show 5 ≠ 3 by decide), updX_eq, updX_ne (show 2 ≠ 3 by decide), hL5]
  refine ⟨h1.trans hx, fun e => ?_, fun _ => ⟨u.heap.size, rfl, h1.size, Ext.new (Ext.refl _)⟩, fun e _ => ?_, h5, fun e => (by cases e)⟩
  · obtain ⟨g, k1, k2, k3⟩ := h2 e
    exact ⟨g, k1, k2, hx.block k3⟩
  · obtain ⟨g, k1, k2, k3⟩ := h2 e
    rw [k1]
    intro he
    cases he
    have := lt_of_block k3; omega
theorem boxJ_4 (h : boxJ w0 Z C T L x u) (h2 : L 2 = true) {g : Nat} (hg : x 2 = .pointer (some ⟨g, 0, none⟩)) {u' : World} (hu : u' = u.setRow g C) (hk : Ext w0 u') (hb : u'.heap[g]? = some (.cells C T (0, 0))) : boxJ w0 Z C T (updL L 4) x u' := by
  obtain ⟨k1, k2, k3, k4, k5, k6⟩ := h
  unfold boxJ
  rw [updL_ne (show 2 ≠ 4 by decide), updL_ne (show 3 ≠ 4 by decide), updL_ne (show 5 ≠ 4 by decide), updL_eq]
  refine ⟨hk, fun e => ?_, fun e => ?_, k4, fun _ => h2, k6⟩
  · obtain ⟨g', e1, e2, _⟩ := k2 h2
    rw [hg] at e1; cases e1
    exact ⟨g, hg, e2, hb⟩
  · obtain ⟨g', e1, e2, e3⟩ := k3 e
    refine ⟨g', e1, e2, ?_⟩
    have hne : g' ≠ g := by
      rintro rfl
      exact k4 h2 e (hg.trans e1.symm)
    rw [hu, setRow_other u g g' _ hne]; exact e3
theorem boxJ_5 (h : boxJ w0 Z C T L x u) (h3 : L 3 = true) {g : Nat} (hg : x 3 = .pointer (some ⟨g, 0, none⟩)) {u' : World} (hu : u' = u.setRow g C) (hk : Ext w0 u') (hb : u'.heap[g]? = some (.cells C T (0, 0))) : boxJ w0 Z C T (updL L 5) x u' := by
  obtain ⟨k1, k2, k3, k4, k5, k6⟩ := h
  unfold boxJ
  rw [updL_ne (show 2 ≠ 5 by decide), updL_ne (show 3 ≠ 5 by decide), updL_ne (show 4 ≠ 5 by decide), updL_eq]
  refine ⟨hk, fun e => ?_, fun e => ?_, k4, k5, fun _ => h3⟩
  · obtain ⟨g', e1, e2, e3⟩ := k2 e
    refine ⟨g', e1, e2, ?_⟩
    have hne : g' ≠ g := by
      rintro rfl
      exact k4 e h3 (e1.trans hg.symm)
    rw [hu, setRow_other u g g' _ hne]; exact e3
  · obtain ⟨g', e1, e2, _⟩ := k3 h3
    rw [hg] at e1; cases e1
    exact ⟨g, hg, e2, hb⟩
theorem setRow_ext {w0 u : World} (h : Ext w0 u) {g : Nat} (hg : w0.heap.size ≤ g) (cs : Array Value) : Ext w0 (u.setRow g cs) := by
  refine ext_grown (ob := some g) h ⟨rfl, rfl, rfl, by simp [World.setRow], fun k hk hne => setRow_other u g k _ (fun e => hne (by rw [e]))⟩ (fun g' h' => by cases h'; exact hg)
end
/-- A row of two parts, the second one made apart: i0 the empty row, i1 the first part, ib the box, j the second part, st the store. -/
def bld2J (v0 w0 : World) (b i0 i1 ib j st : Nat) (arr : Value → Array Value) (ty : TypeId) (v : Value) (l : List Ln) (m : Nat) (ne : List Value) : InvJ := fun L x u =>
  Bld v0 w0 u b 59 4 (if L j then x j else if L i1 then x i1 else if L i0 then x i0 else .slice none 0 0) (if L j then l.length + m else if L i1 then l.length else 0) (if L j then lnF l ++ ne else if L i1 then lnF l else []) (L ib) (x ib) m ne ∧
  u.heap[b]? = some (.cells (arr (if L st then x j else v)) ty (0, 0)) ∧ ((L st = true → L j = true) ∧ (L j = true → L i1 = true ∧ L ib = true) ∧ (L i1 = true → L i0 = true)) ∧ (L i0 = true → L i1 = false → ∃ ca cc, x i0 = .slice ca 0 cc)
section
variable {v0 w0 u : World} {b i0 i1 ib j st : Nat} {arr : Value → Array Value} {ty : TypeId} {v : Value} {l : List Ln} {m : Nat} {ne : List Value} {L : Nat → Bool} {x : Nat → Value}
theorem bld2J_start (h : Ext v0 u) (hb : v0.heap.size ≤ b ∧ b < u.heap.size) (hc : u.heap[b]? = some (.cells (arr v) ty (0, 0))) : bld2J v0 u b i0 i1 ib j st arr ty v l m ne (fun _ => false) (fun _ => undef) { u with drawn := u.drawn + 1 } :=
  ⟨⟨h.trans (Ext.drawn _), KM.of_ext (Ext.drawn _), hb, Row.nil _ _ _, fun g hg => by simp [Value.ownBlock] at hg, fun h => by cases h⟩, hc, ⟨fun h => (by cases h), fun h => (by cases h), fun h => (by cases h)⟩, fun h => by cases h⟩
theorem bld2J_skip {k : Nat} (hk : (i0 != k && i1 != k && ib != k && j != k && st != k) = true) (h : bld2J v0 w0 b i0 i1 ib j st arr ty v l m ne L x u) : bld2J v0 w0 b i0 i1 ib j st arr ty v l m ne (updL L k) x u := by
  simp only [Bool.and_eq_true, bne_iff_ne, ne_eq] at hk
  unfold bld2J at *
  rw [updL_ne hk.1.1.1.1, updL_ne hk.1.1.1.2, updL_ne hk.1.1.2, updL_ne hk.1.2, updL_ne hk.2]
  exact h
theorem bld2J_low (h : bld2J v0 w0 b i0 i1 ib j st arr ty v l m ne L x u) : (L i0 = false → L i1 = false) ∧ (L i1 = false → L j = false) ∧ (L ib = false → L j = false) ∧ (L j = false → L st = false) := by
  obtain ⟨_, _, ⟨a, b, c⟩, _⟩ := h
  refine ⟨fun e => ?_, fun e => ?_, fun e => ?_, fun e => ?_⟩
  · cases hh : L i1 with | false => rfl | true => rw [c hh] at e; cases e
  · cases hh : L j with | false => rfl | true => rw [(b hh).1] at e; cases e
  · cases hh : L j with | false => rfl | true => rw [(b hh).2] at e; cases e
  · cases hh : L st with | false => rfl | true => rw [a hh] at e; cases e
theorem bld2J_empty (hk : (i1 != i0 && ib != i0 && j != i0 && st != i0) = true) (h : bld2J v0 w0 b i0 i1 ib j st arr ty v l m ne L x u) (hL : L i0 = false) : bld2J v0 w0 b i0 i1 ib j st arr ty v l m ne (updL L i0) (updX x i0 (.slice (some ⟨u.heap.size, 0, none⟩) 0 0)) (u.alloc (.cells #[] 59)) := by
  simp only [Bool.and_eq_true, bne_iff_ne, ne_eq] at hk
  have hlow := bld2J_low h
  have l1 := hlow.1 hL
  have l2 := hlow.2.1 l1
  have l3 := hlow.2.2.2 l2
  obtain ⟨k1, k2, k3, k4⟩ := h
  rw [l2, l1] at k1
  rw [l3] at k2
  unfold bld2J
  rw [updL_ne hk.1.1.1, updL_ne hk.1.1.2, updL_ne hk.1.2, updL_ne hk.2, updL_eq, updX_ne hk.1.2, updX_ne hk.1.1.2, updX_eq, updX_ne hk.1.1.1, l1, l2, l3]
  refine ⟨k1.empty, ((Ext.refl u).alloc _).block k2, ⟨fun e => (by cases e), fun e => (by cases e), fun e => rfl⟩, fun _ _ => ⟨_, _, rfl⟩⟩
theorem bld2J_first (hk : (i0 != i1 && ib != i1 && j != i1 && st != i1) = true) (h : bld2J v0 w0 b i0 i1 ib j st arr ty v l m ne L x u) (h0 : L i0 = true) (hL : L i1 = false) {sa : Option Addr} {k sc : Nat} (hl : LoansAt v0 (.slice sa k sc) l) (hb : l.length ≤ 100000) :
    ∃ v' u', (Builtin.append_ #[30, 30] 30 #[x i0, .slice sa k sc]).run Tryz.prog u = .ok v' u' ∧ bld2J v0 w0 b i0 i1 ib j st arr ty v l m ne (updL L i1) (updX x i1 v') u' := by
  simp only [Bool.and_eq_true, bne_iff_ne, ne_eq] at hk
  have hlow := bld2J_low h
  have l2 := hlow.2.1 hL
  have l3 := hlow.2.2.2 l2
  obtain ⟨k1, k2, k3, k4⟩ := h
  have hs := k4 h0 hL
  rw [l2, hL, h0] at k1
  simp only [Bool.false_eq_true, if_false, if_true] at k1
  rw [l3] at k2
  obtain ⟨ca, cc, e⟩ := hs
  obtain ⟨v', u', r1, r2, r3⟩ := k1.loans (v := v) hl (by omega) ⟨ca, cc, e, Nat.zero_le _⟩
  rw [Nat.zero_add, List.nil_append] at r2
  refine ⟨v', u', r1, ?_⟩
  unfold bld2J
  rw [updL_ne hk.1.2, updL_eq, updL_ne hk.1.1.2, updL_ne hk.2, updL_ne hk.1.1.1, updX_ne hk.1.2, updX_eq, updX_ne hk.1.1.2, updX_ne hk.1.1.1, l2, l3, h0]
  simp only [Bool.false_eq_true, if_false, if_true]
  exact ⟨r2, k1.keep r3 k2, ⟨fun e => (by cases e), fun e => (by cases e), fun _ => trivial⟩, fun _ e => (by cases e)⟩
theorem bld2J_make (hk : (i0 != ib && i1 != ib && j != ib && st != ib) = true) (h : bld2J v0 w0 b i0 i1 ib j st arr ty v l m ne L x u) (hL : L ib = false) {cs : Array Value} (hcs : cs = ne.toArray) : bld2J v0 w0 b i0 i1 ib j st arr ty v l m ne (updL L ib) (updX x ib (.slice (some ⟨u.heap.size, 0, none⟩) m m)) (u.alloc (.cells cs 59)) := by
  simp only [Bool.and_eq_true, bne_iff_ne, ne_eq] at hk
  have hlow := bld2J_low h
  have l2 := hlow.2.2.1 hL
  have l3 := hlow.2.2.2 l2
  obtain ⟨k1, k2, k3, k4⟩ := h
  rw [l2] at k1
  rw [l3] at k2
  unfold bld2J
  rw [updL_ne hk.1.2, updL_ne hk.1.1.2, updL_ne hk.1.1.1, updL_ne hk.2, updL_eq, updX_ne hk.1.2, updX_ne hk.1.1.2, updX_ne hk.1.1.1, updX_eq, l2, l3]
  exact ⟨k1.make hcs, ((Ext.refl u).alloc _).block k2, ⟨fun e => (by cases e), fun e => (by cases e), k3.2.2⟩, k4⟩
theorem bld2J_app (hk : (i0 != j && i1 != j && ib != j && st != j) = true) (h : bld2J v0 w0 b i0 i1 ib j st arr ty v l m ne L x u) (h1 : L i1 = true) (hb : L ib = true) (hL : L j = false) (hm : 0 < m) (hl : ne.length = m * 4) (hne : ∀ u ∈ ne, u.oneCell' = true) (h63 : l.length + m ≤ 100000) :
    ∃ v' u', (Builtin.append_ #[30, 30] 30 #[x i1, x ib]).run Tryz.prog u = .ok v' u' ∧ bld2J v0 w0 b i0 i1 ib j st arr ty v l m ne (updL L j) (updX x j v') u' := by
  simp only [Bool.and_eq_true, bne_iff_ne, ne_eq] at hk
  obtain ⟨i, hi, hz0, hz1, hz2⟩ := info_parts info59
  have hlow := bld2J_low h
  have l3 := hlow.2.2.2 hL
  obtain ⟨k1, k2, k3, k4⟩ := h
  rw [hL, h1, hb] at k1
  simp only [Bool.false_eq_true, if_false, if_true] at k1
  rw [l3] at k2
  obtain ⟨v', u', r1, r2, r3⟩ := k1.app (ty := 30) Tryz.underlying30 hi hz0 hz1 hz2 (by simp [Value.cells]) (by omega) hm hl hne (by omega) (by omega)
  refine ⟨v', u', r1, ?_⟩
  unfold bld2J
  rw [updL_eq, updL_ne hk.1.2, updL_ne hk.2, updL_ne hk.1.1.2, updL_ne hk.1.1.1, updX_eq, updX_ne hk.1.2, updX_ne hk.1.1.2, updX_ne hk.1.1.1, h1, hb, l3]
  simp only [if_true, Bool.false_eq_true, if_false]
  exact ⟨r2, k1.keep r3 k2, ⟨fun e => (by cases e), fun _ => ⟨trivial, trivial⟩, fun _ => k3.2.2 h1⟩, fun _ e => (by cases e)⟩
theorem bld2J_store (hk : (i0 != st && i1 != st && ib != st && j != st) = true) (h : bld2J v0 w0 b i0 i1 ib j st arr ty v l m ne L x u) (hj : L j = true) {off : Nat} (harr : ∀ y z, (arr y).setIfInBounds off z = arr z) : bld2J v0 w0 b i0 i1 ib j st arr ty v l m ne (updL L st) x (u.setCell ⟨b, off, none⟩ (x j)) := by
  simp only [Bool.and_eq_true, bne_iff_ne, ne_eq] at hk
  obtain ⟨k1, k2, k3, k4⟩ := h
  have e := set_same k2 off (x j)
  rw [harr] at e
  unfold bld2J
  rw [updL_ne hk.2, updL_ne hk.1.1.2, updL_ne hk.1.1.1, updL_ne hk.1.2, updL_eq]
  exact ⟨k1.store off _, e, ⟨fun _ => hj, k3.2⟩, k4⟩
theorem bld2J_old (h : bld2J v0 w0 b i0 i1 ib j st arr ty v l m ne L x u) (hL : L st = false) : u.heap[b]? = some (.cells (arr v) ty (0, 0)) := by
  have k2 := h.2.1
  rw [hL] at k2; exact k2
theorem bld2J_end (h : bld2J v0 w0 b i0 i1 ib j st arr ty v l m ne L x u) (hj : L j = true) (hs : L st = true) : Bld v0 w0 u b 59 4 (x j) (l.length + m) (lnF l ++ ne) (L ib) (x ib) m ne ∧ u.heap[b]? = some (.cells (arr (x j)) ty (0, 0)) := by
  obtain ⟨k1, k2, _⟩ := h
  rw [hj] at k1
  rw [hs] at k2
  exact ⟨k1, k2⟩
theorem bld2J_row (h : bld2J v0 w0 b i0 i1 ib j st arr ty v l m ne L x u) (hj : L j = true) : ∃ a c, x j = .slice a (l.length + m) c := by
  have k1 := h.1.row
  rw [hj] at k1
  exact k1.isSliceN
end
end
end Go.Proofs.YtjocoadhalimjaaGreat
