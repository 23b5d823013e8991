/- Check, Parts, Shares of a voyage. -/
import Derived.Test.YtjocoadhalimjaaGreatRAP
import Derived.Test.YtjocoadhalimjaaGreatBase
import Derived.Test.YtjocoadhalimjaaGreatRAJ
set_option linter.unusedSimpArgs false
set_option linter.unusedVariables false
namespace Go.Proofs.YtjocoadhalimjaaGreat
section
open Go Go.RowKit Go.Shelf

theorem newVoyage_bad {V : Voy} {s : VS} {w : World} (h : VoyAt w V s) (hE : voyE V ≠ 0) : Cal 54 #[.agg (voyA V s)] w fun e w' => e = .returned (.tuple #[.agg zeroVoy, .int .i64 (voyE V)]) ∧ Ext w w' :=
  (newVoyage_any V s w h).mono fun e w' ⟨hx, h'⟩ => by
    rcases h' with ⟨_, h1⟩ | ⟨h1, _⟩
    · exact ⟨h1, hx⟩
    · exact absurd h1 hE
theorem newVoyage_ok {V : Voy} {s : VS} {w : World} (h : VoyAt w V s) (hE : voyE V = 0) : Cal 54 #[.agg (voyA V s)] w fun e w' => ∃ bm, e = .returned (.tuple #[.agg (voyB V s (.map (some bm))), .int .i64 0]) ∧ Ext w w' ∧ w.heap.size ≤ bm ∧ Hid (GMapAt .string w' bm (entM V.le (lentTo V.le V.lo V.lo.length) V.le.length)) :=
  (newVoyage_any V s w h).mono fun e w' ⟨hx, h'⟩ => by
    rcases h' with ⟨h1, _⟩ | ⟨_, bm, h1, h2, h3⟩
    · exact absurd hE h1
    · exact ⟨bm, h1, hx, h2, h3⟩
theorem voyE_ok {V : Voy} (h : voyE V = 0) : ValidV V ∧ lendB V.le V.lo = true := by
  unfold voyE at h
  by_cases h1 : validV V = true
  · rw [if_pos h1] at h
    by_cases h2 : lendB V.le V.lo = true
    · exact ⟨valid_iff.1 h1, h2⟩
    · rw [if_neg h2] at h; omega
  · rw [if_neg h1] at h; omega
theorem voyE_some (V : Voy) : voyE V = 0 ∨ voyE V = 30 ∨ voyE V = 31 := by
  unfold voyE; split
  · split
    · exact .inl rfl
    · exact .inr (.inr rfl)
  · exact .inr (.inl rfl)
set_option maxRecDepth 100000 in
set_option maxHeartbeats 8000000 in
theorem Check_bad (V : Voy) (s : VS) (w : World) (h : VoyAt w V s) (hE : voyE V ≠ 0) : Cal 21 #[.agg (voyA V s)] w fun e w' => e = .returned (.int .i64 (voyE V)) ∧ Ext w w' := by
  have HN := hid (fun (u : World) (hu : Ext w u) => newVoyage_bad (h.mono hu) hE)
  obtain ⟨E, hEE⟩ : ∃ E, voyE V = E := ⟨_, rfl⟩
  rw [hEE] at HN hE ⊢
  have hb : (E == 0) = false := by simpa using hE
  clear h hEE
  unfold voyA zeroVoy at *
  obtain ⟨gr, bo, ne, cr, cs, ol, ll, hl, xs⟩ := V
  obtain ⟨ca, oa, la, ha, xa, cc, oc, lc, hc, xc⟩ := s
  simp only at *
  have hx0 : Ext w (w.alloc (.cells #[.int .i64 gr, .slice ca cs.length cc, .int .i64 bo, .int .i64 ne, .int .i64 cr, .slice oa ol.length oc, .slice la ll.length lc, .slice ha hl.length hc, .slice xa xs.length xc] 32)) := (Ext.refl _).alloc _
  have HNN := hid (HN.out _ hx0)
  clear HN
  gi_enter Tryz.func21, Tryz.ntmps21
  gi_wp2_with (gi_at_call 54; ((with_reducible refine (HNN.out).mono ?_); rintro e w1 ⟨rfl, hx1⟩; have HX1 := hid (hx0.trans hx1); clear hx1 hx0))
  exact bodyPost_ret (v := .int .i64 E) (by simp [results, Tryz.results21, go_sem]) rfl ⟨rfl, HX1.out.alloc _⟩
set_option maxRecDepth 100000 in
set_option maxHeartbeats 8000000 in
theorem Parts_bad (V : Voy) (s : VS) (w : World) (h : VoyAt w V s) (hE : voyE V ≠ 0) : Cal 23 #[.agg (voyA V s)] w fun e w' => e = .returned (.tuple #[.int .i64 0, .int .i64 0, .int .i64 0, .int .i64 (voyE V)]) ∧ Ext w w' := by
  have HN := hid (fun (u : World) (hu : Ext w u) => newVoyage_bad (h.mono hu) hE)
  obtain ⟨E, hEE⟩ : ∃ E, voyE V = E := ⟨_, rfl⟩
  rw [hEE] at HN hE ⊢
  have hb : (E == 0) = false := by simpa using hE
  clear h hEE
  unfold voyA zeroVoy at *
  obtain ⟨gr, bo, ne, cr, cs, ol, ll, hl, xs⟩ := V
  obtain ⟨ca, oa, la, ha, xa, cc, oc, lc, hc, xc⟩ := s
  simp only at *
  have hx0 : Ext w (w.alloc (.cells #[.int .i64 gr, .slice ca cs.length cc, .int .i64 bo, .int .i64 ne, .int .i64 cr, .slice oa ol.length oc, .slice la ll.length lc, .slice ha hl.length hc, .slice xa xs.length xc] 32)) := (Ext.refl _).alloc _
  have HNN := hid (HN.out _ hx0)
  clear HN
  gi_enter Tryz.func23, Tryz.ntmps23
  gi_wp2_with (gi_at_call 54; ((with_reducible refine (HNN.out).mono ?_); rintro e w1 ⟨rfl, hx1⟩; have HX1 := hid (hx0.trans hx1); clear hx1 hx0))
  exact bodyPost_ret (v := .tuple #[.int .i64 0, .int .i64 0, .int .i64 0, .int .i64 E]) (by simp [results, Tryz.results23, go_sem]) rfl ⟨rfl, HX1.out.alloc _⟩
set_option maxRecDepth 100000 in
set_option maxHeartbeats 8000000 in
theorem Shares_bad (V : Voy) (s : VS) (w : World) (h : VoyAt w V s) (hE : voyE V ≠ 0) : Cal 25 #[.agg (voyA V s)] w fun e w' => e = .returned (.tuple #[.slice none 0 0, .int .i64 (voyE V)]) ∧ Ext w w' := by
  have HN := hid (fun (u : World) (hu : Ext w u) => newVoyage_bad (h.mono hu) hE)
  obtain ⟨E, hEE⟩ : ∃ E, voyE V = E := ⟨_, rfl⟩
  rw [hEE] at HN hE ⊢
  have hb : (E == 0) = false := by simpa using hE
  clear h hEE
  unfold voyA zeroVoy at *
  obtain ⟨gr, bo, ne, cr, cs, ol, ll, hl, xs⟩ := V
  obtain ⟨ca, oa, la, ha, xa, cc, oc, lc, hc, xc⟩ := s
  simp only at *
  have hx0 : Ext w (w.alloc (.cells #[.int .i64 gr, .slice ca cs.length cc, .int .i64 bo, .int .i64 ne, .int .i64 cr, .slice oa ol.length oc, .slice la ll.length lc, .slice ha hl.length hc, .slice xa xs.length xc] 32)) := (Ext.refl _).alloc _
  have HNN := hid (HN.out _ hx0)
  clear HN
  gi_enter Tryz.func25, Tryz.ntmps25
  gi_wp2_with (gi_at_call 54; ((with_reducible refine (HNN.out).mono ?_); rintro e w1 ⟨rfl, hx1⟩; have HX1 := hid (hx0.trans hx1); clear hx1 hx0))
  exact bodyPost_ret (v := .tuple #[.slice none 0 0, .int .i64 E]) (by simp [results, Tryz.results25, go_sem]) rfl ⟨rfl, HX1.out.alloc _⟩
set_option maxRecDepth 100000 in
set_option maxHeartbeats 8000000 in
theorem Claims_bad (V : Voy) (s : VS) (w : World) (h : VoyAt w V s) (hE : voyE V ≠ 0) : Cal 19 #[.agg (voyA V s)] w fun e w' => e = .returned (.tuple #[.slice none 0 0, .int .i64 (voyE V)]) ∧ Ext w w' := by
  have HN := hid (fun (u : World) (hu : Ext w u) => newVoyage_bad (h.mono hu) hE)
  obtain ⟨E, hEE⟩ : ∃ E, voyE V = E := ⟨_, rfl⟩
  rw [hEE] at HN hE ⊢
  have hb : (E == 0) = false := by simpa using hE
  clear h hEE
  unfold voyA zeroVoy at *
  obtain ⟨gr, bo, ne, cr, cs, ol, ll, hl, xs⟩ := V
  obtain ⟨ca, oa, la, ha, xa, cc, oc, lc, hc, xc⟩ := s
  simp only at *
  have hx0 : Ext w (w.alloc (.cells #[.int .i64 gr, .slice ca cs.length cc, .int .i64 bo, .int .i64 ne, .int .i64 cr, .slice oa ol.length oc, .slice la ll.length lc, .slice ha hl.length hc, .slice xa xs.length xc] 32)) := (Ext.refl _).alloc _
  have HNN := hid (HN.out _ hx0)
  clear HN
  gi_enter Tryz.func19, Tryz.ntmps19
  gi_wp2_with (gi_at_call 54; ((with_reducible refine (HNN.out).mono ?_); rintro e w1 ⟨rfl, hx1⟩; have HX1 := hid (hx0.trans hx1); clear hx1 hx0))
  exact bodyPost_ret (v := .tuple #[.slice none 0 0, .int .i64 E]) (by simp [results, Tryz.results19, go_sem]) rfl ⟨rfl, HX1.out.alloc _⟩
set_option maxRecDepth 100000 in
set_option maxHeartbeats 8000000 in
theorem Check_ok (V : Voy) (s : VS) (w : World) (h : VoyAt w V s) (hE : voyE V = 0) : Cal 21 #[.agg (voyA V s)] w fun e w' => e = .returned (.int .i64 0) ∧ Ext w w' := by
  have HN := hid (fun (u : World) (hu : Ext w u) => newVoyage_ok (h.mono hu) hE)

  clear h hE
  unfold voyA voyB at *
  obtain ⟨gr, bo, ne, cr, cs, ol, ll, hl, xs⟩ := V
  obtain ⟨ca, oa, la, ha, xa, cc, oc, lc, hc, xc⟩ := s
  simp only at *
  have hx0 : Ext w (w.alloc (.cells #[.int .i64 gr, .slice ca cs.length cc, .int .i64 bo, .int .i64 ne, .int .i64 cr, .slice oa ol.length oc, .slice la ll.length lc, .slice ha hl.length hc, .slice xa xs.length xc] 32)) := (Ext.refl _).alloc _
  have HNN := hid (HN.out _ hx0)
  clear HN
  gi_enter Tryz.func21, Tryz.ntmps21
  gi_wp2_with (gi_at_call 54; ((with_reducible refine (HNN.out).mono ?_); rintro e w1 ⟨bm, rfl, hx1, hbm, HM⟩; have HX1 := hid (hx0.trans hx1); clear hx1 hx0 hbm))
  exact bodyPost_ret (v := .int .i64 0) (by simp [results, Tryz.results21, go_sem]) rfl ⟨rfl, HX1.out.alloc _⟩
set_option maxRecDepth 100000 in
set_option maxHeartbeats 8000000 in
theorem Shares_ok (V : Voy) (s : VS) (w : World) (h : VoyAt w V s) (hE : voyE V = 0) : Cal 25 #[.agg (voyA V s)] w fun e w' => ∃ r ns, e = .returned (.tuple #[r, .int .i64 0]) ∧ Ext w w' ∧ DueNames V ns ∧ ns.length ≤ 30 ∧ Hid (Row w' 53 4 r ns.length (dueF V ns)) := by
  have HN := hid (fun (u : World) (hu : Ext w u) => newVoyage_ok (h.mono hu) hE)
  have HDU := hid (fun (bv : Nat) (u : World) (hu : Ext w u) (hm : GMapAt .string u bv (entM V.le (lentV V) V.le.length)) => dues_any V s bv u (h.mono hu) (voyE_ok hE).1 (voyE_ok hE).2 hm)
  have HDU : Hid (∀ (bv : Nat) (u : World) (hu : Ext w u) (hm : GMapAt .string u bv (entM V.le (lentTo V.le V.lo V.lo.length) V.le.length)), Cal 60 #[.agg (voyB V s (.map (some bv)))] u fun e w' => ∃ r ns, e = .returned r ∧ Ext u w' ∧ DueNames V ns ∧ ns.length ≤ 30 ∧ Hid (Row w' 53 4 r ns.length (dueF V ns))) := HDU
  clear h hE
  unfold voyA voyB at *
  obtain ⟨gr, bo, ne, cr, cs, ol, ll, hl, xs⟩ := V
  obtain ⟨ca, oa, la, ha, xa, cc, oc, lc, hc, xc⟩ := s
  simp only at *
  have hx0 : Ext w (w.alloc (.cells #[.int .i64 gr, .slice ca cs.length cc, .int .i64 bo, .int .i64 ne, .int .i64 cr, .slice oa ol.length oc, .slice la ll.length lc, .slice ha hl.length hc, .slice xa xs.length xc] 32)) := (Ext.refl _).alloc _
  have HNN := hid (HN.out _ hx0)
  clear HN
  gi_enter Tryz.func25, Tryz.ntmps25
  gi_wp2_with (first | (gi_at_call 54; ((with_reducible refine (HNN.out).mono ?_); rintro e w1 ⟨bm, rfl, hx1, hbm, HM⟩; have HX1 := hid (hx0.trans hx1); clear hx1 hx0 hbm)) | (gi_at_call 60; ((with_reducible refine ((HDU.out bm _ (HX1.out.alloc _) (HM.out.mono ((Ext.refl _).alloc _)))).mono ?_); rintro e w3 ⟨r, ns, rfl, hx3, HDN, hnl, HRW⟩; have HX3 := hid ((HX1.out.alloc _).trans hx3); clear hx3)))
  exact bodyPost_ret (v := .tuple #[r, .int .i64 0]) (by simp [results, Tryz.results25, go_sem]) rfl ⟨r, ns, rfl, HX3.out, HDN, hnl, HRW⟩
end
section
namespace Sv
abbrev St := Nat → Bool
def dif (S T : St) : St := fun i => S i && !T i
def Sub (T S : St) : Prop := ∀ i, T i = true → S i = true
/-- What the balances of a set are together. -/
def tal (n : Nat) (b : Nat → Int) (S : St) : Int := ((List.range n).map fun i => if S i then b i else 0).sum
def some' (n : Nat) (S : St) : Prop := ∃ i, i < n ∧ S i = true
def inN (n : Nat) (S : St) : Prop := ∀ i, S i = true → i < n
/-- So many groups within a set. -/
inductive Pack (n : Nat) (b : Nat → Int) : St → Nat → Prop
  | none (S : St) : Pack n b S 0
  | add {S T : St} {k : Nat} : Sub T S → some' n T → tal n b T = 0 → Pack n b (dif S T) k → Pack n b S (k + 1)
/-- So many groups that are a set. -/
inductive Part (n : Nat) (b : Nat → Int) : St → Nat → Prop
  | none {S : St} : ¬ some' n S → Part n b S 0
  | add {S T : St} {k : Nat} : Sub T S → some' n T → tal n b T = 0 → Part n b (dif S T) k → Part n b S (k + 1)
theorem sum_add (l : List Nat) (f g : Nat → Int) : (l.map fun i => f i + g i).sum = (l.map f).sum + (l.map g).sum := by
  induction l with
  | nil => rfl
  | cons a l ih => simp only [List.map_cons, List.sum_cons, ih]; omega
theorem sum_congr {l : List Nat} {f g : Nat → Int} (h : ∀ i ∈ l, f i = g i) : (l.map f).sum = (l.map g).sum := by
  rw [List.map_congr_left h]
theorem tal_split (n : Nat) (b : Nat → Int) {S T : St} (h : Sub T S) : tal n b S = tal n b T + tal n b (dif S T) := by
  unfold tal
  rw [← sum_add]
  refine sum_congr fun i _ => ?_
  unfold dif
  cases hT : T i with
  | true => simp [h i hT]
  | false => simp
theorem tal_none {n : Nat} (b : Nat → Int) {S : St} (h : ¬ some' n S) : tal n b S = 0 := by
  unfold tal
  rw [sum_congr (g := fun _ => 0) fun i hi => ?_]
  · generalize List.range n = l
    induction l with
    | nil => rfl
    | cons a l ih => simp only [List.map_cons, List.sum_cons, ih]; rfl
  · rw [List.mem_range] at hi
    cases hS : S i with
    | false => simp
    | true => exact absurd ⟨i, hi, hS⟩ h
theorem Sub.refl (S : St) : Sub S S := fun _ h => h
theorem Sub.trans {S T U : St} (h : Sub S T) (g : Sub T U) : Sub S U := fun i hi => g i (h i hi)
theorem sub_dif (S T : St) : Sub (dif S T) S := fun i h => by simp only [dif, Bool.and_eq_true] at h; exact h.1
theorem Pack.mono {n : Nat} {b : Nat → Int} {S : St} {k : Nat} (h : Pack n b S k) : ∀ {U : St}, Sub S U → Pack n b U k := by
  induction h with
  | none S => intro U _; exact .none U
  | add h1 h2 h3 h4 ih =>
    intro U hU
    refine .add (h1.trans hU) h2 h3 (ih fun i hi => ?_)
    simp only [dif, Bool.and_eq_true] at hi ⊢
    exact ⟨hU i hi.1, hi.2⟩
theorem Part.pack {n : Nat} {b : Nat → Int} {S : St} {k : Nat} (h : Part n b S k) : Pack n b S k := by
  induction h with
  | none _ => exact .none _
  | add h1 h2 h3 _ ih => exact .add h1 h2 h3 ih
theorem Part.tal {n : Nat} {b : Nat → Int} {S : St} {k : Nat} (h : Part n b S k) : tal n b S = 0 := by
  induction h with
  | none h => exact tal_none b h
  | add h1 h2 h3 _ ih => rw [tal_split n b h1, h3, ih]; rfl
theorem Pack.part {n : Nat} {b : Nat → Int} {S : St} {k : Nat} (h : Pack n b S k) : tal n b S = 0 → ∃ j, k ≤ j ∧ Part n b S j := by
  induction h with
  | none S =>
    intro h0
    by_cases hs : some' n S
    · refine ⟨1, by omega, .add (Sub.refl S) hs h0 (.none fun ⟨i, _, hi⟩ => ?_)⟩
      simp [dif] at hi
    · exact ⟨0, by omega, .none hs⟩
  | add h1 h2 h3 _ ih =>
    intro h0
    have := tal_split n b h1
    obtain ⟨j, hj, hp⟩ := ih (by omega)
    exact ⟨j + 1, by omega, .add h1 h2 h3 hp⟩
theorem dif_dif (S T U : St) : dif (dif S T) U = dif (dif S U) T := by
  funext i; simp only [dif]; cases S i <;> cases T i <;> cases U i <;> rfl
/-- The group of one of them first. -/
theorem Part.first {n : Nat} {b : Nat → Int} {S : St} {k : Nat} (h : Part n b S k) : ∀ {i : Nat}, i < n → S i = true → ∃ T j, k = j + 1 ∧ Sub T S ∧ T i = true ∧ Sv.tal n b T = 0 ∧ Part n b (dif S T) j := by
  induction h with
  | none h => intro i hi hS; exact absurd ⟨i, hi, hS⟩ h
  | @add S T k h1 h2 h3 h4 ih =>
    intro i hi hS
    cases hT : T i with
    | true => exact ⟨T, k, rfl, h1, hT, h3, h4⟩
    | false =>
      obtain ⟨T', j, e, g1, g2, g3, g4⟩ := ih hi (by simp [dif, hS, hT])
      refine ⟨T', j + 1, by omega, g1.trans (sub_dif S T), g2, g3, .add (T := T) (fun x hx => ?_) h2 h3 (by rw [dif_dif]; exact g4)⟩
      simp only [dif, Bool.and_eq_true, Bool.not_eq_true']
      refine ⟨h1 x hx, ?_⟩
      cases hx' : T' x with
      | false => rfl
      | true =>
        have := g1 x hx'
        simp [dif, hx] at this
def one (i : Nat) : St := fun j => decide (j = i)
/-- The most groups within a set. -/
def Best (n : Nat) (b : Nat → Int) (S : St) (k : Nat) : Prop := Pack n b S k ∧ ∀ j, Pack n b S j → j ≤ k
theorem Best.eq {n : Nat} {b : Nat → Int} {S : St} {k j : Nat} (h : Best n b S k) (g : Best n b S j) : k = j :=
  Nat.le_antisymm (g.2 k h.1) (h.2 j g.1)
theorem best_zero {n : Nat} (b : Nat → Int) {S : St} (h : ¬ some' n S) : Best n b S 0 := by
  refine ⟨.none S, fun j hj => ?_⟩
  cases hj with
  | none => exact Nat.le_refl _
  | add h1 h2 _ _ => obtain ⟨i, hi, hT⟩ := h2; exact absurd ⟨i, hi, h1 i hT⟩ h
theorem Pack.more {n : Nat} {b : Nat → Int} {U : St} {k : Nat} (h : Pack n b U k) : ∀ {S : St} {i : Nat}, Sub U S → i < n → S i = true → U i = false → tal n b S = 0 → Pack n b S (k + 1) := by
  induction h with
  | none U => intro S i hU hi hS hn h0; exact .add (Sub.refl S) ⟨i, hi, hS⟩ h0 (.none _)
  | @add U T k h1 h2 h3 h4 ih =>
    intro S i hU hi hS hn h0
    have hT : T i = false := by
      cases hT : T i with
      | false => rfl
      | true => rw [h1 i hT] at hn; cases hn
    refine .add (h1.trans hU) h2 h3 (ih (S := dif S T) (i := i) (fun x hx => ?_) hi (by simp [dif, hS, hT]) (by simp [dif, hn]) ?_)
    · simp only [dif, Bool.and_eq_true] at hx ⊢
      exact ⟨hU x hx.1, hx.2⟩
    · have := tal_split n b (h1.trans hU); omega
theorem Pack.out {n : Nat} {b : Nat → Int} {S : St} {k : Nat} (h : Pack n b S k) : tal n b S ≠ 0 → ∃ i, i < n ∧ S i = true ∧ Pack n b (dif S (one i)) k := by
  induction h with
  | none S =>
    intro h0
    by_cases hs : some' n S
    · obtain ⟨i, hi, hS⟩ := hs; exact ⟨i, hi, hS, .none _⟩
    · exact absurd (tal_none b hs) h0
  | @add S T k h1 h2 h3 h4 ih =>
    intro h0
    have := tal_split n b h1
    obtain ⟨i, hi, hS, hp⟩ := ih (by omega)
    have hT : T i = false := by
      cases hT : T i with
      | false => rfl
      | true => simp [dif, hT] at hS
    refine ⟨i, hi, sub_dif S T i hS, .add (T := T) (fun x hx => ?_) h2 h3 (by rw [dif_dif]; exact hp)⟩
    simp only [dif, one, Bool.and_eq_true, Bool.not_eq_true', decide_eq_false_iff_not]
    refine ⟨h1 x hx, fun e => ?_⟩
    rw [e, hT] at hx; cases hx
theorem Pack.less {n : Nat} {b : Nat → Int} {S : St} {k : Nat} (h : Pack n b S k) : ∀ (i j : Nat), k = j + 1 → Pack n b (dif S (one i)) j := by
  induction h with
  | none S => intro i j hj; omega
  | @add S T k h1 h2 h3 h4 ih =>
    intro i j hj
    have hj : j = k := by omega
    subst hj
    cases hT : T i with
    | true =>
      refine h4.mono fun x hx => ?_
      simp only [dif, one, Bool.and_eq_true, Bool.not_eq_true', decide_eq_false_iff_not] at hx ⊢
      refine ⟨hx.1, fun e => ?_⟩
      rw [e, hT] at hx; cases hx.2
    | false =>
      cases hk : j with
      | zero => exact .none _
      | succ k' =>
        refine .add (T := T) (fun x hx => ?_) h2 h3 (by rw [dif_dif]; exact ih i k' hk)
        simp only [dif, one, Bool.and_eq_true, Bool.not_eq_true', decide_eq_false_iff_not]
        refine ⟨h1 x hx, fun e => ?_⟩
        rw [e, hT] at hx; cases hx
/-- Set by set, as with one balance less. -/
theorem best_ref {n : Nat} {b : Nat → Int} {S : St} {M : Nat → Nat} {v i : Nat} (hM : ∀ i, i < n → S i = true → Best n b (dif S (one i)) (M i)) (hv : ∀ i, i < n → S i = true → M i ≤ v) (hi : i < n) (hS : S i = true) (he : M i = v) : Best n b S (v + if tal n b S = 0 then 1 else 0) := by
  have h1 := hM i hi hS
  rw [he] at h1
  constructor
  · split
    · exact h1.1.more (sub_dif _ _) hi hS (by simp [dif, one]) ‹_›
    · exact h1.1.mono (sub_dif _ _)
  · intro j hj
    split
    · cases j with
      | zero => omega
      | succ j => have := h1.2 j (hj.less i j rfl); omega
    · obtain ⟨x, hx, hSx, hp⟩ := hj.out ‹_›
      have g1 := (hM x hx hSx).2 j hp
      have g2 := hv x hx hSx
      omega
/-- The next group is that of one of them. -/
theorem best_prog {n : Nat} {b : Nat → Int} {S : St} {G : St → Nat} {v i : Nat} {T : St} (h0 : tal n b S = 0) (hi : i < n) (hS : S i = true) (hG : ∀ T, Sub T S → T i = true → tal n b T = 0 → Best n b (dif S T) (G T)) (hv : ∀ T, Sub T S → T i = true → tal n b T = 0 → G T ≤ v) (h1 : Sub T S) (h2 : T i = true) (h3 : tal n b T = 0) (he : G T = v) : Best n b S (v + 1) := by
  constructor
  · have := (hG T h1 h2 h3).1
    rw [he] at this
    exact .add h1 ⟨i, hi, h2⟩ h3 this
  · intro j hj
    obtain ⟨k, hk, hp⟩ := hj.part h0
    obtain ⟨T', m, e, g1, g2, g3, g4⟩ := hp.first hi hS
    have a1 := (hG T' g1 g2 g3).2 m g4.pack
    have a2 := hv T' g1 g2 g3
    omega
/-- A group of so many has no group within it. -/
theorem best_least {n : Nat} {b : Nat → Int} {S T A : St} {k : Nat} (h : Best n b S (k + 1)) (h1 : Sub T S) (h2 : tal n b T = 0) (h3 : Pack n b (dif S T) k) (h4 : Sub A T) (h5 : tal n b A = 0) (h6 : some' n A) : ¬ some' n (dif T A) := by
  intro h7
  have := tal_split n b h4
  have h8 : Pack n b S (k + 1 + 1) := by
    refine .add (h4.trans h1) h6 h5 (.add (T := dif T A) (fun x hx => ?_) h7 (by omega) (h3.mono fun x hx => ?_))
    · simp only [dif, Bool.and_eq_true] at hx ⊢; exact ⟨h1 x hx.1, hx.2⟩
    · simp only [dif, Bool.and_eq_true, Bool.not_eq_true', Bool.and_eq_false_iff] at hx ⊢
      refine ⟨⟨hx.1, ?_⟩, .inl hx.2⟩
      cases hA : A x with
      | false => rfl
      | true => rw [h4 x hA] at hx; cases hx.2
  have := h.2 _ h8
  omega

/-- A payment: from, to, and how much. -/
structure Pm where
  a : Nat
  z : Nat
  s : Int
def pay (d : Nat → Int) (p : Pm) : Nat → Int := fun i => d i + (if i = p.a then p.s else 0) - (if i = p.z then p.s else 0)
theorem sum_one (b : Nat → Int) (S : St) (a : Nat) (s : Int) : ∀ l : List Nat, l.Nodup → (l.map fun i => if S i then (if i = a then s else 0) else 0).sum = if a ∈ l then (if S a then s else 0) else 0
  | [], _ => by simp
  | x :: l, hn => by
    rw [List.nodup_cons] at hn
    rw [List.map_cons, List.sum_cons, sum_one b S a s l hn.2]
    by_cases hx : x = a
    · subst hx
      simp only [hn.1, if_false, List.mem_cons, true_or, if_true]; omega
    · have : (a ∈ x :: l) ↔ a ∈ l := by rw [List.mem_cons]; exact ⟨fun h => h.elim (fun e => absurd e.symm hx) id, .inr⟩
      simp only [this, hx, if_false]
      split <;> simp
theorem tal_pay {n : Nat} (d : Nat → Int) (p : Pm) (S : St) (ha : p.a < n) (hz : p.z < n) : tal n (pay d p) S = tal n d S + (if S p.a then p.s else 0) - (if S p.z then p.s else 0) := by
  have h1 := sum_one d S p.a p.s (List.range n) List.nodup_range
  have h2 := sum_one d S p.z p.s (List.range n) List.nodup_range
  have h3 : ((List.range n).map fun i => if S i then pay d p i else 0) = (List.range n).map fun i => ((if S i then d i else 0) + (if S i then (if i = p.a then p.s else 0) else 0)) + (if S i then (if i = p.z then -p.s else 0) else 0) := by
    refine List.map_congr_left fun i _ => ?_
    unfold pay
    cases S i <;> simp only [Bool.false_eq_true, if_false, if_true] <;> (repeat' split) <;> omega
  have h4 := sum_one d S p.z (-p.s) (List.range n) List.nodup_range
  unfold tal
  rw [h3, sum_add, sum_add, h1, h4]
  simp only [List.mem_range, ha, hz, if_true]
  split <;> split <;> omega
/-- Those with one label. -/
def cls (ρ : Nat → Nat) (r : Nat) : St := fun i => decide (ρ i = r)
def roots (n : Nat) (ρ : Nat → Nat) : Nat := (List.range n).countP fun i => decide (ρ i = i)
/-- Labels of those among whom all was paid. -/
structure Lab (n : Nat) (b d : Nat → Int) (ρ : Nat → Nat) : Prop where
  lt : ∀ i, i < n → ρ i < n
  idem : ∀ i, i < n → ρ (ρ i) = ρ i
  all : ∀ r, tal n d (cls ρ r) = tal n b (cls ρ r)
theorem roots_less {n : Nat} {ρ σ : Nat → Nat} {x : Nat} (h : ∀ i, i < n → i ≠ x → ρ i = i → σ i = i) : roots n ρ ≤ roots n σ + 1 := by
  unfold roots
  have h1 : ∀ l : List Nat, l.Nodup → (∀ i ∈ l, i < n) → (l.countP fun i => decide (ρ i = i)) ≤ (l.countP fun i => decide (σ i = i)) + (if x ∈ l then 1 else 0) := by
    intro l
    induction l with
    | nil => intro _ _; simp
    | cons a l ih =>
      intro hn hl
      rw [List.nodup_cons] at hn
      have i1 := ih hn.2 fun i hi => hl i (.tail _ hi)
      have i2 := h a (hl a (.head _))
      rw [List.countP_cons, List.countP_cons]
      simp only [List.mem_cons, decide_eq_true_eq]
      by_cases hx : a = x
      · subst hx
        rw [if_neg hn.1] at i1
        simp only [true_or, if_true]
        split <;> split <;> omega
      · have : (x = a ∨ x ∈ l) ↔ x ∈ l := ⟨fun h => h.elim (fun e => absurd e.symm hx) id, .inr⟩
        simp only [this]
        by_cases hr : ρ a = a
        · rw [if_pos hr, if_pos (i2 hx hr)]; omega
        · rw [if_neg hr]; split <;> omega
  have h2 := h1 (List.range n) List.nodup_range fun i hi => List.mem_range.mp hi
  split at h2 <;> omega
theorem Lab.step {n : Nat} {b d : Nat → Int} {ρ : Nat → Nat} (h : Lab n b d ρ) (p : Pm) (ha : p.a < n) (hz : p.z < n) : ∃ σ, Lab n b (pay d p) σ ∧ roots n ρ ≤ roots n σ + 1 := by
  by_cases he : ρ p.a = ρ p.z
  · refine ⟨ρ, ⟨h.lt, h.idem, fun r => ?_⟩, by omega⟩
    rw [tal_pay d p _ ha hz, h.all r]
    simp only [cls, he]; exact Int.add_sub_cancel _ _
  · refine ⟨fun i => if ρ i = ρ p.a then ρ p.z else ρ i, ⟨fun i hi => ?_, fun i hi => ?_, fun r => ?_⟩, roots_less (x := ρ p.a) fun i hi hx hr => ?_⟩
    · show (if _ then _ else _) < n
      split
      · exact h.lt _ hz
      · exact h.lt _ hi
    · show (if ρ (if _ then _ else _) = ρ p.a then _ else ρ (if _ then _ else _)) = if _ then _ else _
      by_cases hc : ρ i = ρ p.a
      · simp only [hc, if_true, h.idem _ hz, fun e : ρ p.z = ρ p.a => he e.symm, if_false]
        simp only [if_neg (fun e : ρ p.z = ρ p.a => he e.symm)]
      · simp only [hc, if_false, h.idem _ hi]
    · -- the classes of the new labels
      have hcls : ∀ e : Nat → Int, tal n e (cls (fun i => if ρ i = ρ p.a then ρ p.z else ρ i) r) = if r = ρ p.z then tal n e (cls ρ (ρ p.a)) + tal n e (cls ρ (ρ p.z)) else if r = ρ p.a then 0 else tal n e (cls ρ r) := by
        intro e
        by_cases h1 : r = ρ p.z
        · subst h1
          rw [if_pos rfl, tal_split n e (S := cls (fun i => if ρ i = ρ p.a then ρ p.z else ρ i) (ρ p.z)) (T := cls ρ (ρ p.a))]
          · congr 2
            funext i
            simp only [dif, cls]
            by_cases hc : ρ i = ρ p.a
            · simp [hc, he]
            · simp [hc]
          · intro i hi
            simp only [cls, decide_eq_true_eq] at hi ⊢
            rw [if_pos hi]
        · rw [if_neg h1]
          by_cases h2 : r = ρ p.a
          · subst h2
            rw [if_pos rfl]
            refine tal_none e fun ⟨i, _, hi⟩ => ?_
            simp only [cls, decide_eq_true_eq] at hi
            split at hi
            · exact he hi.symm
            · exact absurd hi ‹_›
          · rw [if_neg h2]
            congr 1
            funext i
            simp only [cls]
            by_cases hc : ρ i = ρ p.a
            · simp [hc, Ne.symm h1, Ne.symm h2]
            · simp [hc]
      rw [hcls, hcls]
      have g1 := tal_pay d p (cls ρ (ρ p.a)) ha hz
      have g2 := tal_pay d p (cls ρ (ρ p.z)) ha hz
      have g3 := h.all (ρ p.a)
      have g4 := h.all (ρ p.z)
      have g5 := h.all r
      have g6 := tal_pay d p (cls ρ r) ha hz
      simp only [cls, decide_true, if_true, he, Ne.symm he, decide_false, Bool.false_eq_true, if_false] at g1 g2
      by_cases h1 : r = ρ p.z
      · rw [if_pos h1, if_pos h1]
        rw [show (cls ρ (ρ p.a)) = (fun i => decide (ρ i = ρ p.a)) from rfl, show (cls ρ (ρ p.z)) = (fun i => decide (ρ i = ρ p.z)) from rfl] at *
        omega
      · rw [if_neg h1, if_neg h1]
        by_cases h2 : r = ρ p.a
        · rw [if_pos h2, if_pos h2]
        · rw [if_neg h2, if_neg h2]
          have e1 : (cls ρ r p.a) = false := by simp [cls, Ne.symm h2]
          have e2 : (cls ρ r p.z) = false := by simp [cls, Ne.symm h1]
          rw [e1, e2] at g6
          rw [g6, g5]; simp
    · show (if _ then _ else _) = i
      rw [hr, if_neg hx]
theorem lab_all {n : Nat} {b : Nat → Int} : ∀ (l : List Pm) (d : Nat → Int) (ρ : Nat → Nat), Lab n b d ρ → (∀ p ∈ l, p.a < n ∧ p.z < n) → ∃ σ, Lab n b (l.foldl pay d) σ ∧ roots n ρ ≤ roots n σ + l.length
  | [], d, ρ, h, _ => ⟨ρ, h, by simp⟩
  | p :: l, d, ρ, h, hl => by
    obtain ⟨σ, h1, h2⟩ := h.step p (hl p (.head _)).1 (hl p (.head _)).2
    obtain ⟨τ, h3, h4⟩ := lab_all l _ σ h1 fun q hq => hl q (.tail _ hq)
    exact ⟨τ, h3, by rw [List.length_cons]; omega⟩
/-- The balances that are not 0. -/
def nz (n : Nat) (b : Nat → Int) : St := fun i => decide (i < n) && decide (b i ≠ 0)
theorem pack_roots {n : Nat} {b d : Nat → Int} {ρ : Nat → Nat} (h : Lab n b d ρ) (hd : ∀ i, i < n → d i = 0) : ∀ (L : List Nat) (S : St), L.Nodup → (∀ r ∈ L, r < n ∧ ρ r = r ∧ b r ≠ 0) → (∀ r ∈ L, Sub (fun i => nz n b i && cls ρ r i) S) → Pack n b S L.length
  | [], S, _, _, _ => .none S
  | r :: L, S, hn, hl, hs => by
    rw [List.nodup_cons] at hn
    obtain ⟨h1, h2, h3⟩ := hl r (.head _)
    refine .add (hs r (.head _)) ⟨r, h1, by simp [nz, cls, h1, h2, h3]⟩ ?_ (pack_roots h hd L _ hn.2 (fun r hr => hl r (.tail _ hr)) fun r' hr' i hi => ?_)
    · have e1 : tal n b (fun i => nz n b i && cls ρ r i) = tal n b (cls ρ r) := by
        unfold tal
        refine sum_congr fun i hi => ?_
        rw [List.mem_range] at hi
        by_cases hb : b i = 0
        · simp [nz, hi, hb]
        · simp [nz, hi, hb]
      rw [e1, ← h.all r]
      unfold tal
      rw [sum_congr (g := fun _ => 0) fun i hi => by rw [hd i (List.mem_range.mp hi)]; simp]
      generalize List.range n = l
      induction l with
      | nil => rfl
      | cons a l ih => simp only [List.map_cons, List.sum_cons, ih]; rfl
    · have e2 := hs r' (.tail _ hr') i hi
      simp only [dif, cls, Bool.and_eq_true, Bool.not_eq_true', Bool.and_eq_false_iff, decide_eq_true_eq, decide_eq_false_iff_not] at hi ⊢
      refine ⟨e2, .inr fun e => ?_⟩
      rw [e] at hi
      exact hn.1 (hi.2 ▸ hr')
/-- No clearing has fewer payments than the balances that are not 0 less the most groups. -/
theorem clear_least {n : Nat} {b : Nat → Int} {l : List Pm} {k : Nat} (hl : ∀ p ∈ l, p.a < n ∧ p.z < n) (hd : ∀ i, i < n → l.foldl pay b i = 0) (hk : Best n b (nz n b) k) : (List.range n).countP (fun i => decide (b i ≠ 0)) ≤ l.length + k := by
  obtain ⟨σ, h1, h2⟩ := lab_all (n := n) (b := b) l b id ⟨fun i hi => hi, fun i _ => rfl, fun r => rfl⟩ hl
  have h3 : roots n id = n := by
    unfold roots
    rw [List.countP_eq_length.mpr (fun i _ => by simp)]; simp
  have h4 := pack_roots h1 hd ((List.range n).filter fun i => decide (σ i = i) && decide (b i ≠ 0)) (nz n b) (List.nodup_range.filter _) (fun r hr => by
    simp only [List.mem_filter, List.mem_range, Bool.and_eq_true, decide_eq_true_eq] at hr
    exact ⟨hr.1, hr.2.1, hr.2.2⟩) (fun r _ i hi => by simp only [Bool.and_eq_true] at hi; exact hi.1)
  have h5 := hk.2 _ h4
  rw [← List.countP_eq_length_filter] at h5
  have h6 : roots n σ + (List.range n).countP (fun i => decide (b i ≠ 0)) ≤ n + (List.range n).countP (fun i => decide (σ i = i) && decide (b i ≠ 0)) := by
    unfold roots
    have : ∀ l : List Nat, l.countP (fun i => decide (σ i = i)) + l.countP (fun i => decide (b i ≠ 0)) ≤ l.length + l.countP (fun i => decide (σ i = i) && decide (b i ≠ 0)) := by
      intro l
      induction l with
      | nil => simp
      | cons a l ih =>
        simp only [List.countP_cons, List.length_cons]
        generalize decide (σ a = a) = u
        generalize decide (b a ≠ 0) = v
        cases u <;> cases v <;> simp only [Bool.and_true, Bool.and_false, Bool.false_and, Bool.true_and, Bool.false_eq_true, if_true, if_false] <;> omega
    have := this (List.range n)
    rw [List.length_range] at this
    exact this
  omega
end Sv
end
section
open Go Go.RowKit Go.Shelf Go.MapKept

def bitN (s : Nat) : Sv.St := fun i => s.testBit i
theorem ofInt_nat (a : Nat) : BitVec.ofInt 64 (a : Int) = BitVec.ofNat 64 a := by
  apply BitVec.eq_of_toNat_eq; simp
theorem bits_and {a b : Nat} (ha : a < 9223372036854775808) (hb : b < 9223372036854775808) : bits .and .i64 (a : Int) (b : Int) = ((a &&& b : Nat) : Int) := by
  have h1 : a &&& b ≤ a := Nat.and_le_left
  show IntKind.i64.wrap ((BitVec.ofInt 64 (a : Int) &&& BitVec.ofInt 64 (b : Int)).toNat : Int) = _
  rw [ofInt_nat, ofInt_nat, BitVec.toNat_and, BitVec.toNat_ofNat, BitVec.toNat_ofNat, Nat.mod_eq_of_lt (by omega), Nat.mod_eq_of_lt (by omega), IntKind.wrap_i64]
  omega
theorem bits_or {a b : Nat} (ha : a < 1024) (hb : b < 1024) : bits .or .i64 (a : Int) (b : Int) = ((a ||| b : Nat) : Int) := by
  have h1 : a ||| b < 2 ^ 10 := Nat.or_lt_two_pow (by omega) (by omega)
  show IntKind.i64.wrap ((BitVec.ofInt 64 (a : Int) ||| BitVec.ofInt 64 (b : Int)).toNat : Int) = _
  rw [ofInt_nat, ofInt_nat, BitVec.toNat_or, BitVec.toNat_ofNat, BitVec.toNat_ofNat, Nat.mod_eq_of_lt (by omega), Nat.mod_eq_of_lt (by omega), IntKind.wrap_i64]
  omega
/-- Those of one set that are not in another one. -/
def anN (a t : Nat) : Nat := a &&& (18446744073709551615 - t)
theorem anN_le (a t : Nat) : anN a t ≤ a := Nat.and_le_left
theorem bits_andNot {a t : Nat} (ha : a < 1024) (ht : t < 1024) : bits .andNot .i64 (a : Int) (t : Int) = ((anN a t : Nat) : Int) := by
  have h1 := anN_le a t
  unfold anN at *
  show IntKind.i64.wrap ((BitVec.ofInt 64 (a : Int) &&& ~~~(BitVec.ofInt 64 (t : Int))).toNat : Int) = _
  rw [ofInt_nat, ofInt_nat, BitVec.toNat_and, BitVec.toNat_not, BitVec.toNat_ofNat, BitVec.toNat_ofNat, Nat.mod_eq_of_lt (show a < 2 ^ 64 by omega), Nat.mod_eq_of_lt (show t < 2 ^ 64 by omega), IntKind.wrap_i64]
  have e : (2 : Nat) ^ 64 - 1 - t = 18446744073709551615 - t := by omega
  rw [e]
  omega
theorem bitN_anN {a t : Nat} (ha : a < 1024) (ht : t < 1024) : bitN (anN a t) = Sv.dif (bitN a) (bitN t) := by
  funext i
  unfold bitN anN Sv.dif
  rw [Nat.testBit_and, show (18446744073709551615 : Nat) - t = 2 ^ 64 - (t + 1) by omega, Nat.testBit_two_pow_sub_succ (by omega)]
  show (a.testBit i && (decide (i < 64) && !t.testBit i)) = (a.testBit i && !t.testBit i)
  cases hi : a.testBit i with
  | false => rfl
  | true =>
    have : i < 10 := by
      rcases Nat.lt_or_ge i 10 with h | h
      · exact h
      · rw [Nat.testBit_lt_two_pow (Nat.lt_of_lt_of_le (show a < 2 ^ 10 by omega) (Nat.pow_le_pow_right (by omega) h))] at hi; cases hi
    have h64 : i < 64 := by omega
    simp [h64]
theorem has_bits {s k : Nat} (hs : s < 1024) : (bits .and .i64 ((s : Int) / 2 ^ k) 1 == 1) = s.testBit k := by
  have e : ((s : Int) / 2 ^ k) = ((s / 2 ^ k : Nat) : Int) := by push_cast; rfl
  have h1 : s / 2 ^ k ≤ s := Nat.div_le_self _ _
  rw [e, show (1 : Int) = ((1 : Nat) : Int) from rfl, bits_and (by omega) (by omega)]
  rw [Nat.testBit_eq_decide_div_mod_eq, Nat.and_one_is_mod]
  rw [Bool.eq_iff_iff]
  simp; omega
theorem low_all : ((List.range 1023).all fun n => (List.range 10).any fun i => bits .and .i64 ((n + 1 : Nat) : Int) (-((n + 1 : Nat) : Int)) == ((2 ^ i : Nat) : Int) && (n + 1).testBit i) = true := by kernel_rfl
theorem low_bit {a : Nat} (h0 : 0 < a) (h1 : a < 1024) : ∃ i, i < 10 ∧ bits .and .i64 (a : Int) (-(a : Int)) = ((2 ^ i : Nat) : Int) ∧ a.testBit i = true := by
  have h := List.all_eq_true.1 low_all (a - 1) (List.mem_range.2 (by omega))
  obtain ⟨i, hi, he⟩ := List.any_eq_true.1 h
  rw [show a - 1 + 1 = a by omega] at he
  simp only [Bool.and_eq_true, beq_iff_eq] at he
  exact ⟨i, List.mem_range.1 hi, he.1, he.2⟩
theorem low_hit {s i : Nat} (hs : s < 1024) (hi : i < 10) : (bits .and .i64 (s : Int) ((2 ^ i : Nat) : Int) == 0) = !s.testBit i := by
  have hp : (2 : Nat) ^ i < 1024 := Nat.lt_of_le_of_lt (Nat.pow_le_pow_right (by omega) (show i ≤ 9 by omega)) (by omega)
  rw [bits_and (by omega) (by omega)]
  cases hb : s.testBit i with
  | true =>
    have : s &&& 2 ^ i ≠ 0 := fun h => by
      have := congrArg (fun x => x.testBit i) h
      simp [Nat.testBit_and, hb] at this
    simp; omega
  | false =>
    have : s &&& 2 ^ i = 0 := by
      apply Nat.eq_of_testBit_eq
      intro j
      rw [Nat.testBit_and, Nat.testBit_two_pow]
      by_cases hij : i = j
      · subst hij; simp [hb]
      · simp [hij]
    simp [this]
theorem bitN_inj {s t : Nat} (h : bitN s = bitN t) : s = t := Nat.eq_of_testBit_eq fun i => congrFun h i
theorem bitN_high {s n i : Nat} (h : s < 2 ^ n) (hi : n ≤ i) : bitN s i = false := Nat.testBit_lt_two_pow (Nat.lt_of_lt_of_le h (Nat.pow_le_pow_right (by omega) hi))
/-- Each set is a number. -/
theorem num_of (T : Sv.St) : ∀ n, ∃ s, s < 2 ^ n ∧ ∀ i, i < n → bitN s i = T i
  | 0 => ⟨0, by simp, fun i h => absurd h (by omega)⟩
  | n + 1 => by
    obtain ⟨s, h1, h2⟩ := num_of T n
    cases hn : T n with
    | false => exact ⟨s, Nat.lt_of_lt_of_le h1 (Nat.pow_le_pow_right (by omega) (by omega)), fun i hi => by
        rcases Nat.lt_or_ge i n with h | h
        · exact h2 i h
        · obtain rfl : i = n := by omega
          rw [hn]; exact bitN_high h1 (Nat.le_refl _)⟩
    | true =>
      refine ⟨s ||| 2 ^ n, Nat.or_lt_two_pow (Nat.lt_of_lt_of_le h1 (Nat.pow_le_pow_right (by omega) (by omega))) (Nat.pow_lt_pow_right (by omega) (by omega)), fun i hi => ?_⟩
      unfold bitN
      rw [Nat.testBit_or, Nat.testBit_two_pow]
      rcases Nat.lt_or_ge i n with h | h
      · have := h2 i h
        unfold bitN at this
        rw [this]; simp; omega
      · obtain rfl : i = n := by omega
        simp [hn]
theorem sub_le {s a : Nat} (h : Sv.Sub (bitN s) (bitN a)) : s ≤ a := by
  have : s &&& a = s := Nat.eq_of_testBit_eq fun i => by
    rw [Nat.testBit_and]
    cases hs : s.testBit i with
    | false => rfl
    | true => have := h i hs; unfold bitN at this; rw [this]; rfl
  rw [← this]; exact Nat.and_le_right
theorem num_sub {T : Sv.St} {a n : Nat} (ha : a < 2 ^ n) (h : Sv.Sub T (bitN a)) : ∃ s, s ≤ a ∧ bitN s = T := by
  obtain ⟨s, h1, h2⟩ := num_of T n
  have e : bitN s = T := by
    funext i
    rcases Nat.lt_or_ge i n with hi | hi
    · exact h2 i hi
    · rw [bitN_high h1 hi]
      cases ht : T i with
      | false => rfl
      | true => have := h i ht; rw [bitN_high ha hi] at this; cases this
  exact ⟨s, sub_le (by rw [e]; exact h), e⟩
/-- The best of all groups of one of them. -/
theorem best_all {n : Nat} {b : Nat → Int} {a i t v : Nat} (ha : a < 2 ^ n) (h0 : Sv.tal n b (bitN a) = 0) (hi : i < n) (hai : bitN a i = true)
    (hall : ∀ s, s ≤ a → Sv.Sub (bitN s) (bitN a) → bitN s i = true → Sv.tal n b (bitN s) = 0 → ∃ g, Sv.Best n b (Sv.dif (bitN a) (bitN s)) g ∧ g ≤ v)
    (h1 : Sv.Sub (bitN t) (bitN a)) (h2 : bitN t i = true) (h3 : Sv.tal n b (bitN t) = 0) (h4 : Sv.Best n b (Sv.dif (bitN a) (bitN t)) v) : Sv.Best n b (bitN a) (v + 1) := by
  have key : ∀ T, Sv.Sub T (bitN a) → T i = true → Sv.tal n b T = 0 → ∃ g, Sv.Best n b (Sv.dif (bitN a) T) g ∧ g ≤ v := fun T hT hi ht => by
    obtain ⟨s, hs, rfl⟩ := num_sub ha hT
    exact hall s hs hT hi ht
  refine Sv.best_prog (G := fun T => Classical.epsilon fun g => Sv.Best n b (Sv.dif (bitN a) T) g) h0 hi hai (fun T hT hti ht => ?_) (fun T hT hti ht => ?_) h1 h2 h3 ?_
  · obtain ⟨g, hg, _⟩ := key T hT hti ht
    exact Classical.epsilon_spec (p := fun g => Sv.Best n b (Sv.dif (bitN a) T) g) ⟨g, hg⟩
  · obtain ⟨g, hg, hle⟩ := key T hT hti ht
    have := Classical.epsilon_spec (p := fun g => Sv.Best n b (Sv.dif (bitN a) T) g) ⟨g, hg⟩
    rw [this.eq hg]; exact hle
  · exact (Classical.epsilon_spec (p := fun g => Sv.Best n b (Sv.dif (bitN a) (bitN t)) g) ⟨v, h4⟩).eq h4
theorem tal_succ (b : Nat → Int) (S : Sv.St) (k : Nat) : Sv.tal (k + 1) b S = Sv.tal k b S + if S k then b k else 0 := by
  unfold Sv.tal
  rw [List.range_succ, List.map_append, List.sum_append]; simp
/-- The balances of a list. -/
def balF (xs : List Int) : Nat → Int := fun i => xs.getD i 0
/-- The balances that are not 0, as a number. -/
def openTo (xs : List Int) : Nat → Nat
  | 0 => 0
  | k + 1 => if xs.getD k 0 = 0 then openTo xs k else openTo xs k ||| 2 ^ k
theorem openTo_lt (xs : List Int) : ∀ k, openTo xs k < 2 ^ k
  | 0 => by simp [openTo]
  | k + 1 => by
    have := openTo_lt xs k
    unfold openTo
    split
    · exact Nat.lt_of_lt_of_le this (Nat.pow_le_pow_right (by omega) (by omega))
    · exact Nat.or_lt_two_pow (Nat.lt_of_lt_of_le this (Nat.pow_le_pow_right (by omega) (by omega))) (Nat.pow_lt_pow_right (by omega) (by omega))
theorem openTo_bit (xs : List Int) : ∀ k i, bitN (openTo xs k) i = (decide (i < k) && decide (xs.getD i 0 ≠ 0))
  | 0, i => by simp [openTo, bitN]
  | k + 1, i => by
    have ih := openTo_bit xs k i
    unfold openTo
    split
    · rename_i h
      rw [ih]
      by_cases hik : i = k
      · subst hik; rw [h]; simp
      · rw [show decide (i < k + 1) = decide (i < k) by rw [decide_eq_decide]; omega]
    · rename_i h
      unfold bitN at ih ⊢
      rw [Nat.testBit_or, ih, Nat.testBit_two_pow]
      by_cases hik : i = k
      · subst hik; simp; exact h
      · rw [show decide (i < k + 1) = decide (i < k) by rw [decide_eq_decide]; omega, show decide (k = i) = false by simp; omega]
        simp
theorem openTo_nz (xs : List Int) : bitN (openTo xs xs.length) = Sv.nz xs.length (balF xs) := by
  funext i; rw [openTo_bit]; rfl
theorem tal_open (xs : List Int) : Sv.tal xs.length (balF xs) (bitN (openTo xs xs.length)) = xs.sum := by
  rw [openTo_nz]
  have : ∀ k, k ≤ xs.length → Sv.tal k (balF xs) (Sv.nz xs.length (balF xs)) = (xs.take k).sum := by
    intro k
    induction k with
    | zero => intro _; rfl
    | succ k ih =>
      intro h
      rw [tal_succ, ih (by omega), List.take_succ_eq_append_getElem (by omega), List.sum_append]
      simp only [List.sum_cons, List.sum_nil, Int.add_zero]
      congr 1
      unfold Sv.nz balF
      rw [getD_of (by omega)]
      by_cases hz : xs[k] = 0
      · simp [hz]
      · simp [hz]; omega
  have h := this xs.length (Nat.le_refl _)
  rwa [List.take_length] at h
end
end Go.Proofs.YtjocoadhalimjaaGreat
