/- What is said of single seas, reports and casts: the answers. -/
import Derived.Test.YtiklblbjnblkfaaXJ
import Derived.Sort.CutIn
set_option linter.unusedSimpArgs false
set_option linter.unusedVariables false
namespace Go.Proofs.Ytiklblbjnblkfaa
open Go Go.RowKit Go.Shelf

theorem k_least {D : SeaD} (h : seaB D = false) (rs : List Rep) : leastErr D rs = 10 := by unfold leastErr; rw [if_pos h]
theorem k_ask {D : SeaD} (h : seaB D = false) (rs : List Rep) (a b : Int) : askErr D rs a b = 10 := by unfold askErr; rw [if_pos h]
theorem k_can {D : SeaD} (h : seaB D = false) (rs : List Rep) (a b : Int) : canErr D rs a b = 10 := by unfold canErr; rw [k_ask h]; rfl
theorem k_search {D : SeaD} (h : seaB D = false) (rs : List Rep) (a b : Int) (cs : List Cst) : searchErr D rs a b cs = 10 := by unfold searchErr; rw [k_ask h]; rfl
theorem k_sure {D : SeaD} (h : seaB D = false) (rs : List Rep) (a b : Int) (cs : List Cst) : sureErr D rs a b cs = 10 := by unfold sureErr; rw [k_search h]; rfl
theorem k_track {D : SeaD} (h : seaB D = false) (rs : List Rep) (tr : List Int) : isTrackRes D rs tr = .tuple #[.int .i64 0, .bool false, .int .i64 10] := by unfold isTrackRes; rw [if_pos h]
theorem rowD_ok : seaB rowD = true := by kernel_rfl
theorem j_no : ¬ seaB rowD = false := by rw [rowD_ok]; decide
theorem j_reps {rs : List Rep} (h : repsB 3 4 rs = false) : repsB rowD.hours (rowD.wide * rowD.high) rs = false := h
theorem j_least {rs : List Rep} (h : repsB 3 4 rs = false) : leastErr rowD rs = 11 := by unfold leastErr; rw [if_neg j_no, if_pos (j_reps h)]
theorem j_ask {rs : List Rep} (h : repsB 3 4 rs = false) (a b : Int) : askErr rowD rs a b = 11 := by unfold askErr; rw [if_neg j_no, if_pos (j_reps h)]
theorem j_can {rs : List Rep} (h : repsB 3 4 rs = false) (a b : Int) : canErr rowD rs a b = 11 := by unfold canErr; rw [j_ask h]; rfl
theorem j_search {rs : List Rep} (h : repsB 3 4 rs = false) (a b : Int) (cs : List Cst) : searchErr rowD rs a b cs = 11 := by unfold searchErr; rw [j_ask h]; rfl
theorem j_track {rs : List Rep} (h : repsB 3 4 rs = false) (tr : List Int) : isTrackRes rowD rs tr = .tuple #[.int .i64 0, .bool false, .int .i64 11] := by unfold isTrackRes; rw [if_neg j_no, if_pos (j_reps h)]

def T2 (E : Int) (w : World) (e : Ending) (w' : World) : Prop := (∃ r, e = .returned (.tuple #[r, .int .i64 E])) ∧ Ext w w'
def T3 (E : Int) (w : World) (e : Ending) (w' : World) : Prop := (∃ n r, e = .returned (.tuple #[n, r, .int .i64 E])) ∧ Ext w w'
section
variable {sv lv dv rv : Value} {D : SeaD} {rs : List Rep} {w : World}
theorem kTrack {tv : Value} {tr : List Int} {R : Value} (hs : sv = seaVal D lv dv) (hl : IntsAt w lv D.land) (hd : StepsAt w dv D.drift) (hr : RepsAt w rv rs) (ht : IntsAt w tv tr) (hE : isTrackRes D rs tr = R) :
    Cal 16 #[sv, rv, tv] w fun e w' => e = .returned R ∧ Ext w w' := by subst hs; rw [← hE]; exact IsTrack_any D lv dv rv tv rs tr w hl hd hr ht
theorem kLeast {E : Int} (hs : sv = seaVal D lv dv) (hl : IntsAt w lv D.land) (hd : StepsAt w dv D.drift) (hr : RepsAt w rv rs) (hE : leastErr D rs = E) : Cal 20 #[sv, rv] w (T3 E w) := by
  subst hs; rw [← hE]; exact (Least_any D lv dv rv rs w hl hd hr).mono fun e w' ⟨v, he, hx, _⟩ => ⟨⟨_, v, he⟩, hx⟩
theorem kCan {E a b : Int} (hs : sv = seaVal D lv dv) (hl : IntsAt w lv D.land) (hd : StepsAt w dv D.drift) (hr : RepsAt w rv rs) (hE : canErr D rs a b = E) : Cal 24 #[sv, rv, .int .i64 a, .int .i64 b] w (T2 E w) := by
  subst hs; rw [← hE]; exact (Can_any D lv dv rv rs a b w hl hd hr).mono fun e w' ⟨v, he, hx, _⟩ => ⟨⟨v, he⟩, hx⟩
theorem kLiars {E : Int} (hs : sv = seaVal D lv dv) (hl : IntsAt w lv D.land) (hd : StepsAt w dv D.drift) (hr : RepsAt w rv rs) (hE : leastErr D rs = E) : Cal 26 #[sv, rv] w (T2 E w) := by
  subst hs; rw [← hE]; exact (Liars_any D lv dv rv rs w hl hd hr).mono fun e w' ⟨v, he, hx, _⟩ => ⟨⟨v, he⟩, hx⟩
theorem kNext {E a b : Int} {cv : Value} {cs : List Cst} (hs : sv = seaVal D lv dv) (hl : IntsAt w lv D.land) (hd : StepsAt w dv D.drift) (hr : RepsAt w rv rs) (hc : CastsAt w cv cs) (hE : searchErr D rs a b cs = E) : Cal 28 #[sv, rv, .int .i64 a, .int .i64 b, cv] w (T3 E w) := by
  subst hs; rw [← hE]; exact (Next_any D lv dv rv cv rs a b cs w hl hd hr hc).mono fun e w' ⟨he, hx⟩ => ⟨⟨_, _, he⟩, hx⟩
theorem kSure {E a b : Int} {cv : Value} {cs : List Cst} (hs : sv = seaVal D lv dv) (hl : IntsAt w lv D.land) (hd : StepsAt w dv D.drift) (hr : RepsAt w rv rs) (hc : CastsAt w cv cs) (hE : sureErr D rs a b cs = E) : Cal 30 #[sv, rv, .int .i64 a, .int .i64 b, cv] w (T2 E w) := by
  subst hs; rw [← hE]; exact (Sure_any D lv dv rv cv rs a b cs w hl hd hr hc).mono fun e w' ⟨v, he, hx, _⟩ => ⟨⟨v, he⟩, hx⟩
theorem kCheck (hs : sv = seaVal D lv dv) (hl : IntsAt w lv D.land) (hd : StepsAt w dv D.drift) (hE : seaB D = false) : Cal 18 #[sv] w fun e w' => e = .returned (.int .i64 10) ∧ Ext w w' := by
  subst hs; have := Check_any D lv dv w hl hd; rwa [hE] at this
end
theorem reps_nil (w : World) : RepsAt w (.slice none 0 0) [] := ⟨none, 0, rfl, by simp, fun i h => absurd h (by simp)⟩
theorem casts_nil (w : World) : CastsAt w (.slice none 0 0) [] := ⟨none, 0, rfl, by simp, fun i h => absurd h (by simp)⟩
theorem steps_nil (w : World) : StepsAt w (.slice none 0 0) [] := ⟨none, 0, rfl, by simp, fun i h => absurd h (by simp)⟩

/-- The sea of the examples, with where its drift lies. -/
def driftC (e : Int) : Array Value := #[.int .i64 e, .int .i64 0, .int .i64 0, .int .i64 0]
theorem row_known (w : World) : Cal 45 #[] w fun e w' => ∃ b, e = .returned (.agg #[.int .i64 4, .int .i64 1, .slice none 0 0, .int .i64 3, .slice (some ⟨b, 0, none⟩) 2 2, .int .i64 1]) ∧ Ext w w' ∧ w.heap.size ≤ b ∧ w'.heap[b]? = some (.cells (driftC 1) 70 (0, 0)) := by
  gi_enter Try.func45, Try.ntmps45
  gi_wp2_with fail
  have hx : Ext w ((w.alloc (.cells #[.int .i64 4, .int .i64 1, .slice none 0 0, .int .i64 3, .slice (some ⟨w.heap.size + 1, 0, none⟩) 2 2, .int .i64 1] 25)).alloc (.cells #[.int .i64 1, .int .i64 0, .int .i64 0, .int .i64 0] 70)) := ((Ext.refl w).alloc _).alloc _
  have h1 : ((w.alloc (.cells #[.int .i64 4, .int .i64 1, .slice none 0 0, .int .i64 3, .slice (some ⟨w.heap.size + 1, 0, none⟩) 2 2, .int .i64 1] 25)).alloc (.cells #[.int .i64 1, .int .i64 0, .int .i64 0, .int .i64 0] 70)).heap[w.heap.size]? = some (.cells #[.int .i64 4, .int .i64 1, .slice none 0 0, .int .i64 3, .slice (some ⟨w.heap.size + 1, 0, none⟩) 2 2, .int .i64 1] 25 (0, 0)) := two_new
  have h2 : ((w.alloc (.cells #[.int .i64 4, .int .i64 1, .slice none 0 0, .int .i64 3, .slice (some ⟨w.heap.size + 1, 0, none⟩) 2 2, .int .i64 1] 25)).alloc (.cells #[.int .i64 1, .int .i64 0, .int .i64 0, .int .i64 0] 70)).heap[w.heap.size + 1]? = some (.cells #[.int .i64 1, .int .i64 0, .int .i64 0, .int .i64 0] 70 (0, 0)) := by
    have := Ext.new (w := w.alloc (.cells #[.int .i64 4, .int .i64 1, .slice none 0 0, .int .i64 3, .slice (some ⟨w.heap.size + 1, 0, none⟩) 2 2, .int .i64 1] 25)) (o := .cells #[.int .i64 1, .int .i64 0, .int .i64 0, .int .i64 0] 70) (Ext.refl _)
    simpa using this
  generalize (w.alloc (.cells #[.int .i64 4, .int .i64 1, .slice none 0 0, .int .i64 3, .slice (some ⟨w.heap.size + 1, 0, none⟩) 2 2, .int .i64 1] 25)).alloc (.cells #[.int .i64 1, .int .i64 0, .int .i64 0, .int .i64 0] 70) = w1 at *
  have hc := cell_of h1
  exact bodyPost_ret (v := .agg #[.int .i64 4, .int .i64 1, .slice none 0 0, .int .i64 3, .slice (some ⟨w.heap.size + 1, 0, none⟩) 2 2, .int .i64 1]) (by simp [results, Try.results58, go_sem, hc]) rfl ⟨_, rfl, hx, Nat.le_succ _, h2⟩
theorem drift_at {w : World} {b : Nat} {e : Int} (h : w.heap[b]? = some (.cells (driftC e) 70 (0, 0))) : StepsAt w (.slice (some ⟨b, 0, none⟩) 2 2) [⟨e, 0⟩, ⟨0, 0⟩] :=
  ⟨_, 2, rfl, by simp, fun i hi => ⟨b, 0, rfl, lt_of_block h, by rw [cell_of h]; rcases (by simp at hi; omega : i = 0 ∨ i = 1) with rfl | rfl <;> rfl, by rw [cell_of h]; rcases (by simp at hi; omega : i = 0 ∨ i = 1) with rfl | rfl <;> rfl⟩⟩
theorem drift_one {w : World} {b : Nat} {e : Int} (h : w.heap[b]? = some (.cells (driftC e) 70 (0, 0))) : StepsAt w (.slice (some ⟨b, 0, none⟩) 1 2) [⟨e, 0⟩] :=
  ⟨_, 2, rfl, by simp, fun i hi => ⟨b, 0, rfl, lt_of_block h, by rw [cell_of h]; obtain rfl : i = 0 := (by simp at hi; omega); rfl, by rw [cell_of h]; obtain rfl : i = 0 := (by simp at hi; omega); rfl⟩⟩
theorem row_sv (b : Nat) : Value.agg #[.int .i64 4, .int .i64 1, .slice none 0 0, .int .i64 3, .slice (some ⟨b, 0, none⟩) 2 2, .int .i64 1] = seaVal rowD (.slice none 0 0) (.slice (some ⟨b, 0, none⟩) 2 2) := rfl

/-- Seas that are wrong, one after the other. -/
def BadAt (w : World) (B : Nat) : Prop := ∀ k, k < 8 → ∃ D lv dv, seaB D = false ∧ B < w.heap.size ∧ w.cell? ⟨B, k * 6, none⟩ = some (.int .i64 D.wide) ∧ w.cell? ⟨B, k * 6 + 1, none⟩ = some (.int .i64 D.high) ∧
  w.cell? ⟨B, k * 6 + 2, none⟩ = some lv ∧ w.cell? ⟨B, k * 6 + 3, none⟩ = some (.int .i64 D.hours) ∧ w.cell? ⟨B, k * 6 + 4, none⟩ = some dv ∧ w.cell? ⟨B, k * 6 + 5, none⟩ = some (.int .i64 D.speed) ∧ IntsAt w lv D.land ∧ StepsAt w dv D.drift
/-- Reports that are wrong. -/
def WrongAt (w : World) (B : Nat) : Prop := ∀ k, k < 7 → ∃ rv rs, repsB 3 4 rs = false ∧ B < w.heap.size ∧ w.cell? ⟨B, k, none⟩ = some rv ∧ RepsAt w rv rs
def zeroReps (n : Nat) : List Rep := List.replicate n ⟨0, 0, 0, false⟩
theorem z25 : repsB 3 4 (zeroReps 25) = false := by kernel_rfl
theorem info52 : (Try.prog.info? 52).map (fun i => (i.zero, i.size, i.bytes)) = some (some (.agg #[.int .i64 0, .int .i64 0, .int .i64 0, .bool false]), 4, 32) := by kernel_rfl
theorem info64 : (Try.prog.info? 64).map (fun i => (i.zero, i.size, i.bytes)) = some (some (.agg #[.int .i64 0, .int .i64 0]), 2, 16) := by kernel_rfl
theorem make_reps (w : World) : (Instr.makeSlice 26 (.int .i64 25) (.int .i64 25)).run Try.prog w = .ok (.slice (some ⟨w.heap.size, 0, none⟩) 25 25) (w.alloc (.cells (madeCells #[.int .i64 0, .int .i64 0, .int .i64 0, .bool false] 100) 52)) := by
  obtain ⟨i0, hi, hz0, hz1, hz2⟩ := info_parts info52
  have := run_make (P := Try.prog) w 26 52 i0 (.agg #[.int .i64 0, .int .i64 0, .int .i64 0, .bool false]) Try.underlying26 hi hz0 .i64 .i64 25 25 (by omega) (by omega) (by rw [hz2]; omega) (by omega)
  rw [this]; simp [hz1, Value.cells]
theorem make_casts (w : World) : (Instr.makeSlice 44 (.int .i64 9) (.int .i64 9)).run Try.prog w = .ok (.slice (some ⟨w.heap.size, 0, none⟩) 9 9) (w.alloc (.cells (madeCells #[.int .i64 0, .int .i64 0] 18) 64)) := by
  obtain ⟨i0, hi, hz0, hz1, hz2⟩ := info_parts info64
  have := run_make (P := Try.prog) w 44 64 i0 (.agg #[.int .i64 0, .int .i64 0]) Try.underlying44 hi hz0 .i64 .i64 9 9 (by omega) (by omega) (by rw [hz2]; omega) (by omega)
  rw [this]; simp [hz1, Value.cells]
theorem made_reps : ∀ i, i < 25 → (madeCells #[.int .i64 0, .int .i64 0, .int .i64 0, .bool false] 100)[0 + i * 4]? = some (.int .i64 0) ∧ (madeCells #[.int .i64 0, .int .i64 0, .int .i64 0, .bool false] 100)[0 + i * 4 + 1]? = some (.int .i64 0) ∧
    (madeCells #[.int .i64 0, .int .i64 0, .int .i64 0, .bool false] 100)[0 + i * 4 + 2]? = some (.int .i64 0) ∧ (madeCells #[.int .i64 0, .int .i64 0, .int .i64 0, .bool false] 100)[0 + i * 4 + 3]? = some (.bool false) := by
  intro i hi
  have h0 : (0 + i * 4) % 4 = 0 := by omega
  have h1 : (0 + i * 4 + 1) % 4 = 1 := by omega
  have h2 : (0 + i * 4 + 2) % 4 = 2 := by omega
  have h3 : (0 + i * 4 + 3) % 4 = 3 := by omega
  have hr : ∀ j, j < 100 → (Array.range 100)[j]? = some j := fun j hj => by simp [hj]
  refine ⟨?_, ?_, ?_, ?_⟩ <;> (simp only [madeCells, Array.getElem?_map]; rw [hr _ (by omega)])
  · simp [h0]
  · simp [h1]
  · simp [h2]
  · simp [h3]
theorem reps_made {w w1 : World} (hx : Ext (w.alloc (.cells (madeCells #[.int .i64 0, .int .i64 0, .int .i64 0, .bool false] 100) 52)) w1) : RepsAt w1 (.slice (some ⟨w.heap.size, 0, none⟩) 25 25) (zeroReps 25) := by
  refine ⟨_, 25, rfl, by simp [zeroReps], fun i hi => ⟨w.heap.size, 0, rfl, lt_of_block (Ext.new hx), ?_⟩⟩
  have hi' : i < 25 := by simpa [zeroReps] using hi
  obtain ⟨h0, h1, h2, h3⟩ := made_reps i hi'
  simp only [cell_of (Ext.new hx)]
  have hz : (zeroReps 25)[i] = ⟨0, 0, 0, false⟩ := List.eq_of_mem_replicate (n := 25) (List.getElem_mem hi)
  exact ⟨h0.trans (congrArg (fun r : Rep => some (Value.int .i64 r.hour)) hz.symm), h1.trans (congrArg (fun r : Rep => some (Value.int .i64 r.cell)) hz.symm), h2.trans (congrArg (fun r : Rep => some (Value.int .i64 r.far)) hz.symm), h3.trans (congrArg (fun r : Rep => some (Value.bool r.there)) hz.symm)⟩
theorem made_casts : ∀ i, i < 9 → (madeCells #[.int .i64 0, .int .i64 0] 18)[0 + i * 2]? = some (.int .i64 0) ∧ (madeCells #[.int .i64 0, .int .i64 0] 18)[0 + i * 2 + 1]? = some (.int .i64 0) := by
  intro i hi
  have h0 : (0 + i * 2) % 2 = 0 := by omega
  have h1 : (0 + i * 2 + 1) % 2 = 1 := by omega
  have hr : ∀ j, j < 18 → (Array.range 18)[j]? = some j := fun j hj => by simp [hj]
  refine ⟨?_, ?_⟩ <;> (simp only [madeCells, Array.getElem?_map]; rw [hr _ (by omega)])
  · simp [h0]
  · simp [h1]
def zeroCasts (n : Nat) : List Cst := List.replicate n ⟨0, 0⟩
theorem casts_made {w w1 : World} (hx : Ext (w.alloc (.cells (madeCells #[.int .i64 0, .int .i64 0] 18) 64)) w1) : CastsAt w1 (.slice (some ⟨w.heap.size, 0, none⟩) 9 9) (zeroCasts 9) := by
  refine ⟨_, 9, rfl, by simp [zeroCasts], fun i hi => ⟨w.heap.size, 0, rfl, lt_of_block (Ext.new hx), ?_⟩⟩
  have hi' : i < 9 := by simpa [zeroCasts] using hi
  obtain ⟨h0, h1⟩ := made_casts i hi'
  simp only [cell_of (Ext.new hx)]
  have hz : (zeroCasts 9)[i] = ⟨0, 0⟩ := List.eq_of_mem_replicate (n := 9) (List.getElem_mem hi)
  exact ⟨h0.trans (congrArg (fun r : Cst => some (Value.int .i64 r.cell)) hz.symm), h1.trans (congrArg (fun r : Cst => some (Value.int .i64 r.far)) hz.symm)⟩
theorem ex_7a : canErr rowD (repsL.take 3) 25 0 = 7 := by kernel_rfl
theorem ex_7b : canErr rowD (repsL.take 3) 0 3 = 7 := by kernel_rfl
theorem ex_12a : canErr rowD (repsL.take 3) 0 1 = 12 := by kernel_rfl
theorem ex_7c : searchErr rowD (repsL.take 3) 0 3 [] = 7 := by kernel_rfl
theorem ex_13a : searchErr rowD (repsL.take 3) 0 1 [] = 13 := by kernel_rfl
theorem ex_12b : searchErr rowD (repsL.take 3) 0 1 [⟨0, 0⟩] = 12 := by kernel_rfl
theorem ex_13b : sureErr rowD (repsL.take 3) 0 1 [⟨4, 0⟩] = 13 := by kernel_rfl
theorem ex_4a : sureErr rowD (repsL.take 3) 1 1 [⟨0, 0⟩] = 4 := by kernel_rfl
def landD : SeaD := ⟨4, 1, [0, 1, 2, 3], 3, [⟨1, 0⟩, ⟨0, 0⟩], 1⟩
theorem ex_4b : leastErr landD [] = 4 := by kernel_rfl
theorem ex_12c : canErr landD [] 24 0 = 12 := by kernel_rfl
theorem ex_13c : searchErr rowD [] 0 0 (zeroCasts 9) = 13 := by kernel_rfl
theorem ex_t1 : isTrackRes rowD (repsL.take 2) [0, 0, 3] = .tuple #[.int .i64 0, .bool false, .int .i64 0] := by kernel_rfl
theorem ex_t2 : isTrackRes rowD (repsL.take 2) [1, 1, 0] = .tuple #[.int .i64 2, .bool true, .int .i64 0] := by kernel_rfl
theorem ex_t3 : isTrackRes rowD [] [0, 0] = .tuple #[.int .i64 0, .bool false, .int .i64 0] := by kernel_rfl
theorem ex_c1 : canErr rowD (repsL.take 2) 0 1 = 0 ∧ canList rowD (repsL.take 2) 0 1 = [2] := ⟨by kernel_rfl, by kernel_rfl⟩
theorem ex_c2 : canErr rowD (repsL.take 3) 2 1 = 0 ∧ canList rowD (repsL.take 3) 2 1 = [0, 1, 2, 3] := ⟨by kernel_rfl, by kernel_rfl⟩
theorem ex_l1 : leastErr rowD (repsL.take 3) = 0 ∧ liarsList rowD (repsL.take 3) = [] := ⟨by kernel_rfl, by kernel_rfl⟩
def castsK : List Cst := [⟨0, 0⟩, ⟨2, 0⟩, ⟨1, 0⟩, ⟨1, 1⟩]
theorem ex_s1 : sureErr rowD (repsL.take 3) 1 1 castsK = 0 ∧ sureList rowD (repsL.take 3) 1 1 castsK = [3] := ⟨by kernel_rfl, by kernel_rfl⟩
theorem ex_c3 : canErr rowD [] 0 0 = 0 ∧ canList rowD [] 0 0 = [0, 1, 2, 3] := ⟨by kernel_rfl, by kernel_rfl⟩
end Go.Proofs.Ytiklblbjnblkfaa
