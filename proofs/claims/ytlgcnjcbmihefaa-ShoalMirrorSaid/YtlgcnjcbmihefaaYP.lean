/- The sea in a mirror, without a program. -/
import Derived.Test.YtlgcnjcbmihefaaYM
set_option linter.unusedSimpArgs false
set_option linter.unusedVariables false
namespace Go.Proofs.Ytlgcnjcbmihefaa
open Go Go.RowKit Go.Shelf

def turnI (W c : Int) : Int := c - c % W + W - 1 - c % W
def turnN (D : SeaD) (c : Nat) : Nat := (turnI D.wide c).toNat
theorem turn_parts {W c : Int} (hW : 1 ≤ W) : turnI W c % W = W - 1 - c % W ∧ turnI W c / W = c / W := by
  have h1 := Int.emod_add_mul_ediv c W
  have h2 := Int.emod_nonneg c (show W ≠ 0 by omega)
  have h3 := Int.emod_lt_of_pos c (show 0 < W by omega)
  have e : turnI W c = (W - 1 - c % W) + W * (c / W) := by unfold turnI; omega
  rw [e]
  constructor
  · rw [Int.add_mul_emod_self_left, Int.emod_eq_of_lt (by omega) (by omega)]
  · rw [Int.add_mul_ediv_left _ _ (by omega), Int.ediv_eq_zero_of_lt (by omega) (by omega), Int.zero_add]
theorem turn_turn {W c : Int} (hW : 1 ≤ W) : turnI W (turnI W c) = c := by
  have h := turn_parts (c := c) hW
  have h2 := turn_parts (c := turnI W c) hW
  have e1 := Int.emod_add_mul_ediv c W
  have e2 := Int.emod_add_mul_ediv (turnI W (turnI W c)) W
  rw [h2.1, h2.2, h.1, h.2] at e2
  omega
theorem turn_lt {W H c : Int} (hW : 1 ≤ W) (h0 : 0 ≤ c) (hc : c < W * H) : 0 ≤ turnI W c ∧ turnI W c < W * H := by
  have h := turn_parts (c := c) hW
  have e2 := Int.emod_add_mul_ediv (turnI W c) W
  have h2 := Int.emod_nonneg c (show W ≠ 0 by omega)
  have h3 := Int.emod_lt_of_pos c (show 0 < W by omega)
  rw [h.1, h.2] at e2
  have hq0 : 0 ≤ c / W := Int.ediv_nonneg h0 (by omega)
  have hq1 : c / W < H := Int.ediv_lt_of_lt_mul (by omega) (by rw [Int.mul_comm]; exact hc)
  have hm0 : 0 ≤ W * (c / W) := Int.mul_nonneg (by omega) hq0
  have hm1 : W * (c / W) + W ≤ W * H := by
    have : W * (c / W + 1) ≤ W * H := Int.mul_le_mul_of_nonneg_left (by omega) (by omega)
    rw [Int.mul_add, Int.mul_one] at this
    exact this
  omega
def mirLand (D : SeaD) (n : Nat) : List Nat := (List.range n).filter fun c => D.land.contains (turnI D.wide c)
def mirStep (s : Step) : Step := ⟨-s.east, s.north⟩
def mirD (D : SeaD) : SeaD := { D with land := intsOf (mirLand D (D.wide * D.high).toNat), drift := D.drift.map mirStep }
def mirRep (D : SeaD) (r : Rep) : Rep := { r with cell := turnI D.wide r.cell }
theorem turnN_ok {D : SeaD} (hW : 1 ≤ D.wide) {c : Nat} (hc : c < (D.wide * D.high).toNat) : ((turnN D c : Nat) : Int) = turnI D.wide c ∧ turnN D c < (D.wide * D.high).toNat ∧ turnN D (turnN D c) = c := by
  have h := turn_lt (H := D.high) hW (show 0 ≤ (c : Int) by omega) (by omega)
  have e : ((turnN D c : Nat) : Int) = turnI D.wide c := by unfold turnN; omega
  refine ⟨e, by omega, ?_⟩
  have := turn_turn (c := (c : Int)) hW
  show (turnI D.wide ((turnN D c : Nat) : Int)).toNat = c
  rw [e, this]
  omega
theorem mem_intsOf {l : List Nat} {x : Int} : x ∈ intsOf l ↔ ∃ c ∈ l, ((c : Nat) : Int) = x := by unfold intsOf; rw [List.mem_map]
theorem mem_mirLand {D : SeaD} {n c : Nat} : c ∈ mirLand D n ↔ c < n ∧ turnI D.wide c ∈ D.land := by
  unfold mirLand
  rw [List.mem_filter, List.mem_range, List.contains_iff_mem]
theorem mem_open {D : SeaD} {c : Nat} : openC D c ↔ c < (D.wide * D.high).toNat ∧ (c : Int) ∉ D.land := by
  unfold openC opens isOpen
  rw [List.mem_filter, List.mem_range]
  simp
theorem mir_open {D : SeaD} (hW : 1 ≤ D.wide) {c : Nat} : openC (mirD D) c ↔ c < (D.wide * D.high).toNat ∧ openC D (turnN D c) := by
  rw [mem_open, mem_open]
  show c < (D.wide * D.high).toNat ∧ (c : Int) ∉ intsOf (mirLand D (D.wide * D.high).toNat) ↔ _
  rw [mem_intsOf]
  constructor
  · rintro ⟨h1, h2⟩
    have ht := turnN_ok hW h1
    refine ⟨h1, ht.2.1, fun h => h2 ⟨c, mem_mirLand.mpr ⟨h1, ?_⟩, rfl⟩⟩
    rw [← ht.1]; exact h
  · rintro ⟨h1, h2, h3⟩
    have ht := turnN_ok hW h1
    refine ⟨h1, ?_⟩
    rintro ⟨d, hd, e⟩
    have : d = c := by omega
    subst this
    rw [ht.1] at h3
    exact h3 (mem_mirLand.mp hd).2
theorem mir_step {D : SeaD} {h : Nat} : stepE (mirD D).drift h = -stepE D.drift h ∧ stepN (mirD D).drift h = stepN D.drift h := by
  unfold stepE stepN
  show ((D.drift.map mirStep).getD h ⟨0, 0⟩).east = _ ∧ ((D.drift.map mirStep).getD h ⟨0, 0⟩).north = _
  by_cases hl : h < D.drift.length
  · simp [List.getD, hl, mirStep]
  · simp [List.getD, hl]
theorem mir_place {D : SeaD} (hW : 1 ≤ D.wide) {c : Int} : col (seaOf (mirD D)) c = D.wide - 1 - col (seaOf D) (turnI D.wide c) ∧ row (seaOf (mirD D)) c = row (seaOf D) (turnI D.wide c) := by
  have h := turn_parts (c := c) hW
  unfold col row
  show c % D.wide = D.wide - 1 - turnI D.wide c % D.wide ∧ c / D.wide = turnI D.wide c / D.wide
  omega
theorem mir_link {D : SeaD} (hW : 1 ≤ D.wide) {h c d : Nat} (hc : c < (D.wide * D.high).toNat) (hd : d < (D.wide * D.high).toNat) : linkP (mirD D) h d c ↔ linkP D h (turnN D d) (turnN D c) := by
  unfold linkP
  rw [mem_reach, mem_reach, (mir_step (D := D) (h := h)).1, (mir_step (D := D) (h := h)).2, (mir_place hW).1, (mir_place hW).1, (mir_place hW).2, (mir_place hW).2, (turnN_ok hW hc).1, (turnN_ok hW hd).1]
  show _ ∧ _ ↔ _
  have es : (mirD D).speed.toNat = D.speed.toNat := rfl
  rw [es]
  omega
theorem mir_way {D : SeaD} (hW : 1 ≤ D.wide) {T : Nat → Nat} (h : isWay (mirD D) T) : isWay D (fun i => turnN D (T i)) := by
  refine ⟨fun i h0 hi => ((mir_open hW).mp (h.1 i h0 hi)).2, fun i h0 hi => ?_⟩
  have h1 := h.2 i h0 hi
  exact (mir_link hW ((mir_open hW).mp (h.1 (i + 1) (by omega) hi)).1 ((mir_open hW).mp (h.1 i h0 (Nat.lt_of_succ_lt hi))).1).mp h1
theorem mir_back {D : SeaD} (hW : 1 ≤ D.wide) {T : Nat → Nat} (h : isWay D T) : isWay (mirD D) (fun i => turnN D (T i)) := by
  have hlt := fun i h0 hi => (mem_open.mp (h.1 i h0 hi)).1
  refine ⟨fun i h0 hi => (mir_open hW).mpr ⟨(turnN_ok hW (hlt i h0 hi)).2.1, ?_⟩, fun i h0 hi => ?_⟩
  · rw [(turnN_ok hW (hlt i h0 hi)).2.2]; exact h.1 i h0 hi
  · have a := turnN_ok hW (hlt (i + 1) (by omega) hi)
    have b := turnN_ok hW (hlt i h0 (Nat.lt_of_succ_lt hi))
    refine (mir_link hW a.2.1 b.2.1).mpr ?_
    rw [a.2.2, b.2.2]
    exact h.2 i h0 hi
theorem mir_true {D : SeaD} (hW : 1 ≤ D.wide) {r : Rep} {c : Nat} (hc : c < (D.wide * D.high).toNat) : trueAt (mirD D) (mirRep D r) c = trueAt D r (turnN D c) := by
  unfold trueAt repTrue
  rw [dist_max, dist_max, (mir_place hW).1, (mir_place hW).2, (mir_place hW).1, (mir_place hW).2, (turnN_ok hW hc).1]
  show (r.there == decide (_ ≤ r.far)) = _
  rw [show turnI D.wide (mirRep D r).cell = r.cell from turn_turn hW]
  congr 2
  generalize col (seaOf D) r.cell = a
  generalize col (seaOf D) (turnI D.wide c) = b
  generalize row (seaOf D) r.cell - row (seaOf D) (turnI D.wide c) = z
  have : max (-(D.wide - 1 - a - (D.wide - 1 - b))) (D.wide - 1 - a - (D.wide - 1 - b)) = max (-(a - b)) (a - b) := by omega
  rw [this]
theorem landGood_of {l : List Nat} {n : Nat} (h : rises n 0 l) (i : Nat) (hi : i < l.length) : landGood (intsOf l) (n : Int) i = true := by
  unfold landGood
  rw [intsOf_getD, intsOf_getD, getD_of hi]
  have h1 := rises_lt h l[i] (List.getElem_mem _)
  rw [Bool.and_eq_true]
  refine ⟨by unfold inB; simp; omega, ?_⟩
  by_cases h0 : i = 0
  · simp [h0]
  · have h2 := rises_step h
    have h3 := h2 (i - 1) (by omega)
    rw [getD_of (show i - 1 < l.length by omega)]
    simp only [show i - 1 + 1 = i by omega] at h3
    rw [Bool.or_eq_true]
    exact .inr (by rw [decide_eq_true_eq]; omega)
theorem mir_sound {D : SeaD} {rs : List Rep} (hS : soundB D rs = true) : soundB (mirD D) (rs.map (mirRep D)) = true := by
  have hS2 := hS
  unfold soundB at hS2
  rw [Bool.and_eq_true] at hS2
  have hbd := sea_bounds hS2.1
  have hW := (inB_spec hbd.1).1
  have hmb := mul_bounds (inB_spec hbd.1) (inB_spec hbd.2.1)
  unfold soundB
  rw [Bool.and_eq_true]
  constructor
  · have hs := hS2.1
    unfold seaB at hs ⊢
    simp only [Bool.and_eq_true] at hs ⊢
    refine ⟨⟨hs.1.1, ?_⟩, ?_⟩
    · show landB (intsOf (mirLand D (D.wide * D.high).toNat)) (D.wide * D.high) = true
      have hr : rises (D.wide * D.high).toNat 0 (mirLand D (D.wide * D.high).toNat) := by
        unfold mirLand
        rw [List.range_eq_range']
        exact rises_filter _ _ 0 (by omega)
      unfold landB
      refine allTo_yes (fun i hi => ?_)
      rw [intsOf_length] at hi
      have := landGood_of hr i hi
      rwa [show (((D.wide * D.high).toNat : Nat) : Int) = D.wide * D.high by omega] at this
    · show driftB (D.drift.map mirStep) (D.hours - 1) = true
      have hd := hs.2
      unfold driftB at hd ⊢
      rw [Bool.and_eq_true] at hd ⊢
      refine ⟨by rw [List.length_map]; exact hd.1, allTo_yes (fun i hi => ?_)⟩
      rw [List.length_map] at hi
      have h2 := hd.2
      unfold allTo at h2
      have h3 := List.all_eq_true.mp h2 i (List.mem_range.2 hi)
      unfold driftGood at h3 ⊢
      rw [getD_of hi] at h3
      rw [show (D.drift.map mirStep).getD i ⟨0, 0⟩ = mirStep D.drift[i] by simp [List.getD, hi]]
      unfold mirStep inB at *
      simp at h3 ⊢
      omega
  · have hr := repsB_iff.mp hS2.2
    refine repsB_iff.mpr ⟨by rw [List.length_map]; exact hr.1, fun r hm => ?_⟩
    obtain ⟨q, hq, rfl⟩ := List.mem_map.mp hm
    have h1 := hr.2 q hq
    unfold repOk at h1 ⊢
    simp only [Bool.and_eq_true] at h1 ⊢
    refine ⟨⟨h1.1.1, ?_⟩, h1.2⟩
    have h2 := inB_spec h1.1.2
    have h3 := turn_lt (H := D.high) hW h2.1 (by omega)
    show inB (turnI D.wide q.cell) 0 (D.wide * D.high - 1) = true
    unfold inB
    simp
    omega
theorem mir_cost {D : SeaD} {rs : List Rep} (hS : soundB D rs = true) {T : Nat → Nat} (hT : isWay (mirD D) T) : costW (mirD D) (rs.map (mirRep D)) T = costW D rs (fun i => turnN D (T i)) := by
  have hS2 := hS
  unfold soundB at hS2
  rw [Bool.and_eq_true] at hS2
  have hbd := sea_bounds hS2.1
  have hW := (inB_spec hbd.1).1
  have hro := reps_ok hS2.1 hS2.2
  rw [costs_nat (mir_sound hS) hT, costs_nat hS (mir_way hW hT), List.countP_map]
  congr 1
  refine List.countP_congr (fun r hr => ?_)
  have hb := (hro.2 r hr).2
  have hlt := ((mir_open hW).mp (hT.1 r.hour.toNat (Nat.zero_le _) (show r.hour.toNat < D.hours.toNat by omega))).1
  have := mir_true hW (r := r) hlt
  simp only [Function.comp]
  rw [show (mirRep D r).hour = r.hour from rfl, this]
theorem sub_len : ∀ {l m : List Nat}, l.Nodup → (∀ a ∈ l, a ∈ m) → l.length ≤ m.length
  | [], m, _, _ => Nat.zero_le _
  | a :: l, m, hn, h => by
    have hm := h a (List.mem_cons_self ..)
    have hn2 := List.nodup_cons.mp hn
    have := sub_len (l := l) (m := m.erase a) hn2.2 (fun b hb => (List.mem_erase_of_ne (fun e => hn2.1 (by rw [← e]; exact hb))).mpr (h b (List.mem_cons_of_mem _ hb)))
    rw [List.length_erase_of_mem hm] at this
    have h0 : 0 < m.length := List.length_pos_of_mem hm
    rw [List.length_cons]
    omega
theorem canF_nodup (D : SeaD) (rs : List Rep) (n : Int) (h : Nat) : (canF D rs n h).Nodup := by
  unfold canF opens
  exact (List.nodup_range.filter _).filter _
/-- All that is so in the mirror. -/
theorem mir_facts {D : SeaD} {rs : List Rep} (hS : soundB D rs = true) {n h : Int} (hn : 0 ≤ n ∧ n < 25) (hh : 0 ≤ h ∧ h < D.hours) :
    canErr (mirD D) (rs.map (mirRep D)) n h = canErr D rs n h ∧ leastErr (mirD D) (rs.map (mirRep D)) = leastErr D rs ∧ leastN (mirD D) (rs.map (mirRep D)) = leastN D rs ∧
    (canList (mirD D) (rs.map (mirRep D)) n h).length = (canList D rs n h).length ∧ (∀ c ∈ canList D rs n h, c < (D.wide * D.high).toNat ∧ turnN D c ∈ canList (mirD D) (rs.map (mirRep D)) n h) := by
  have hS2 := hS
  unfold soundB at hS2
  rw [Bool.and_eq_true] at hS2
  have hbd := sea_bounds hS2.1
  have hW := (inB_spec hbd.1).1
  have hM := mir_sound hS
  have hways : ∀ (P : Nat → Prop) (m : Int), (∃ T, isWay (mirD D) T ∧ P (turnN D (T h.toNat)) ∧ costW (mirD D) (rs.map (mirRep D)) T ≤ m) ↔ ∃ T, isWay D T ∧ P (T h.toNat) ∧ costW D rs T ≤ m := fun P m => by
    constructor
    · rintro ⟨T, hT, hP, hc⟩
      exact ⟨_, mir_way hW hT, hP, by rw [← mir_cost hS hT]; exact hc⟩
    · rintro ⟨T, hT, hP, hc⟩
      have hb := mir_back hW hT
      have hlt := fun i hi => (mem_open.mp (hT.1 i (Nat.zero_le _) hi)).1
      refine ⟨_, hb, ?_, ?_⟩
      · rw [(turnN_ok hW (hlt h.toNat (by omega))).2.2]; exact hP
      · rw [mir_cost hS hb]
        have : costW D rs (fun i => turnN D (turnN D (T i))) = costW D rs T := sumTo_congr _ (fun i hi => by show ownF D rs i (turnN D (turnN D (T i))) = _; rw [(turnN_ok hW (hlt i hi)).2.2])
        rw [this]; exact hc
  have hleast : ∀ m : Int, m < 25 → (leastErr (mirD D) (rs.map (mirRep D)) = 0 ∧ leastN (mirD D) (rs.map (mirRep D)) ≤ m ↔ leastErr D rs = 0 ∧ leastN D rs ≤ m) := fun m hm => by
    rw [least_iff hM hm, least_iff hS hm]
    have := hways (fun _ => True) m
    simpa using this
  have hc1 := leastErr_cases hS
  have hc2 := leastErr_cases hM
  have hz : ∀ (D : SeaD) (rs : List Rep), leastErr D rs ≠ 0 → leastN D rs = 0 := fun D rs h => by unfold leastN; rw [if_pos h]
  have z1 := hz D rs
  have z2 := hz (mirD D) (rs.map (mirRep D))
  have hcan1 := fun c => can_iff hS (n := n) (h := h) (c := c) hn hh
  have hcan2 := fun c => can_iff hM (n := n) (h := h) (c := c) hn hh
  have hmem : ∀ c, c < (D.wide * D.high).toNat → (turnN D c ∈ canF (mirD D) (rs.map (mirRep D)) n h.toNat ↔ c ∈ canF D rs n h.toNat) := fun c hc => by
    rw [(hcan1 c).2.2, (hcan2 (turnN D c)).2.2, ← hways (fun x => x = c) n]
    have ht := turnN_ok hW hc
    constructor
    · rintro ⟨T, hT, e, hcT⟩
      exact ⟨T, hT, by rw [e]; exact ht.2.2, hcT⟩
    · rintro ⟨T, hT, e, hcT⟩
      have hlt := ((mir_open hW).mp (hT.1 h.toNat (Nat.zero_le _) (show h.toNat < D.hours.toNat by omega))).1
      refine ⟨T, hT, ?_, hcT⟩
      have h3 := (turnN_ok hW hlt).2.2
      rw [e] at h3
      exact h3.symm
  have hl1 : ∀ c ∈ canF D rs n h.toNat, c < (D.wide * D.high).toNat := fun c hc => canF_lt hc
  have hl2 : ∀ c ∈ canF (mirD D) (rs.map (mirRep D)) n h.toNat, c < (D.wide * D.high).toNat := fun c hc => canF_lt (D := mirD D) hc
  have hinj : ∀ (l : List Nat), (∀ c ∈ l, c < (D.wide * D.high).toNat) → l.Nodup → (l.map (turnN D)).Nodup := fun l hl hn => by
    induction l with
    | nil => exact List.nodup_nil
    | cons a l ih =>
      have hn2 := List.nodup_cons.mp hn
      rw [List.map_cons]
      refine List.nodup_cons.mpr ⟨fun hm => ?_, ih (fun c hc => hl c (List.mem_cons_of_mem _ hc)) hn2.2⟩
      obtain ⟨b, hb, e⟩ := List.mem_map.mp hm
      have h1 := (turnN_ok hW (hl a (List.mem_cons_self ..))).2.2
      have h2 := (turnN_ok hW (hl b (List.mem_cons_of_mem _ hb))).2.2
      rw [← e, h2] at h1
      exact hn2.1 (by rw [← h1]; exact hb)
  have hlen : (canF (mirD D) (rs.map (mirRep D)) n h.toNat).length = (canF D rs n h.toNat).length := by
    have a := sub_len (hinj _ hl1 (canF_nodup D rs n h.toNat)) (m := canF (mirD D) (rs.map (mirRep D)) n h.toNat) (fun x hx => by
      obtain ⟨c, hc, rfl⟩ := List.mem_map.mp hx
      exact (hmem c (hl1 c hc)).mpr hc)
    have b := sub_len (hinj _ hl2 (canF_nodup (mirD D) (rs.map (mirRep D)) n h.toNat)) (m := canF D rs n h.toNat) (fun x hx => by
      obtain ⟨c, hc, rfl⟩ := List.mem_map.mp hx
      have ht := turnN_ok hW (hl2 c hc)
      refine (hmem _ ht.2.1).mp ?_
      rw [ht.2.2]; exact hc)
    rw [List.length_map] at a b
    omega
  refine ⟨by rw [(hcan1 0).1, (hcan2 0).1, hlen], ?_, ?_, by rw [(hcan1 0).2.1, (hcan2 0).2.1, hlen], fun c hc => ?_⟩
  · rcases hc1 with ⟨e1, f1⟩ | ⟨e1, f1, g1⟩ <;> rcases hc2 with ⟨e2, f2⟩ | ⟨e2, f2, g2⟩
    · rw [e1, e2]
    · have := (hleast (fewestF (mirD D) (rs.map (mirRep D))) f2).mp ⟨e2, by omega⟩
      omega
    · have := (hleast (fewestF D rs) f1).mpr ⟨e1, by omega⟩
      omega
    · rw [e1, e2]
  · rcases hc1 with ⟨e1, f1⟩ | ⟨e1, f1, g1⟩ <;> rcases hc2 with ⟨e2, f2⟩ | ⟨e2, f2, g2⟩
    · rw [z1 (by omega), z2 (by omega)]
    · have := (hleast (fewestF (mirD D) (rs.map (mirRep D))) f2).mp ⟨e2, by omega⟩
      omega
    · have := (hleast (fewestF D rs) f1).mpr ⟨e1, by omega⟩
      omega
    · have a := (hleast (fewestF (mirD D) (rs.map (mirRep D))) f2).mp ⟨e2, by omega⟩
      have b := (hleast (fewestF D rs) f1).mpr ⟨e1, by omega⟩
      omega
  · rw [(hcan1 0).2.1] at hc
    rw [(hcan2 0).2.1]
    exact ⟨hl1 c hc, (hmem c (hl1 c hc)).mpr hc⟩
end Go.Proofs.Ytlgcnjcbmihefaa
