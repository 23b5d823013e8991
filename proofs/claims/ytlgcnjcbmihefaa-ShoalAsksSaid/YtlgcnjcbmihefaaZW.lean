/- Proved: for every sea of data with its reports, every list of casts and every two integers, however large or senseless, the law that compares the next cast and the sure casts with the reference returns true and leaves its arguments as they were. No condition beyond those of the given row. -/
import Derived.Test.YtlgcnjcbmihefaaZS
import Derived.Test.YtlgcnjcbmihefaaXD
import Derived.Test.YtlgcnjcbmihefaaYK
set_option linter.unusedSimpArgs false
set_option linter.unusedVariables false
namespace Go.Proofs.Ytlgcnjcbmihefaa
open Go Go.RowKit Go.Shelf

theorem befL_tr : ∀ {a b c : List Nat}, befL a b = true → befL b c = true → befL a c = true
  | [], [], _, h, _ => by cases h
  | [], _ :: _, [], _, h => by cases h
  | [], _ :: _, _ :: _, _, _ => rfl
  | _ :: _, [], _, h, _ => by cases h
  | _ :: _, _ :: _, [], _, h => by cases h
  | x :: a, y :: b, z :: c, h1, h2 => by
    unfold befL at h1 h2 ⊢
    by_cases e1 : x = y
    · subst e1
      rw [if_pos rfl] at h1
      by_cases e2 : x = z
      · subst e2
        rw [if_pos rfl] at h2 ⊢
        exact befL_tr h1 h2
      · rw [if_neg e2] at h2 ⊢
        exact h2
    · rw [if_neg e1, decide_eq_true_eq] at h1
      by_cases e2 : y = z
      · subst e2
        rw [if_neg e1, decide_eq_true_eq]
        exact h1
      · rw [if_neg e2, decide_eq_true_eq] at h2
        rw [if_neg (by omega), decide_eq_true_eq]
        omega
theorem befL_same : ∀ {a b : List Nat}, a.length = b.length → befL a b = false → befL b a = false → a = b
  | [], [], _, _, _ => rfl
  | [], _ :: _, h, _, _ => by simp at h
  | _ :: _, [], h, _, _ => by simp at h
  | x :: a, y :: b, h, h1, h2 => by
    unfold befL at h1 h2
    by_cases e : x = y
    · subst e
      rw [if_pos rfl] at h1 h2
      rw [befL_same (by simpa using h) h1 h2]
    · rw [if_neg e, decide_eq_false_iff_not] at h1
      rw [if_neg (fun h => e h.symm), decide_eq_false_iff_not] at h2
      omega
/-- All rising lists of so many numbers. -/
def subsFrom : Nat → Nat → List (List Nat)
  | 0, _ => [[]]
  | m + 1, k => subsFrom m (k + 1) ++ (subsFrom m (k + 1)).map (k :: ·)
theorem subsFrom_mem : ∀ (m k : Nat) (t : List Nat), rises (k + m) k t → t ∈ subsFrom m k
  | 0, k, [], _ => List.mem_singleton.mpr rfl
  | 0, k, a :: az, h => by have := h.1; have := h.2.1; omega
  | m + 1, k, [], _ => List.mem_append.mpr (.inl (subsFrom_mem m (k + 1) [] trivial))
  | m + 1, k, a :: az, h => by
    by_cases e : a = k
    · subst e
      refine List.mem_append.mpr (.inr (List.mem_map.mpr ⟨az, subsFrom_mem m (a + 1) az ?_, rfl⟩))
      rw [show a + 1 + m = a + (m + 1) by omega]
      exact h.2.2
    · refine List.mem_append.mpr (.inl (subsFrom_mem m (k + 1) (a :: az) ?_))
      rw [show k + 1 + m = k + (m + 1) by omega]
      have h1 := h.1
      exact ⟨by omega, h.2⟩
def maskOf (t : List Nat) : Nat := t.foldl (fun a i => a + 2 ^ i) 0
theorem mask_all : ((List.range 9).all fun n => (subsFrom n 0).all fun t => (membersF (maskOf t : Nat) n == t) && decide (maskOf t < 2 ^ n) && (t.length == 0 || decide (1 ≤ maskOf t))) = true := by kernel_rfl
theorem mask_of {n : Nat} (h : n ≤ 8) {t : List Nat} (ht : rises n 0 t) : membersF (maskOf t : Nat) n = t ∧ maskOf t < 2 ^ n ∧ (t ≠ [] → 1 ≤ maskOf t) := by
  have h1 := List.all_eq_true.mp mask_all n (List.mem_range.mpr (by omega))
  have h2 := List.all_eq_true.mp h1 t (subsFrom_mem n 0 t (by rw [Nat.zero_add]; exact ht))
  rw [Bool.and_eq_true, Bool.and_eq_true, Bool.or_eq_true, decide_eq_true_eq, decide_eq_true_eq, beq_iff_eq, beq_iff_eq] at h2
  exact ⟨h2.1.1, h2.1.2, fun hn => h2.2.resolve_left (fun h => hn (List.eq_nil_of_length_eq_zero h))⟩
/-- Whether a set of casts is taken in place of the best so far. -/
def takesB (D : SeaD) (cs : List Cst) (l own b : List Nat) : Bool := meetsB D cs own l && (decide (b.length = 0) || decide (own.length < b.length) || (decide (own.length = b.length) && befL own b))
def bestF (D : SeaD) (cs : List Cst) (l : List Nat) : Nat → List Nat
  | 0 => []
  | s + 1 => if takesB D cs l (membersF ((s + 1 : Nat) : Int) cs.length) (bestF D cs l s) then membersF ((s + 1 : Nat) : Int) cs.length else bestF D cs l s
theorem meets_nil {D : SeaD} {cs : List Cst} {l : List Nat} (hl : l.length ≠ 0) : meetsB D cs [] l = false := by
  cases l with
  | nil => exact absurd rfl hl
  | cons a az => unfold meetsB; simp
theorem best_inv {D : SeaD} {cs : List Cst} {l : List Nat} (hl : l.length ≠ 0) : ∀ s,
    (bestF D cs l s = [] → ∀ t : Nat, 1 ≤ t → t ≤ s → meetsB D cs (membersF t cs.length) l = false) ∧
    (bestF D cs l s ≠ [] → rises cs.length 0 (bestF D cs l s) ∧ meetsB D cs (bestF D cs l s) l = true ∧ ∀ t : Nat, 1 ≤ t → t ≤ s → meetsB D cs (membersF t cs.length) l = true → (bestF D cs l s).length ≤ (membersF t cs.length).length ∧ ((membersF t cs.length).length = (bestF D cs l s).length → befL (membersF t cs.length) (bestF D cs l s) = false))
  | 0 => ⟨fun _ t h1 h2 => by omega, fun h => absurd rfl h⟩
  | s + 1 => by
    have ih := best_inv (D := D) (cs := cs) hl s
    rw [bestF]
    generalize hown : membersF ((s + 1 : Nat) : Int) cs.length = own at *
    have hor : rises cs.length 0 own := by rw [← hown]; exact membersF_rises _ _
    generalize bestF D cs l s = b at *
    cases ht : takesB D cs l own b with
    | true =>
      rw [if_pos rfl]
      unfold takesB at ht
      rw [Bool.and_eq_true, Bool.or_eq_true, Bool.or_eq_true, Bool.and_eq_true, decide_eq_true_eq, decide_eq_true_eq, decide_eq_true_eq] at ht
      obtain ⟨hm, hlt⟩ := ht
      have hne : own ≠ [] := fun e => by rw [e, meets_nil hl] at hm; cases hm
      refine ⟨fun e => absurd e hne, fun _ => ⟨hor, hm, fun t h1 h2 hmt => ?_⟩⟩
      by_cases e : t = s + 1
      · subst e
        rw [hown]
        exact ⟨Nat.le_refl _, fun _ => befL_irrefl _⟩
      · by_cases hb : b = []
        · rw [ih.1 hb t h1 (by omega)] at hmt; cases hmt
        · obtain ⟨_, _, hmin⟩ := ih.2 hb
          obtain ⟨k1, k2⟩ := hmin t h1 (by omega) hmt
          rcases hlt with (h0 | h0) | h0
          · exact absurd (List.eq_nil_of_length_eq_zero h0) hb
          · exact ⟨by omega, fun e => by omega⟩
          · refine ⟨by omega, fun e => ?_⟩
            cases hbt : befL (membersF t cs.length) own with
            | false => rfl
            | true => rw [befL_tr hbt h0.2] at k2; exact absurd (k2 (by omega)) (by simp)
    | false =>
      rw [if_neg (by simp)]
      unfold takesB at ht
      refine ⟨fun hb t h1 h2 => ?_, fun hb => ?_⟩
      · by_cases e : t = s + 1
        · subst e
          rw [hown]
          cases hm : meetsB D cs own l with
          | false => rfl
          | true => rw [hm, hb] at ht; simp at ht
        · exact ih.1 hb t h1 (by omega)
      · obtain ⟨i1, i2, hmin⟩ := ih.2 hb
        refine ⟨i1, i2, fun t h1 h2 hmt => ?_⟩
        by_cases e : t = s + 1
        · subst e
          rw [hown] at hmt ⊢
          rw [hmt, Bool.true_and, Bool.or_eq_false_iff, Bool.or_eq_false_iff, decide_eq_false_iff_not, decide_eq_false_iff_not, Bool.and_eq_false_iff, decide_eq_false_iff_not] at ht
          refine ⟨by omega, fun e => ?_⟩
          rcases ht.2 with h | h
          · exact absurd e h
          · exact h
        · exact hmin t h1 (by omega) hmt
theorem best_last {D : SeaD} {cs : List Cst} {l : List Nat} (hl : l.length ≠ 0) (h8 : cs.length ≤ 8) : bestF D cs l (2 ^ cs.length - 1) = (fcF D cs (placesOf D l)).getD [] := by
  obtain ⟨b1, b2⟩ := best_inv (D := D) (cs := cs) hl (2 ^ cs.length - 1)
  have hpl : placesOf D l ≠ [] := fun e => hl (by unfold placesOf at e; simpa using e)
  cases hf : fcF D cs (placesOf D l) with
  | none =>
    by_cases hb : bestF D cs l (2 ^ cs.length - 1) = []
    · rw [hb]; rfl
    · obtain ⟨i1, i2, _⟩ := b2 hb
      rw [fcF_G] at hf
      exact absurd (meetsB_cover.mp i2) (fcG_none _ _ hf hpl _ i1)
  | some f =>
    rw [fcF_G] at hf
    obtain ⟨h1, h2, h3⟩ := fcG_some _ _ hf hpl
    have h2' := meetsB_cover.mpr h2
    have hfne : f ≠ [] := fun e => by rw [e, meets_nil hl] at h2'; cases h2'
    obtain ⟨m1, m2, m3⟩ := mask_of h8 h1
    have hge := m3 hfne
    by_cases hb : bestF D cs l (2 ^ cs.length - 1) = []
    · have := b1 hb (maskOf f) hge (by omega)
      rw [m1, h2'] at this
      cases this
    · obtain ⟨i1, i2, hmin⟩ := b2 hb
      have hm := hmin (maskOf f) hge (by omega) (by rw [m1]; exact h2')
      rw [m1] at hm
      have hs := h3 _ i1 (meetsB_cover.mp i2)
      show _ = f
      exact befL_same (by omega) (hs.2 (by omega)) (hm.2 (by omega))

set_option maxRecDepth 100000 in
set_option maxHeartbeats 2000000 in
theorem all_ref (D : SeaD) (cs : List Cst) (lv dv cv v2 v3 : Value) (sm cells : List Nat) (w : World) (hcv : CastsAt w cv cs) (h2 : NatsAt w v2 sm) (h3 : NatsAt w v3 cells) (hw : 1 ≤ D.wide ∧ D.wide ≤ 10)
    (hcs : ∀ c ∈ cs, 0 ≤ c.cell ∧ c.cell ≤ 1000) (hsm : ∀ i ∈ sm, i < cs.length) (hce : ∀ c ∈ cells, c < 1000) (hl2 : sm.length ≤ 1000) (hl3 : cells.length ≤ 1000) :
    Cal 70 #[seaVal D lv dv, cv, v2, v3] w fun e w' => e = .returned (.bool (meetsB D cs sm cells)) ∧ Ext w w' := by
  unfold seaVal
  obtain ⟨ca, ccap, rfl, hcl, hcc⟩ := hcv
  obtain ⟨sa, scap, rfl, hsc⟩ := h2
  obtain ⟨la, lcap, rfl, hlc⟩ := h3
  have HCC := hid hcc
  have HSC := hid hsc
  have HLC := hid hlc
  have HCS := hid hcs
  have HSM := hid hsm
  have HCE := hid hce
  have HW := hid hw
  clear hcc hsc hlc hcs hsm hce hw
  gi_enter Try.func70, Try.ntmps70
  have HBX : Hid ((w.alloc (.cells #[.int .i64 D.wide, .int .i64 D.high, lv, .int .i64 D.hours, dv, .int .i64 D.speed] 25)).heap[w.heap.size]? = some (.cells #[.int .i64 D.wide, .int .i64 D.high, lv, .int .i64 D.hours, dv, .int .i64 D.speed] 25 (0, 0))) := Ext.new (Ext.refl _)
  have HX0 : Hid (Ext w (w.alloc (.cells #[.int .i64 D.wide, .int .i64 D.high, lv, .int .i64 D.hours, dv, .int .i64 D.speed] 25))) := (Ext.refl w).alloc _
  gi_wp2_with fail
  generalize w.alloc (.cells #[.int .i64 D.wide, .int .i64 D.high, lv, .int .i64 D.hours, dv, .int .i64 D.speed] 25) = w1 at *
  gi_loopw [9] (fun i wr => ∃ k : Nat, k ≤ cells.length ∧ i = .int .i64 k ∧ Hid ((cells.take k).all (fun c => sm.any fun i => covB D (cs.getD i ⟨0, 0⟩) c) = true) ∧ Ext w1 wr) (fun i _ => cells.length - (intOf i).toNat)
  case atStart => exact ⟨0, Nat.zero_le _, rfl, rfl, Ext.refl _⟩
  case round =>
    obtain ⟨k, hk, rfl, hall, hx⟩ := hrel
    by_cases hlt : k < cells.length
    · obtain ⟨lg, rfl, hlg, hlcell⟩ := HLC.out k hlt
      have hc1 := HCE.out cells[k] (List.getElem_mem _)
      have HAT := hid (all_take (fun c => sm.any fun i => covB D (cs.getD i ⟨0, 0⟩) c) cells k hlt)
      have HIN : Hid (meetsB D cs sm cells = true → sm.any (fun i => covB D (cs.getD i ⟨0, 0⟩) cells[k]) = true) := fun h => List.all_eq_true.mp h _ (List.getElem_mem _)
      have HALL := hid hall.out
      have HX := hid hx
      have HLG := hid (And.intro hlg hlcell)
      clear hall hx hlg hlcell
      have HCK := hid hc1
      generalize cells[k] = ce at *
      gi_wp2_with fail
      gi_loopw [10, 11] (fun b j u => ∃ j' : Nat, j' ≤ sm.length ∧ b = .bool ((sm.take j').any fun i => covB D (cs.getD i ⟨0, 0⟩) ce) ∧ j = .int .i64 j' ∧ Ext w1 u) (fun _ j _ => sm.length - (intOf j).toNat)
      case atStart => exact ⟨0, Nat.zero_le _, rfl, rfl, HX.out⟩
      case round =>
        obtain ⟨j, hj, rfl, rfl, hxu⟩ := hrel
        by_cases hlj : j < sm.length
        · obtain ⟨sg, rfl, hsg, hscell⟩ := HSC.out j hlj
          have hsj := HSM.out sm[j] (List.getElem_mem _)
          obtain ⟨cb, coff, rfl, hcbl, hcc0, hcc1⟩ := HCC.out sm[j] hsj
          have hci := HCS.out cs[sm[j]] (List.getElem_mem _)
          have HTK := hid (any_take (fun i => covB D (cs.getD i ⟨0, 0⟩) ce) sm j hlj)
          have hcov : covB D (cs.getD sm[j] ⟨0, 0⟩) ce = decide (dist (col (seaOf D) cs[sm[j]].cell) (row (seaOf D) cs[sm[j]].cell) (col (seaOf D) (ce : Nat)) (row (seaOf D) (ce : Nat)) ≤ cs[sm[j]].far) := by rw [getD_of hsj]; rfl
          have hxa := fun e : Later wr => (HX0.out.trans (Ext.trans hxu e.grown))
          have HC := hid fun e : Later wr => And.intro (cell_of ((Ext.trans hxu e.grown).block HBX.out)) (And.intro (((hxa e).cell (p := ⟨sg, _, none⟩) hsg).trans hscell) (And.intro (((hxa e).cell (p := ⟨cb, _, none⟩) hcbl).trans hcc0) (And.intro (((hxa e).cell (p := ⟨cb, _, none⟩) hcbl).trans hcc1) (((hxa e).cell (p := ⟨lg, _, none⟩) HLG.out.1).trans HLG.out.2))))
          have HAP := hid fun e : Later wr => covers_ref D lv dv cs[sm[j]] ce e.val HW.out hci (by have := HCK.out; omega)
          rw [seaVal] at HAP
          rw [hcov] at HTK
          have HHE := hid (show hearC D cs[sm[j]] ce = decide (dist (col (seaOf D) cs[sm[j]].cell) (row (seaOf D) cs[sm[j]].cell) (col (seaOf D) (ce : Nat)) (row (seaOf D) (ce : Nat)) ≤ cs[sm[j]].far) from rfl)
          rw [HHE.out] at HAP
          have HXU := hid hxu
          clear hcov hxa hsg hscell hcbl hcc0 hcc1 hxu
          generalize (sm.take j).any (fun i => covB D (cs.getD i ⟨0, 0⟩) ce) = acc at *
          generalize dist (col (seaOf D) cs[sm[j]].cell) (row (seaOf D) cs[sm[j]].cell) (col (seaOf D) (ce : Nat)) (row (seaOf D) (ce : Nat)) = dd at *
          generalize cs[sm[j]].cell = cc at *
          generalize cs[sm[j]].far = cf at *
          generalize sm[j] = sj at *
          cases acc with
          | true =>
            gi_wp2_with fail
            refine quiet_wide 16 (by kernel_rfl) (by kernel_rfl) ?_
            simp only [List.take_succ_cons, List.take_zero, List.drop_succ_cons, List.drop_zero]
            have q1 := HC.out
            repeat (any_goals (first | go_big_quiet_step ((go_at_call 68; with_reducible exact Cal.quiet (HAP.out _))) | quiet_step ((go_at_call 68; with_reducible exact Cal.quiet (HAP.out _)))))
            refine wpQuiet_nil ?_
            rintro w5 ⟨⟨_, hx5⟩, rfl⟩
            clear q1 HC HAP
            gi_wp2
            go_roundw
            case rel => exact ⟨j + 1, by omega, by rw [HTK.out]; rfl, by go_num, HXU.out.trans hx5⟩
            case measure => simp [intOf]; omega
          | false =>
            cases hdc : decide (dd ≤ cf) with
            | true =>
              rw [hdc] at HTK
              gi_wp2_with fail
              refine quiet_wide 16 (by kernel_rfl) (by kernel_rfl) ?_
              simp only [List.take_succ_cons, List.take_zero, List.drop_succ_cons, List.drop_zero]
              have q1 := HC.out
              repeat (any_goals (first | go_big_quiet_step ((go_at_call 68; with_reducible exact Cal.quiet (HAP.out _))) | quiet_step ((go_at_call 68; with_reducible exact Cal.quiet (HAP.out _)))))
              refine wpQuiet_nil ?_
              rintro w5 ⟨⟨_, hx5⟩, rfl⟩
              clear q1 HC HAP
              gi_wp2
              go_roundw
              case rel => exact ⟨j + 1, by omega, by rw [HTK.out]; rfl, by go_num, HXU.out.trans hx5⟩
              case measure => simp [intOf]; omega
            | false =>
              rw [hdc] at HTK
              gi_wp2_with fail
              refine quiet_wide 16 (by kernel_rfl) (by kernel_rfl) ?_
              simp only [List.take_succ_cons, List.take_zero, List.drop_succ_cons, List.drop_zero]
              have q1 := HC.out
              repeat (any_goals (first | go_big_quiet_step ((go_at_call 68; with_reducible exact Cal.quiet (HAP.out _))) | quiet_step ((go_at_call 68; with_reducible exact Cal.quiet (HAP.out _)))))
              refine wpQuiet_nil ?_
              rintro w5 ⟨⟨_, hx5⟩, rfl⟩
              clear q1 HC HAP
              gi_wp2
              go_roundw
              case rel => exact ⟨j + 1, by omega, by rw [HTK.out]; rfl, by go_num, HXU.out.trans hx5⟩
              case measure => simp [intOf]; omega
        · obtain rfl : j = sm.length := by omega
          rw [List.take_length]
          have HXU := hid hxu
          clear hxu
          cases hm : sm.any (fun i => covB D (cs.getD i ⟨0, 0⟩) ce) with
          | true =>
            have HAT2 : Hid ((cells.take (k + 1)).all (fun c => sm.any fun i => covB D (cs.getD i ⟨0, 0⟩) c) = true) := by
              show _ = _
              rw [HAT.out, HALL.out, hm]; rfl
            gi_wp2
            go_roundw
            case rel => exact ⟨k + 1, by omega, by go_num, HAT2.out, HXU.out⟩
            case measure => simp [intOf]; omega
          | false =>
            have HF : Hid (meetsB D cs sm cells = false) := by
              show _ = _
              cases h : meetsB D cs sm cells with
              | false => rfl
              | true => have := HIN.out h; rw [hm] at this; cases this
            gi_wp2
            go_ret
            exact ⟨by rw [HF.out]; rfl, HX0.out.trans HXU.out⟩
    · obtain rfl : k = cells.length := by omega
      have HT : Hid (meetsB D cs sm cells = true) := by
        show _ = _
        have := hall.out
        rw [List.take_length] at this
        exact this
      clear hall
      gi_wp2
      go_ret
      exact ⟨by rw [HT.out]; rfl, HX0.out.trans hx⟩


theorem NatsAt.ints {w : World} {v : Value} {l : List Nat} (h : NatsAt w v l) (hl : l.length ≤ 1000000) : IntsAt w v (intsOf l) := by
  obtain ⟨a, cap, rfl, hc⟩ := h
  refine ⟨a, cap, by rw [intsOf_length], by rw [intsOf_length]; omega, fun i hi => ?_⟩
  obtain ⟨g, e, hg, hcell⟩ := hc i (by rw [intsOf_length] at hi; exact hi)
  refine ⟨g, 0, e, hg, ?_⟩
  rw [Nat.zero_add, hcell]
  simp [intsOf]
theorem NatsAt.none (w : World) : NatsAt w (.slice none 0 0) [] := ⟨_, 0, rfl, fun k hk => by simp at hk⟩
theorem canF_some {D : SeaD} {rs : List Rep} {wrong hour : Int} {cs : List Cst} (h : searchErr D rs wrong hour cs = 0) : (canF D rs wrong hour.toNat).length ≠ 0 := fun h0 => by
  unfold searchErr at h
  split at h
  · rename_i h1; exact h1 h
  · split at h
    · cases h
    · first | cases h | (rw [if_pos h0] at h; cases h)

set_option maxRecDepth 100000 in
set_option maxHeartbeats 8000000 in
theorem sure_ref (D : SeaD) (lv dv rv cv : Value) (rs : List Rep) (wrong hour : Int) (cs : List Cst) (w : World) (hl : IntsAt w lv D.land) (hd : StepsAt w dv D.drift) (hr : RepsAt w rv rs) (hc : CastsAt w cv cs) :
    Cal 30 #[seaVal D lv dv, rv, .int .i64 wrong, .int .i64 hour, cv] w fun e w' => ∃ v, e = .returned (.tuple #[v, .int .i64 (sureErr D rs wrong hour cs)]) ∧ Ext w w' ∧ Hid (NatsAt w' v (sureList D rs wrong hour cs)) := by
  have hb1 : (w.alloc (.cells #[.int .i64 D.wide, .int .i64 D.high, lv, .int .i64 D.hours, dv, .int .i64 D.speed] 25)).heap[w.heap.size]? = some (.cells #[.int .i64 D.wide, .int .i64 D.high, lv, .int .i64 D.hours, dv, .int .i64 D.speed] 25 (0, 0)) := Ext.new (Ext.refl _)
  have hx : Ext w (w.alloc (.cells #[.int .i64 D.wide, .int .i64 D.high, lv, .int .i64 D.hours, dv, .int .i64 D.speed] 25)) := (Ext.refl w).alloc _
  have HAK := hid (askC_ref D lv dv rv cv rs wrong hour cs _ (hl.mono hx) (hd.mono hx) (hr.mono hx) (hc.mono hx))
  have HSE := hid (search_cases (D := D) (rs := rs) (wrong := wrong) (hour := hour) (cs := cs))
  have HRN : Hid (searchErr D rs wrong hour cs ≠ 0 → sureErr D rs wrong hour cs = searchErr D rs wrong hour cs ∧ sureList D rs wrong hour cs = []) := fun h => ⟨if_pos h, if_pos h⟩
  have HRZ : Hid (searchErr D rs wrong hour cs = 0 → sureErr D rs wrong hour cs = (if fcF D cs (placesOf D (canF D rs wrong hour.toNat)) = none then 4 else 0) ∧ sureList D rs wrong hour cs = (fcF D cs (placesOf D (canF D rs wrong hour.toNat))).getD []) := fun h => ⟨if_neg (by rw [h]; simp), if_neg (by rw [h]; simp)⟩
  have HCN := hid fun (h : searchErr D rs wrong hour cs = 0) => canF_some h
  have hxc : ∀ e, Ext (w.alloc (.cells #[.int .i64 D.wide, .int .i64 D.high, lv, .int .i64 D.hours, dv, .int .i64 D.speed] 25)) e → CastsAt e cv cs := fun e h => hc.mono (hx.trans h)
  have HXC := hid hxc
  obtain ⟨ca, ccap, rfl, hcl, hcell⟩ := hc
  have HLN := hid fun (h : seaB D = true) => canF_len D h rs wrong hour.toNat
  have HLM : Hid (seaB D = true → ∀ c, c ∈ canF D rs wrong hour.toNat → c < 1000) := fun hsb c hc => by
    have hmb := mul_bounds (inB_spec (sea_bounds hsb).1) (inB_spec (sea_bounds hsb).2.1)
    rw [← canTo_all] at hc
    unfold canTo at hc
    have := List.mem_range.mp (List.mem_filter.mp hc).1
    omega
  unfold seaVal at HAK ⊢
  obtain ⟨E, hE⟩ : ∃ E, searchErr D rs wrong hour cs = E := ⟨_, rfl⟩
  rw [hE] at HAK HSE HRN HRZ HCN
  generalize sureErr D rs wrong hour cs = SE at *
  generalize sureList D rs wrong hour cs = SL at *
  generalize canF D rs wrong hour.toNat = L at *
  clear hl hd hr hcell hE hxc
  gi_enter Try.func30, Try.ntmps30
  gi_wp2_with fail
  generalize w.alloc (.cells #[.int .i64 D.wide, .int .i64 D.high, lv, .int .i64 D.hours, dv, .int .i64 D.speed] 25) = w1 at *
  have hcb := cell_of hb1
  have HB := hid hb1
  have HX := hid hx
  clear hb1 hx
  rcases HSE.out with rfl | rfl | rfl | rfl | rfl | ⟨rfl, hsb, hcb2⟩
  case inr.inr.inr.inr.inr =>
    have hRS := HRZ.out rfl
    have hck := casts_ok hsb hcb2
    have hw := inB_spec (sea_bounds hsb).1
    have h80 := HLN.out hsb
    have h8 := hck.1
    have HLAST := hid (best_last (D := D) (HCN.out rfl) h8)
    have HLC := hid (HLM.out hsb)
    have HCK := hid fun c (hc : c ∈ cs) => (hck.2.2 c hc).1
    have HMR := hid fun (b : Int) => And.intro (membersF_rises b cs.length) (show (membersF b cs.length).length ≤ 8 by have := rises_len (membersF_rises b cs.length); omega)
    have hne := HCN.out rfl
    clear HSE HRN HRZ HLN HLM HCN hsb hcb2 hck
    obtain ⟨hr1, rfl⟩ := hRS
    have HSEQ := hid hr1
    clear hr1
    gi_wp2_with (gi_at_call 67; ((with_reducible refine HAK.out.mono ?_); rintro e w2 ⟨vt, rfl, hx2, hvt⟩; have hcb2 := cell_of (hx2.block HB.out); have hvn := (hvt.out (by first | trivial | rfl)).nats))
    have HVN := hid hvn
    have HX2 := hid hx2
    obtain ⟨ta, tc, rfl, _⟩ := hvn
    have HCBF := hid fun (e : World) (h : Ext w2 e) => cell_of ((HX2.out.trans h).block HB.out)
    have HALL := hid fun (b : Int) (v : Value) (e : World) (h : Ext w2 e) (hv : NatsAt e v (membersF b cs.length)) => all_ref D cs lv dv _ v _ (membersF b cs.length) L e (HXC.out e (HX2.out.trans h)) hv (HVN.out.mono h) hw HCK.out (fun i hi => rises_lt (HMR.out b).1 i hi) HLC.out (by have := (HMR.out b).2; omega) (by omega)
    unfold seaVal at HALL
    clear hx2 hvt HAK
    obtain ⟨P, hP⟩ : ∃ P : Nat, 2 ^ cs.length = P := ⟨_, rfl⟩
    have hP1 : 1 ≤ P ∧ P ≤ 256 := by
      rw [← hP]
      exact ⟨Nat.one_le_two_pow, Nat.pow_le_pow_right (n := 2) (by omega) h8⟩
    have hsh : wrap64 ((2 : Int) ^ cs.length) = (P : Int) := by
      have hpc : (2 : Int) ^ cs.length = (P : Int) := by rw [← hP]; push_cast; rfl
      rw [hpc]
      exact IntWalk.wrap64_in _ ⟨by omega, by omega⟩
    rw [hP] at HLAST
    have HP := hid hP
    clear hP
    gi_loopw [14, 15] (fun v i wr => ∃ s : Nat, s + 1 ≤ P ∧ i = .int .i64 ((s : Int) + 1) ∧ Hid (NatsAt wr v (bestF D cs L s)) ∧ Ext w2 wr) (fun _ i _ => P - (intOf i).toNat)
    case atStart => exact ⟨0, by omega, rfl, NatsAt.none _, Ext.refl _⟩
    case round =>
      obtain ⟨s, hs, rfl, hnb, hxr⟩ := hrel
      have HXR := hid hxr
      have HNB := hid hnb.out
      obtain ⟨ba, bc, rfl, _⟩ := id hnb.out
      clear hxr hnb
      by_cases hlt : s + 1 < P
      · have HME := hid (Members_any ((s : Int) + 1) cs.length wr (by omega) h8)
        have hcast : ((s + 1 : Nat) : Int) = (s : Int) + 1 := by omega
        have HST : Hid (bestF D cs L (s + 1) = if takesB D cs L (membersF ((s + 1 : Nat) : Int) cs.length) (bestF D cs L s) then membersF ((s + 1 : Nat) : Int) cs.length else bestF D cs L s) := rfl
        rw [hcast] at HST
        clear hcast
        have hm8 := (HMR.out ((s : Int) + 1)).2
        have HALLs := hid (HALL.out ((s : Int) + 1))
        clear HALL HMR
        generalize membersF ((s : Int) + 1) cs.length = own at *
        generalize bestF D cs L s = b at *
        unfold takesB at HST
        cases hm : meetsB D cs own L with
        | false =>
          rw [hm] at HST HALLs
          gi_wp2_with (first | (gi_at_call 41; ((with_reducible refine HME.out.mono ?_); rintro e w3 ⟨v3, rfl, hx3, hv3⟩; have hcb3 := HCBF.out w3 (HXR.out.trans hx3); have HAL := hid (HALLs.out v3 w3 (HXR.out.trans hx3) hv3.out); obtain ⟨oa, oc, rfl, _⟩ := id hv3.out)) | (gi_at_call 70; ((with_reducible refine HAL.out.mono ?_); rintro e w4 ⟨rfl, hx4⟩)))
          all_goals try exact (undefNo (by assumption)).elim
          all_goals exact ⟨⟨s + 1, by omega, by go_num, by rw [HST.out]; exact HNB.out.mono (hx3.trans hx4), HXR.out.trans (hx3.trans hx4)⟩, by simp [intOf]; omega⟩
        | true =>
          rw [hm, Bool.true_and] at HST
          rw [hm] at HALLs
          by_cases hb0 : b.length = 0
          · rw [decide_eq_true hb0, Bool.true_or, Bool.true_or] at HST
            have d1 : ((b.length : Int) == 0) = true := by rw [beq_iff_eq]; omega
            have d1n : (b.length == 0) = true := by rw [beq_iff_eq]; omega
            clear hb0
            gi_wp2_with (first | (gi_at_call 41; ((with_reducible refine HME.out.mono ?_); rintro e w3 ⟨v3, rfl, hx3, hv3⟩; have hcb3 := HCBF.out w3 (HXR.out.trans hx3); have HAL := hid (HALLs.out v3 w3 (HXR.out.trans hx3) hv3.out); obtain ⟨oa, oc, rfl, _⟩ := id hv3.out)) | (gi_at_call 70; ((with_reducible refine HAL.out.mono ?_); rintro e w4 ⟨rfl, hx4⟩)))
            all_goals try exact (undefNo (by assumption)).elim
            all_goals exact ⟨⟨s + 1, by omega, by go_num, by rw [HST.out]; exact hv3.out.mono hx4, HXR.out.trans (hx3.trans hx4)⟩, by simp [intOf]; omega⟩
          · rw [decide_eq_false hb0, Bool.false_or] at HST
            have d1 : ((b.length : Int) == 0) = false := by rw [beq_eq_false_iff_ne]; omega
            have d1n : (b.length == 0) = false := by rw [beq_eq_false_iff_ne]; omega
            by_cases hol : own.length < b.length
            · rw [decide_eq_true hol, Bool.true_or] at HST
              have d2 : decide ((own.length : Int) < b.length) = true := by rw [decide_eq_true_eq]; omega
              have d2n : decide (own.length < b.length) = true := by rw [decide_eq_true_eq]; omega
              clear hb0 hol
              gi_wp2_with (first | (gi_at_call 41; ((with_reducible refine HME.out.mono ?_); rintro e w3 ⟨v3, rfl, hx3, hv3⟩; have hcb3 := HCBF.out w3 (HXR.out.trans hx3); have HAL := hid (HALLs.out v3 w3 (HXR.out.trans hx3) hv3.out); obtain ⟨oa, oc, rfl, _⟩ := id hv3.out)) | (gi_at_call 70; ((with_reducible refine HAL.out.mono ?_); rintro e w4 ⟨rfl, hx4⟩)))
              all_goals try exact (undefNo (by assumption)).elim
              all_goals exact ⟨⟨s + 1, by omega, by go_num, by rw [HST.out]; exact hv3.out.mono hx4, HXR.out.trans (hx3.trans hx4)⟩, by simp [intOf]; omega⟩
            · rw [decide_eq_false hol, Bool.false_or] at HST
              have d2 : decide ((own.length : Int) < b.length) = false := by rw [decide_eq_false_iff_not]; omega
              have d2n : decide (own.length < b.length) = false := by rw [decide_eq_false_iff_not]; omega
              by_cases hoe : own.length = b.length
              · rw [decide_eq_true hoe, Bool.true_and] at HST
                have d3 : ((own.length : Int) == b.length) = true := by rw [beq_iff_eq]; omega
                have d3n : (own.length == b.length) = true := by rw [beq_iff_eq]; omega
                have HBE := hid fun (e : World) (v1 v2 : Value) (h1 : NatsAt e v1 own) (h2 : NatsAt e v2 b) => Before_any v1 v2 own b e h1 h2 hoe (by omega)
                clear hb0 hol hoe
                cases hbf : befL own b with
                | true =>
                  rw [hbf] at HST HBE
                  gi_wp2_with (first | (gi_at_call 41; ((with_reducible refine HME.out.mono ?_); rintro e w3 ⟨v3, rfl, hx3, hv3⟩; have hcb3 := HCBF.out w3 (HXR.out.trans hx3); have HAL := hid (HALLs.out v3 w3 (HXR.out.trans hx3) hv3.out); obtain ⟨oa, oc, rfl, _⟩ := id hv3.out)) | (gi_at_call 70; ((with_reducible refine HAL.out.mono ?_); rintro e w4 ⟨rfl, hx4⟩)) | (gi_at_call 36; ((with_reducible refine (HBE.out w4 _ _ (hv3.out.mono hx4) (HNB.out.mono (hx3.trans hx4))).mono ?_); rintro e w5 ⟨rfl, hx5⟩)))
                  all_goals try exact (undefNo (by assumption)).elim
                  all_goals exact ⟨⟨s + 1, by omega, by go_num, by rw [HST.out]; exact hv3.out.mono (hx4.trans hx5), HXR.out.trans (hx3.trans (hx4.trans hx5))⟩, by simp [intOf]; omega⟩
                | false =>
                  rw [hbf] at HST HBE
                  gi_wp2_with (first | (gi_at_call 41; ((with_reducible refine HME.out.mono ?_); rintro e w3 ⟨v3, rfl, hx3, hv3⟩; have hcb3 := HCBF.out w3 (HXR.out.trans hx3); have HAL := hid (HALLs.out v3 w3 (HXR.out.trans hx3) hv3.out); obtain ⟨oa, oc, rfl, _⟩ := id hv3.out)) | (gi_at_call 70; ((with_reducible refine HAL.out.mono ?_); rintro e w4 ⟨rfl, hx4⟩)) | (gi_at_call 36; ((with_reducible refine (HBE.out w4 _ _ (hv3.out.mono hx4) (HNB.out.mono (hx3.trans hx4))).mono ?_); rintro e w5 ⟨rfl, hx5⟩)))
                  all_goals try exact (undefNo (by assumption)).elim
                  all_goals exact ⟨⟨s + 1, by omega, by go_num, by rw [HST.out]; exact HNB.out.mono (hx3.trans (hx4.trans hx5)), HXR.out.trans (hx3.trans (hx4.trans hx5))⟩, by simp [intOf]; omega⟩
              · rw [decide_eq_false hoe, Bool.false_and] at HST
                have d3 : ((own.length : Int) == b.length) = false := by rw [beq_eq_false_iff_ne]; omega
                have d3n : (own.length == b.length) = false := by rw [beq_eq_false_iff_ne]; omega
                clear hb0 hol hoe
                gi_wp2_with (first | (gi_at_call 41; ((with_reducible refine HME.out.mono ?_); rintro e w3 ⟨v3, rfl, hx3, hv3⟩; have hcb3 := HCBF.out w3 (HXR.out.trans hx3); have HAL := hid (HALLs.out v3 w3 (HXR.out.trans hx3) hv3.out); obtain ⟨oa, oc, rfl, _⟩ := id hv3.out)) | (gi_at_call 70; ((with_reducible refine HAL.out.mono ?_); rintro e w4 ⟨rfl, hx4⟩)))
                all_goals try exact (undefNo (by assumption)).elim
                all_goals exact ⟨⟨s + 1, by omega, by go_num, by rw [HST.out]; exact HNB.out.mono (hx3.trans hx4), HXR.out.trans (hx3.trans hx4)⟩, by simp [intOf]; omega⟩
      · have hls := HLAST.out
        rw [show P - 1 = s by omega] at hls
        rw [hls] at HNB
        rw [hls]
        have HNF := hid fun f (h : fcF D cs (placesOf D L) = some f) => fcF_ne h
        cases hf : fcF D cs (placesOf D L) with
        | none =>
          rw [hf] at HSEQ HNB
          obtain rfl : SE = 4 := HSEQ.out
          have HFF := hid hf
          clear hls hf
          gi_wp2
          all_goals exact bodyPost_ret (v := .tuple #[.slice none 0 0, .int .i64 4]) (results_tmp2 (fn := Try.f30) (t := 10) (u := 11) rfl _ _ _) rfl ⟨_, rfl, HX.out.trans (HX2.out.trans HXR.out), by rw [HFF.out]; exact NatsAt.none _⟩
        | some f =>
          rw [hf] at HSEQ HNB
          obtain rfl : SE = 0 := HSEQ.out
          have hfn := HNF.out f hf
          have HNB2 : Hid (NatsAt wr (.slice ba f.length bc) f) := HNB.out
          have d1 : ((f.length : Int) == 0) = false := by rw [beq_eq_false_iff_ne]; omega
          have HFF := hid hf
          clear hls hf HNB hfn
          gi_wp2
          all_goals exact bodyPost_ret (v := .tuple #[.slice ba f.length bc, .int .i64 0]) (results_tmp2 (fn := Try.f30) (t := 10) (u := 11) rfl _ _ _) rfl ⟨_, rfl, HX.out.trans (HX2.out.trans HXR.out), by rw [HFF.out]; exact HNB2.out⟩
  all_goals
    have hRS := HRN.out (by decide)
    clear HSE HRN HRZ HLN HLM HCN
    obtain ⟨rfl, rfl⟩ := hRS
    gi_wp2_with (gi_at_call 67; ((with_reducible refine HAK.out.mono ?_); rintro e w2 ⟨vt, rfl, hx2, hvt⟩))
    exact bodyPost_ret (v := .tuple #[.slice none 0 0, _]) (results_tmp2 (fn := Try.f30) (t := 10) (u := 11) rfl _ _ _) rfl ⟨_, rfl, HX.out.trans hx2, NatsAt.none _⟩
end Go.Proofs.Ytlgcnjcbmihefaa

namespace Go.Proofs.Ytlgcnjcbmihefaa
open Go Go.RowKit Go.Shelf

theorem sureList_len {D : SeaD} {rs : List Rep} {wrong hour : Int} {cs : List Cst} : (sureList D rs wrong hour cs).length ≤ 8 := by
  unfold sureList
  split
  · simp
  · rename_i h
    have h0 : searchErr D rs wrong hour cs = 0 := by
      by_cases e : searchErr D rs wrong hour cs = 0
      · exact e
      · exact absurd e h
    have hne := canF_some h0
    rcases search_cases (D := D) (rs := rs) (wrong := wrong) (hour := hour) (cs := cs) with h1 | h1 | h1 | h1 | h1 | h1
    all_goals first | omega | skip
    have h8 := (casts_ok h1.2.1 h1.2.2).1
    cases hf : fcF D cs (placesOf D (canF D rs wrong hour.toNat)) with
    | none => simp
    | some f =>
      rw [fcF_G] at hf
      have := rises_len (fcG_some _ _ hf (fun e => hne (by unfold placesOf at e; simpa using e))).1
      show f.length ≤ 8
      omega

set_option maxRecDepth 100000 in
set_option maxHeartbeats 8000000 in
theorem ShoalAsks_any (D : SeaD) (rs : List Rep) (cs : List Cst) (n0 n1 : Int) (v0 v2 : Value) (w : World) (h0 : SearchAt w v0 D rs) (h2 : CastsAt w v2 cs) :
    Cal 6 #[v0, .agg #[.int .i64 n0, .int .i64 n1], v2] w fun e w' => e = .returned (.bool true) ∧ Ext w w' := by
  obtain ⟨lv, dv, rv, rfl, hl, hd, hr⟩ := h0
  have hx : Ext w ((w.alloc (.cells #[.int .i64 D.wide, .int .i64 D.high, lv, .int .i64 D.hours, dv, .int .i64 D.speed, rv] 28)).alloc (.cells #[.int .i64 n0, .int .i64 n1] 38)) := ((Ext.refl w).alloc _).alloc _
  have hb1 : ((w.alloc (.cells #[.int .i64 D.wide, .int .i64 D.high, lv, .int .i64 D.hours, dv, .int .i64 D.speed, rv] 28)).alloc (.cells #[.int .i64 n0, .int .i64 n1] 38)).heap[w.heap.size]? = some (.cells #[.int .i64 D.wide, .int .i64 D.high, lv, .int .i64 D.hours, dv, .int .i64 D.speed, rv] 28 (0, 0)) := two_new
  have hb2 : ((w.alloc (.cells #[.int .i64 D.wide, .int .i64 D.high, lv, .int .i64 D.hours, dv, .int .i64 D.speed, rv] 28)).alloc (.cells #[.int .i64 n0, .int .i64 n1] 38)).heap[w.heap.size + 1]? = some (.cells #[.int .i64 n0, .int .i64 n1] 38 (0, 0)) := by
    have := Ext.new (w := w.alloc (.cells #[.int .i64 D.wide, .int .i64 D.high, lv, .int .i64 D.hours, dv, .int .i64 D.speed, rv] 28)) (o := .cells #[.int .i64 n0, .int .i64 n1] 38) (Ext.refl _)
    simpa using this
  have HL := hid (hl.mono hx)
  have HD := hid (hd.mono hx)
  have HR := hid (hr.mono hx)
  have HCS := hid (h2.mono hx)
  have HX := hid hx
  have HB1 := hid hb1
  have HB2 := hid hb2
  clear hl hd hr hx hb1 hb2 h2
  gi_enter Try.func6, Try.ntmps6
  gi_wp2_with fail
  generalize (w.alloc (.cells #[.int .i64 D.wide, .int .i64 D.high, lv, .int .i64 D.hours, dv, .int .i64 D.speed, rv] 28)).alloc (.cells #[.int .i64 n0, .int .i64 n1] 38) = w0 at *
  have HN1 := hid (Next_any D lv dv rv v2 rs n0 n1 cs w0 HL.out HD.out HR.out HCS.out)
  have HN2 := hid fun (e : World) (hx : Ext w0 e) => next_ref D lv dv rv v2 rs n0 n1 cs e (HL.out.mono hx) (HD.out.mono hx) (HR.out.mono hx) (HCS.out.mono hx)
  have HS1 := hid fun (e : World) (hx : Ext w0 e) => Sure_any D lv dv rv v2 rs n0 n1 cs e (HL.out.mono hx) (HD.out.mono hx) (HR.out.mono hx) (HCS.out.mono hx)
  have HS2 := hid fun (e : World) (hx : Ext w0 e) => sure_ref D lv dv rv v2 rs n0 n1 cs e (HL.out.mono hx) (HD.out.mono hx) (HR.out.mono hx) (HCS.out.mono hx)
  have HCB := hid fun (e : World) (hx : Ext w0 e) => And.intro (cell_of (hx.block HB1.out)) (cell_of (hx.block HB2.out))
  rw [seaVal] at HN1 HN2 HS1 HS2
  have hlen := sureList_len (D := D) (rs := rs) (wrong := n0) (hour := n1) (cs := cs)
  generalize sureList D rs n0 n1 cs = lc at *
  generalize sureErr D rs n0 n1 cs = ec at *
  generalize searchErr D rs n0 n1 cs = en at *
  generalize nextRes D rs n0 n1 cs = nr at *
  obtain ⟨na, nb⟩ := nr
  simp only at HN1 HN2
  have hcb0 := HCB.out w0 (Ext.refl _)
  gi_wp2_with (first | (gi_at_call 27; ((with_reducible refine HN1.out.mono ?_); rintro e w1 ⟨rfl, hx1⟩; have hcb1 := HCB.out w1 hx1; have HN22 := hid (HN2.out w1 hx1))) | (gi_at_call 28; ((with_reducible refine HN22.out.mono ?_); rintro e w2 ⟨rfl, hx2⟩; have HX12 := hid (hx1.trans hx2); have hcb2 := HCB.out w2 HX12.out; have HS11 := hid (HS1.out w2 HX12.out))) | (gi_at_call 29; ((with_reducible refine HS11.out.mono ?_); rintro e w3 ⟨v3, rfl, hx3, hv3⟩; obtain ⟨a3, c3, rfl⟩ := hv3.out.isSliceN; have HX13 := hid (HX12.out.trans hx3); have hcb3 := HCB.out w3 HX13.out; have HS22 := hid (HS2.out w3 HX13.out))) | (gi_at_call 30; ((with_reducible refine HS22.out.mono ?_); rintro e w4 ⟨v4, rfl, hx4, hv4⟩; obtain ⟨a4, c4, rfl, _⟩ := id hv4.out; have HX14 := hid (HX13.out.trans hx4); have HSM := hid (same_ref (.slice a3 lc.length c3) (.slice a4 lc.length c4) (intsOf lc) w4 ((hv3.out.mono hx4).ints (by omega)) (hv4.out.ints (by omega))))) | (gi_at_call 21; ((with_reducible refine HSM.out.mono ?_); rintro e w5 ⟨rfl, hx5⟩)) | (gi_at_call 22; ((with_reducible refine (works_any _).mono ?_); rintro e wz ⟨rfl, hxz⟩)))
  all_goals first | exact (undefNo (by assumption)).elim | (go_ret; exact ⟨rfl, HX.out.trans (HX14.out.trans (hx5.trans hxz))⟩)
end Go.Proofs.Ytlgcnjcbmihefaa

namespace Go.Proofs.Ytlgcnjcbmihefaa.shoalAsks
open Go Go.RowKit Go.Shelf
open Go.ChangeShapes Go.WideShapes Go.ChangeAt
open Go.Proofs.Ytlgcnjcbmihefaa

set_option maxRecDepth 100000 in
theorem lifted (os : Os) (started : os.Started) (H : Type) (enc : TypeId × Value → H) :
    ReturnsInHanded {} Try.checked os 6 .any (Rows.shoalAsksSpec.pre6 enc Try.prog Try.f6 Rows.shoalAsksRow.domain false) (Rows.shoalAsksSpec.post enc Try.prog Try.f6 false true false false) := by
  refine returnsInHanded_of_change_sized (C := Try.checked) own started (by kernel_rfl) Try.func6
    (ChangeSpec.witness6 (enc := enc) (C := Try.checked) false ⟨#[], #[.agg #[.int .i64 0, .int .i64 0, .slice none 0 0, .int .i64 0, .slice none 0 0, .int .i64 0, .slice none 0 0], .agg #[.int .i64 0, .int .i64 0], .slice none 0 0], []⟩ 8 (by kernel_rfl) (by kernel_rfl) (by kernel_rfl) (by kernel_rfl)) ?_
  intro W base args ds gs before hval0 hW hcnd hsz0 _
  have hval : ∀ (j : Nat) t v, Try.f6.params[j]? = some t → args[j]? = some v → Value.okWide Try.prog W .any base t v := hval0
  have hsz : (DataW.weightsEach Try.prog (Try.f6.params.toList ++ Rows.shoalAsksSpec.plain.varTypes Try.prog) (ds ++ gs)).all (· ≤ reachBytes) = true := hsz0
  have hW' := hW
  obtain ⟨p, q, hA0, hV, rfl, hfz, hnd⟩ := hW
  have hA : DataW.TrodAll enc Try.prog W 0 (fun _ => true) true Try.f6.params.toList args.toList ds p := hA0
  rw [Try.params6] at hA hval hsz
  obtain ⟨v0, vs0, d0, ds0, p0, q0, hargs, rfl, rfl, h0, r0⟩ := trodAll_cons hA
  obtain ⟨v1, vs1, d1, ds1, p1, q1, rfl, rfl, rfl, h1, r1⟩ := trodAll_cons r0
  obtain ⟨v2, vs2, d2, ds2, p2, q2, rfl, rfl, rfl, h2, r2⟩ := trodAll_cons r1
  obtain ⟨rfl, rfl, rfl⟩ := trodAll_nil r2
  obtain rfl : args = #[v0, v1, v2] := by cases args; simp_all
  obtain ⟨rfl, rfl⟩ := trodVars_none hV
  have k0 := h0
  have k1 := h1
  have k2 := h2
  have lt0 : ∀ x ∈ p0, x.block < W.heap.size := by obtain ⟨m, hm⟩ := k0; exact DataW.trod_lt m _ _ _ hm
  have lt1 : ∀ x ∈ p1, x.block < W.heap.size := by obtain ⟨m, hm⟩ := k1; exact DataW.trod_lt m _ _ _ hm
  have lt2 : ∀ x ∈ p2, x.block < W.heap.size := by obtain ⟨m, hm⟩ := k2; exact DataW.trod_lt m _ _ _ hm
  obtain ⟨D, rs, hs⟩ := search_open (hval 0 28 v0 rfl rfl) h0 (weights_of hsz 0 rfl rfl)
  obtain ⟨n0, n1, rfl, wf0, wf1⟩ := nums2_open (hval 1 38 v1 rfl rfl) h1
  obtain ⟨cs, hc⟩ := casts_arg (hval 2 44 v2 rfl rfl) h2 (weights_of hsz 2 rfl rfl)
  clear hA0 hval0
  refine (ShoalAsks_any D rs cs n0 n1 v0 v2 W hs hc).calls.mono fun e W' ⟨he, bel⟩ => ?_
  subst he
  exact ⟨_, rfl, _, _, _, [], _, [], hW', trodAll_mk1 (shut_bool Try.underlying4 _), (trodAll_cons_mk (Below.trod laidOut (by kernel_rfl) (of_decide_eq_true (by kernel_rfl)) k0 bel lt0) (trodAll_cons_mk (Below.trod laidOut (by kernel_rfl) (of_decide_eq_true (by kernel_rfl)) k1 bel lt1) (trodAll_cons_mk (Below.trod laidOut (by kernel_rfl) (of_decide_eq_true (by kernel_rfl)) k2 bel lt2) trodAll_mk0))), rfl, bel.frame _, fun h => by cases h⟩

theorem over : Rows.shoalAsksRow.holds Try.pinned (OpenSpec.ofChange Rows.shoalAsksSpec) :=
  OpenClaim.holds_of_wide 6 Try.f6 rfl rfl rfl rfl rfl rfl rfl ⟨rfl, rfl, rfl, rfl, rfl⟩ rfl rfl rfl rfl rfl (by kernel_rfl) Try.func6 (by kernel_rfl)
    (of_decide_eq_true (by kernel_rfl)) (by unfold Func.isWrapper; rw [if_neg (of_decide_eq_false (by kernel_rfl))]; exact ⟨rfl, rfl⟩)
    (fun os started H enc _ => lifted os started H enc)

theorem proved : Rows.ShoalAsksSaid := over
end Go.Proofs.Ytlgcnjcbmihefaa.shoalAsks
