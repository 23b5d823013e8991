/- The reference: a voyage is valid. -/
import Derived.Test.YtjocoadhalimjaaGreatRBW
set_option linter.unusedSimpArgs false
set_option linter.unusedVariables false
namespace Go.Proofs.YtjocoadhalimjaaGreat
section
open Go Go.RowKit Go.Shelf

theorem back_or {b : Int} {l : List Stk} (h : 0 ≤ sumW l) : (b == back b l) = (decide (b = 0) || decide (0 < sumW l)) := by
  unfold back
  rw [Bool.eq_iff_iff, beq_iff_eq, Bool.or_eq_true, decide_eq_true_eq, decide_eq_true_eq]
  split
  · omega
  · constructor
    · intro _; omega
    · intro _; rfl
theorem sumW_pos {l : List Stk} (h : stakesB l = true) : 0 ≤ sumW l := by
  have h2 := (stakes_ok h).2.1
  unfold sumW
  have : ∀ (l : List Stk), (∀ s ∈ l, 0 ≤ s.weight) → 0 ≤ (l.map (·.weight)).sum := by
    intro l
    induction l with
    | nil => intro _; simp
    | cons x l ih =>
      intro h
      have h1 := h x (by simp)
      have h2 := ih fun s hs => h s (by simp [hs])
      rw [List.map_cons, List.sum_cons]
      omega
  exact this l fun s hs => (h2 s hs).2.1
theorem Sum_b (v : Value) (xs : List Int) (s : Int) (w : World) (hv : IntsAt w v xs) (hb : ∀ x ∈ xs, -1000000000 ≤ x ∧ x ≤ 1000000000) (hl : xs.length ≤ 1000) (h : xs.sum = s) : Cal 34 #[v] w fun e w' => e = .returned (.int .i64 s) ∧ w = w' := by
  subst h; exact Sum_any v xs w hv hb hl
theorem whole_b (v : Value) (l : List Stk) (s : Int) (w : World) (hv : StakesAt w v l) (hb : smallW l) (h : sumW l = s) : Cal 51 #[v] w fun e w' => e = .returned (.int .i64 s) ∧ w = w' := by
  subst h; exact whole_any v l w hv hb.1 hb.2
theorem stakes_b (v : Value) (l : List Stk) (b : Bool) (w : World) (hv : StakesAt w v l) (hn : nmOk l) (h : stakesB l = b) : Cal 50 #[v] w fun e w' => e = .returned (.bool b) ∧ Ext w w' := by
  subst h; exact stakes_any v l w hv hn
/-- The check as far as the costs. -/
def pcB (V : Voy) (k : Nat) : Bool := (inB V.gr 0 10000000 && decide (V.cs.length ≤ 10)) && allTo (fun i => inB (V.cs.getD i 0) 0 V.gr) k
theorem pcB_succ (V : Voy) (k : Nat) (h : k < V.cs.length) : pcB V (k + 1) = (pcB V k && inB V.cs[k] 0 V.gr) := by
  unfold pcB; rw [allTo_snoc, getD_of h]; simp only [Bool.and_assoc]
theorem pcB_zero (V : Voy) : pcB V 0 = (inB V.gr 0 10000000 && decide (V.cs.length ≤ 10)) := by unfold pcB allTo; simp
theorem pcB_mono {V : Voy} {k : Nat} (hk : k ≤ V.cs.length) (h : pcB V k = false) : pcB V V.cs.length = false := by
  cases h2 : pcB V V.cs.length with
  | false => rfl
  | true =>
    exfalso
    have : pcB V k = true := by
      unfold pcB allTo at h2 ⊢
      simp only [Bool.and_eq_true, List.all_eq_true, List.mem_range] at h2 ⊢
      exact ⟨h2.1, fun j hj => h2.2 j (by omega)⟩
    rw [this] at h; cases h
theorem pcB_first {V : Voy} {k : Nat} (h : pcB V k = true) : pcB V 0 = true := by
  rw [pcB_zero]
  unfold pcB at h
  rw [Bool.and_eq_true] at h
  exact h.1
theorem validV_parts (V : Voy) : validV V = (pcB V V.cs.length && (decide (V.cs.sum ≤ V.gr) && (inB V.bo 0 8 && (inB V.ne 0 8 && (inB V.cr 0 8 && ((V.bo + V.ne + V.cr == 8) && (stakesB V.ow && (stakesB V.le && (stakesB V.ha && (V.bo == back V.bo V.ow && (V.ne == back V.ne V.le && V.cr == back V.cr V.ha))))))))))) := by
  have h8 : areB 0 8 [V.bo, V.ne, V.cr] = (inB V.bo 0 8 && (inB V.ne 0 8 && inB V.cr 0 8)) := by
    rw [Bool.eq_iff_iff, areB_iff]
    simp [inB]
  have hd : decide (0 ≤ V.gr - V.cs.sum) = decide (V.cs.sum ≤ V.gr) := decide_eq_decide.2 (by omega)
  unfold validV validB pcB
  rw [h8, hd]
  unfold areB
  simp only [Bool.and_assoc]
set_option maxRecDepth 100000 in
set_option maxHeartbeats 16000000 in
theorem rvalid_any (V : Voy) (s : VS) (w : World) (h : VoyAt w V s) : Cal 57 #[.agg (voyA V s)] w fun e w' => e = .returned (.bool (validV V)) ∧ Ext w w' := by
  have HX0 : Hid (Ext w (w.alloc (.cells (voyA V s) 32))) := hid ((Ext.refl _).alloc _)
  have HB0 : Hid ((w.alloc (.cells (voyA V s) 32)).heap[w.heap.size]? = some (.cells (voyA V s) 32 (0, 0))) := hid (Ext.new (Ext.refl _))
  have HCS := hid h.cs
  have HO := hid h.ow
  have HL := hid h.le
  have HH := hid h.ha
  have HNO := hid h.no
  have HNL := hid h.nl
  have HNH := hid h.nh
  have HVP := hid (validV_parts V)
  clear h
  unfold voyA at *
  gi_enter Tryz.func57, Tryz.ntmps57
  gi_upto_region 1 with fail
  generalize w.alloc (.cells _ 32) = wa at *
  generalize w.heap.size = bx at *
  have HCL := hid (show V.cs.length ≤ 1000000000000000 by
    obtain ⟨a, c, e, h1, _⟩ := HCS.out; exact h1.2)
  have hxl := HCL.out
  obtain ⟨b0, hb0⟩ : ∃ b, pcB V 0 = b := ⟨_, rfl⟩
  have HP0 := hid hb0
  have cB := cell_of HB0.out
  cases h1 : inB V.gr 0 10000000 with
  | false =>
    have HI1 := hid h1
    have hb : b0 = false := by rw [← hb0, pcB_zero, h1]; rfl
    subst hb
    clear h1 hb0
    gi_upto_region 2 with (gi_at_call 29; (with_reducible refine (In_b V.gr 0 10000000 false _ HI1.out).mono ?_); rintro e w1 ⟨rfl, rfl⟩)
    all_goals first | exact (undef_no' ‹_›).elim | skip
    clear cB
    gi_wp2_with fail
    gi_loopw [3, 4] (fun ok i wr => ∃ k : Nat, k ≤ V.cs.length ∧ i = .int .i64 k ∧ ok = .bool (pcB V k) ∧ Hid (Ext wa wr)) (fun _ i _ => V.cs.length - (intOf i).toNat)
    case atStart => exact ⟨0, Nat.zero_le _, rfl, by rw [HP0.out], hid (Ext.refl _)⟩
    case round =>
      obtain ⟨k, hk, rfl, rfl, HX⟩ := hrel
      have HB := hid (HX.out.block HB0.out)
      have cB := cell_of HB.out
      cases hp : pcB V k with
      | false =>
        have HF : Hid (validV V = false) := hid (by rw [HVP.out, pcB_mono hk hp]; rfl)
        clear hp hk HVP
        gi_upto_region 6 with fail
        all_goals first | exact (undef_no' ‹_›).elim | skip
        clear cB
        have q0 := fun e : Later wr => cell_of (Ext.block e.grown HB.out)
        refine quiet_wide 35 (by kernel_rfl) (by kernel_rfl) ?_
        simp only [List.take_succ_cons, List.take_zero, List.drop_succ_cons, List.drop_zero]
        repeat (any_goals (first | go_big_quiet_step (fail) | quiet_step (fail)))
        refine wpQuiet_nil ?_
        rintro w5 ⟨⟨w5q, hx5⟩, hew5⟩
        obtain rfl : w5 = w5q := hew5
        have hx5 : Ext wr w5 := hx5
        clear q0
        gi_wp2_with fail
        all_goals first
          | exact (undef_no' ‹_›).elim
          | (go_ret
             exact ⟨by rw [HF.out]; rfl, HX0.out.trans (HX.out.trans hx5)⟩)
      | true =>
        exfalso
        have := pcB_first hp
        rw [HP0.out] at this
        cases this
  | true =>
    have HI1 := hid h1
    have hb : b0 = decide (V.cs.length ≤ 10) := by rw [← hb0, pcB_zero, h1]; rfl
    have hb2 : decide ((V.cs.length : Int) ≤ 10) = b0 := by rw [hb]; exact decide_eq_decide.2 (by omega)
    clear h1 hb0 hb
    gi_upto_region 2 with (gi_at_call 29; (with_reducible refine (In_b V.gr 0 10000000 true _ HI1.out).mono ?_); rintro e w1 ⟨rfl, rfl⟩)
    all_goals first | exact (undef_no' ‹_›).elim | skip
    clear hb2
    clear cB
    gi_wp2_with fail
    gi_loopw [3, 4] (fun ok i wr => ∃ k : Nat, k ≤ V.cs.length ∧ i = .int .i64 k ∧ ok = .bool (pcB V k) ∧ Hid (Ext wa wr)) (fun _ i _ => V.cs.length - (intOf i).toNat)
    case atStart => exact ⟨0, Nat.zero_le _, rfl, by rw [HP0.out], hid (Ext.refl _)⟩
    case round =>
      obtain ⟨k, hk, rfl, rfl, HX⟩ := hrel
      have HB := hid (HX.out.block HB0.out)
      have cB := cell_of HB.out
      cases hp : pcB V k with
      | false =>
        have HF : Hid (validV V = false) := hid (by rw [HVP.out, pcB_mono hk hp]; rfl)
        clear hp hk HVP
        gi_upto_region 6 with fail
        all_goals first | exact (undef_no' ‹_›).elim | skip
        clear cB
        have q0 := fun e : Later wr => cell_of (Ext.block e.grown HB.out)
        refine quiet_wide 35 (by kernel_rfl) (by kernel_rfl) ?_
        simp only [List.take_succ_cons, List.take_zero, List.drop_succ_cons, List.drop_zero]
        repeat (any_goals (first | go_big_quiet_step (fail) | quiet_step (fail)))
        refine wpQuiet_nil ?_
        rintro w5 ⟨⟨w5q, hx5⟩, hew5⟩
        obtain rfl : w5 = w5q := hew5
        have hx5 : Ext wr w5 := hx5
        clear q0
        gi_wp2_with fail
        all_goals first
          | exact (undef_no' ‹_›).elim
          | (go_ret
             exact ⟨by rw [HF.out]; rfl, HX0.out.trans (HX.out.trans hx5)⟩)
      | true =>
        by_cases hlt : k < V.cs.length
        · have hki : (k : Int) < (V.cs.length : Int) := by omega
          have HLT := hid hlt
          obtain ⟨x, bb, hbb, hps, b, off, hsa, hq⟩ : ∃ x bb, inB x 0 V.gr = bb ∧ pcB V (k + 1) = bb ∧ ∃ b off, s.ca = some ⟨b, off, none⟩ ∧ ∀ u, Ext w u → u.cell? ⟨b, off + k, none⟩ = some (.int .i64 x) := by
            obtain ⟨a1, c1, e, _, hc⟩ := HCS.out
            obtain ⟨e1, _, _⟩ := Value.slice.inj e
            obtain ⟨b, off, e2, hb, h0⟩ := hc k hlt
            exact ⟨_, _, rfl, (pcB_succ V k hlt).trans (by rw [hp]; exact Bool.true_and _), b, off, e1.trans e2, fun u hu => (hu.cell (p := ⟨b, _, none⟩) hb).trans h0⟩
          have HPS := hid hps
          have HBB := hid hbb
          have HBk := HB.out
          rw [hsa] at HBk
          have HBk := hid HBk
          have C1 := hid (fun e : Later wr => In_b x 0 V.gr bb e.1 HBB.out)
          have HQ := hid hq
          clear hp hk hlt hbb hq hps
          gi_upto_region 5 with fail
          all_goals first | exact (undef_no' ‹_›).elim | skip
          clear cB
          have q0 := fun e : Later wr => cell_of (Ext.block e.grown HBk.out)
          have q1 := fun e : Later wr => HQ.out e.1 (HX0.out.trans (HX.out.trans e.grown))
          refine quiet_wide 8 (by kernel_rfl) (by kernel_rfl) ?_
          simp only [List.take_succ_cons, List.take_zero, List.drop_succ_cons, List.drop_zero]
          repeat (any_goals (first | go_big_quiet_step ((go_at_call 29; with_reducible exact Cal.quiet_same (C1.out _))) | quiet_step ((go_at_call 29; with_reducible exact Cal.quiet_same (C1.out _)))))
          refine wpQuiet_nil ?_
          rintro w5 ⟨⟨w5q, hx5⟩, hew5⟩
          obtain rfl : w5 = w5q := hew5
          have hx5 : Ext wr w5 := hx5
          clear q0 q1
          gi_wp2_with fail
          all_goals first
            | exact (undef_no' ‹_›).elim
            | (go_roundw
               case rel => exact ⟨k + 1, by have := HLT.out; omega, by go_num, by rw [HPS.out], hid (HX.out.trans hx5)⟩
               case measure => have := HLT.out; simp [intOf]; omega)
        · obtain rfl : k = V.cs.length := by omega
          have hki : ¬ (V.cs.length : Int) < (V.cs.length : Int) := by omega
          have hgc : (0 ≤ V.gr ∧ V.gr ≤ 10000000) ∧ V.cs.length ≤ 10 ∧ ∀ x ∈ V.cs, 0 ≤ x ∧ x ≤ V.gr := by
            unfold pcB allTo at hp
            simp only [Bool.and_eq_true, decide_eq_true_eq, List.all_eq_true, List.mem_range] at hp
            refine ⟨inB_spec hp.1.1, hp.1.2, fun x hx => ?_⟩
            obtain ⟨i, hi, rfl⟩ := List.getElem_of_mem hx
            have := hp.2 i hi
            rw [getD_of hi] at this
            exact inB_spec this
          have HV := hid (show validV V = _ by rw [HVP.out, hp, Bool.true_and])
          have HGC := hid hgc
          obtain ⟨sm, hsm⟩ : ∃ sm, V.cs.sum = sm := ⟨_, rfl⟩
          obtain ⟨s1, hs1⟩ : ∃ s1, V.bo + V.ne = s1 := ⟨_, rfl⟩
          obtain ⟨s2, hs2⟩ : ∃ s2, s1 + V.cr = s2 := ⟨_, rfl⟩
          rw [hsm, hs1, hs2] at HV
          have HSM := hid hsm
          have HS1 := hid hs1
          have HS2 := hid hs2
          have C1 := hid (fun e : Later wr => Sum_b _ V.cs sm e.1 (HCS.out.mono (HX0.out.trans (HX.out.trans e.grown))) (fun x hx => by have := HGC.out.2.2 x hx; have := HGC.out.1; omega) (by have := HGC.out.2.1; omega) HSM.out)
          clear hp hk hlt hgc hsm hs1 hs2 HVP
          gi_upto_region 6 with fail
          all_goals first | exact (undef_no' ‹_›).elim | skip
          clear cB hki
          have q0 := fun e : Later wr => cell_of (Ext.block e.grown HB.out)
          cases h1 : decide (sm ≤ V.gr) with
          | false =>
            have H1 := hid h1
            have f1 : ¬ sm ≤ V.gr := by simpa using h1
            clear h1
            have HF : Hid (validV V = false) := hid (by rw [HV.out]; simp only [H1.out, Bool.and_true, Bool.and_false, Bool.true_and, Bool.false_and])
            refine quiet_wide 35 (by kernel_rfl) (by kernel_rfl) ?_
            simp only [List.take_succ_cons, List.take_zero, List.drop_succ_cons, List.drop_zero]
            repeat (any_goals (first | go_big_quiet_step ((go_at_call 34; with_reducible exact Cal.quiet_same (C1.out _))) | quiet_step ((go_at_call 34; with_reducible exact Cal.quiet_same (C1.out _)))))
            refine wpQuiet_nil ?_
            rintro w5 ⟨⟨w5q, hx5⟩, hew5⟩
            obtain rfl : w5 = w5q := hew5
            have hx5 : Ext wr w5 := hx5
            clear q0
            gi_wp2_with fail
            all_goals first
              | exact (undef_no' ‹_›).elim
              | (go_ret
                 exact ⟨by rw [HF.out]; rfl, HX0.out.trans (HX.out.trans hx5)⟩)
          | true =>
          have H1 := hid h1
          have f1 : sm ≤ V.gr := by simpa using h1
          clear h1
          cases h2 : inB V.bo 0 8 with
          | false =>
            have H2 := hid h2
            have C2 := hid (fun e : Later wr => In_b V.bo 0 8 false e.1 H2.out)
            clear h2
            have HF : Hid (validV V = false) := hid (by rw [HV.out]; simp only [H1.out, H2.out, Bool.and_true, Bool.and_false, Bool.true_and, Bool.false_and])
            refine quiet_wide 35 (by kernel_rfl) (by kernel_rfl) ?_
            simp only [List.take_succ_cons, List.take_zero, List.drop_succ_cons, List.drop_zero]
            repeat (any_goals (first | go_big_quiet_step ((first | (go_at_call 34; with_reducible exact Cal.quiet_same (C1.out _)) | (go_at_call 29; with_reducible exact Cal.quiet_same (C2.out _)))) | quiet_step ((first | (go_at_call 34; with_reducible exact Cal.quiet_same (C1.out _)) | (go_at_call 29; with_reducible exact Cal.quiet_same (C2.out _))))))
            refine wpQuiet_nil ?_
            rintro w5 ⟨⟨w5q, hx5⟩, hew5⟩
            obtain rfl : w5 = w5q := hew5
            have hx5 : Ext wr w5 := hx5
            clear q0
            gi_wp2_with fail
            all_goals first
              | exact (undef_no' ‹_›).elim
              | (go_ret
                 exact ⟨by rw [HF.out]; rfl, HX0.out.trans (HX.out.trans hx5)⟩)
          | true =>
          have H2 := hid h2
          have C2 := hid (fun e : Later wr => In_b V.bo 0 8 true e.1 H2.out)
          clear h2
          cases h3 : inB V.ne 0 8 with
          | false =>
            have H3 := hid h3
            have C3 := hid (fun e : Later wr => In_b V.ne 0 8 false e.1 H3.out)
            clear h3
            have HF : Hid (validV V = false) := hid (by rw [HV.out]; simp only [H1.out, H2.out, H3.out, Bool.and_true, Bool.and_false, Bool.true_and, Bool.false_and])
            refine quiet_wide 35 (by kernel_rfl) (by kernel_rfl) ?_
            simp only [List.take_succ_cons, List.take_zero, List.drop_succ_cons, List.drop_zero]
            repeat (any_goals (first | go_big_quiet_step ((first | (go_at_call 34; with_reducible exact Cal.quiet_same (C1.out _)) | (go_at_call 29; with_reducible exact Cal.quiet_same (C2.out _)) | (go_at_call 29; with_reducible exact Cal.quiet_same (C3.out _)))) | quiet_step ((first | (go_at_call 34; with_reducible exact Cal.quiet_same (C1.out _)) | (go_at_call 29; with_reducible exact Cal.quiet_same (C2.out _)) | (go_at_call 29; with_reducible exact Cal.quiet_same (C3.out _))))))
            refine wpQuiet_nil ?_
            rintro w5 ⟨⟨w5q, hx5⟩, hew5⟩
            obtain rfl : w5 = w5q := hew5
            have hx5 : Ext wr w5 := hx5
            clear q0
            gi_wp2_with fail
            all_goals first
              | exact (undef_no' ‹_›).elim
              | (go_ret
                 exact ⟨by rw [HF.out]; rfl, HX0.out.trans (HX.out.trans hx5)⟩)
          | true =>
          have H3 := hid h3
          have C3 := hid (fun e : Later wr => In_b V.ne 0 8 true e.1 H3.out)
          clear h3
          cases h4 : inB V.cr 0 8 with
          | false =>
            have H4 := hid h4
            have C4 := hid (fun e : Later wr => In_b V.cr 0 8 false e.1 H4.out)
            clear h4
            have HF : Hid (validV V = false) := hid (by rw [HV.out]; simp only [H1.out, H2.out, H3.out, H4.out, Bool.and_true, Bool.and_false, Bool.true_and, Bool.false_and])
            refine quiet_wide 35 (by kernel_rfl) (by kernel_rfl) ?_
            simp only [List.take_succ_cons, List.take_zero, List.drop_succ_cons, List.drop_zero]
            repeat (any_goals (first | go_big_quiet_step ((first | (go_at_call 34; with_reducible exact Cal.quiet_same (C1.out _)) | (go_at_call 29; with_reducible exact Cal.quiet_same (C2.out _)) | (go_at_call 29; with_reducible exact Cal.quiet_same (C3.out _)) | (go_at_call 29; with_reducible exact Cal.quiet_same (C4.out _)))) | quiet_step ((first | (go_at_call 34; with_reducible exact Cal.quiet_same (C1.out _)) | (go_at_call 29; with_reducible exact Cal.quiet_same (C2.out _)) | (go_at_call 29; with_reducible exact Cal.quiet_same (C3.out _)) | (go_at_call 29; with_reducible exact Cal.quiet_same (C4.out _))))))
            refine wpQuiet_nil ?_
            rintro w5 ⟨⟨w5q, hx5⟩, hew5⟩
            obtain rfl : w5 = w5q := hew5
            have hx5 : Ext wr w5 := hx5
            clear q0
            gi_wp2_with fail
            all_goals first
              | exact (undef_no' ‹_›).elim
              | (go_ret
                 exact ⟨by rw [HF.out]; rfl, HX0.out.trans (HX.out.trans hx5)⟩)
          | true =>
          have H4 := hid h4
          have C4 := hid (fun e : Later wr => In_b V.cr 0 8 true e.1 H4.out)
          have i2 := inB_spec H2.out
          have i3 := inB_spec H3.out
          have i4 := inB_spec H4.out
          have i5 := HS1.out
          have i6 := HS2.out
          have g1 : wrap64 (V.bo + V.ne) = s1 := by rw [i5]; exact wrap_mid (by omega) (by omega)
          have g2 : IntKind.i64.wrap (V.bo + V.ne) = s1 := by rw [i5, IntKind.wrap_i64]; omega
          have g3 : wrap64 (s1 + V.cr) = s2 := by rw [i6]; exact wrap_mid (by omega) (by omega)
          have g4 : IntKind.i64.wrap (s1 + V.cr) = s2 := by rw [i6, IntKind.wrap_i64]; omega
          clear i2 i3 i4 i5 i6
          clear h4
          cases h5 : (s2 == 8) with
          | false =>
            have H5 := hid h5
            have f5 : (s2 == 8) = false := H5.out
            clear h5
            have HF : Hid (validV V = false) := hid (by rw [HV.out]; simp only [H1.out, H2.out, H3.out, H4.out, H5.out, Bool.and_true, Bool.and_false, Bool.true_and, Bool.false_and])
            refine quiet_wide 35 (by kernel_rfl) (by kernel_rfl) ?_
            simp only [List.take_succ_cons, List.take_zero, List.drop_succ_cons, List.drop_zero]
            repeat (any_goals (first | go_big_quiet_step ((first | (go_at_call 34; with_reducible exact Cal.quiet_same (C1.out _)) | (go_at_call 29; with_reducible exact Cal.quiet_same (C2.out _)) | (go_at_call 29; with_reducible exact Cal.quiet_same (C3.out _)) | (go_at_call 29; with_reducible exact Cal.quiet_same (C4.out _)))) | quiet_step ((first | (go_at_call 34; with_reducible exact Cal.quiet_same (C1.out _)) | (go_at_call 29; with_reducible exact Cal.quiet_same (C2.out _)) | (go_at_call 29; with_reducible exact Cal.quiet_same (C3.out _)) | (go_at_call 29; with_reducible exact Cal.quiet_same (C4.out _))))))
            refine wpQuiet_nil ?_
            rintro w5 ⟨⟨w5q, hx5⟩, hew5⟩
            obtain rfl : w5 = w5q := hew5
            have hx5 : Ext wr w5 := hx5
            clear q0
            gi_wp2_with fail
            all_goals first
              | exact (undef_no' ‹_›).elim
              | (go_ret
                 exact ⟨by rw [HF.out]; rfl, HX0.out.trans (HX.out.trans hx5)⟩)
          | true =>
          have H5 := hid h5
          have f5 : (s2 == 8) = true := H5.out
          clear h5
          refine quiet_wide 35 (by kernel_rfl) (by kernel_rfl) ?_
          simp only [List.take_succ_cons, List.take_zero, List.drop_succ_cons, List.drop_zero]
          repeat (any_goals (first | go_big_quiet_step ((first | (go_at_call 34; with_reducible exact Cal.quiet_same (C1.out _)) | (go_at_call 29; with_reducible exact Cal.quiet_same (C2.out _)) | (go_at_call 29; with_reducible exact Cal.quiet_same (C3.out _)) | (go_at_call 29; with_reducible exact Cal.quiet_same (C4.out _)))) | quiet_step ((first | (go_at_call 34; with_reducible exact Cal.quiet_same (C1.out _)) | (go_at_call 29; with_reducible exact Cal.quiet_same (C2.out _)) | (go_at_call 29; with_reducible exact Cal.quiet_same (C3.out _)) | (go_at_call 29; with_reducible exact Cal.quiet_same (C4.out _))))))
          refine wpQuiet_nil ?_
          rintro w5 ⟨⟨w5q, hx5⟩, hew5⟩
          obtain rfl : w5 = w5q := hew5
          have hx5 : Ext wr w5 := hx5
          clear q0 f1 f5 g1 g2 g3 g4 C1 C2 C3 C4
          have HX5 := hid (HX0.out.trans (HX.out.trans hx5))
          have HB5 := hid (hx5.block HB.out)
          have cB5 := cell_of HB5.out
          clear hx5
          have HV := hid (show validV V = _ by rw [HV.out, H1.out, H2.out, H3.out, H4.out, H5.out, Bool.true_and, Bool.true_and, Bool.true_and, Bool.true_and, Bool.true_and])
          clear H1 H2 H3 H4 H5
          cases h1 : stakesB V.ow with
          | false =>
            have H1 := hid h1
            have K1 := hid (fun u (hu : Ext w u) => stakes_b _ V.ow false u (HO.out.mono hu) HNO.out H1.out)
            clear h1
            have HF : Hid (validV V = false) := hid (by rw [HV.out]; simp only [H1.out, Bool.and_true, Bool.and_false, Bool.true_and, Bool.false_and])
            gi_wp2_with (gi_at_call 50; (with_reducible refine (K1.out _ HX5.out).mono ?_); rintro e w6 ⟨rfl, hx6⟩; have cB6 := cell_of (Ext.block hx6 HB5.out))
            all_goals first
              | exact (undef_no' ‹_›).elim
              | (go_ret
                 exact ⟨by rw [HF.out]; rfl, HX5.out.trans hx6⟩)
          | true =>
          have H1 := hid h1
          have K1 := hid (fun u (hu : Ext w u) => stakes_b _ V.ow true u (HO.out.mono hu) HNO.out H1.out)
          clear h1
          cases h2 : stakesB V.le with
          | false =>
            have H2 := hid h2
            have K2 := hid (fun u (hu : Ext w u) => stakes_b _ V.le false u (HL.out.mono hu) HNL.out H2.out)
            clear h2
            have HF : Hid (validV V = false) := hid (by rw [HV.out]; simp only [H1.out, H2.out, Bool.and_true, Bool.and_false, Bool.true_and, Bool.false_and])
            gi_wp2_with (first | (gi_at_call 50; (with_reducible refine (K1.out _ HX5.out).mono ?_); rintro e w6 ⟨rfl, hx6⟩; have cB6 := cell_of (Ext.block hx6 HB5.out)) | (gi_at_call 50; (with_reducible refine (K2.out _ (HX5.out.trans hx6)).mono ?_); rintro e w7 ⟨rfl, hx7⟩; have cB7 := cell_of (Ext.block (hx6.trans hx7) HB5.out)))
            all_goals first
              | exact (undef_no' ‹_›).elim
              | (go_ret
                 exact ⟨by rw [HF.out]; rfl, HX5.out.trans (hx6.trans hx7)⟩)
          | true =>
          have H2 := hid h2
          have K2 := hid (fun u (hu : Ext w u) => stakes_b _ V.le true u (HL.out.mono hu) HNL.out H2.out)
          clear h2
          cases h3 : stakesB V.ha with
          | false =>
            have H3 := hid h3
            have K3 := hid (fun u (hu : Ext w u) => stakes_b _ V.ha false u (HH.out.mono hu) HNH.out H3.out)
            clear h3
            have HF : Hid (validV V = false) := hid (by rw [HV.out]; simp only [H1.out, H2.out, H3.out, Bool.and_true, Bool.and_false, Bool.true_and, Bool.false_and])
            gi_wp2_with (first | (gi_at_call 50; (with_reducible refine (K1.out _ HX5.out).mono ?_); rintro e w6 ⟨rfl, hx6⟩; have cB6 := cell_of (Ext.block hx6 HB5.out)) | (gi_at_call 50; (with_reducible refine (K2.out _ (HX5.out.trans hx6)).mono ?_); rintro e w7 ⟨rfl, hx7⟩; have cB7 := cell_of (Ext.block (hx6.trans hx7) HB5.out)) | (gi_at_call 50; (with_reducible refine (K3.out _ (HX5.out.trans (hx6.trans hx7))).mono ?_); rintro e w8 ⟨rfl, hx8⟩; have cB8 := cell_of (Ext.block (hx6.trans (hx7.trans hx8)) HB5.out)))
            all_goals first
              | exact (undef_no' ‹_›).elim
              | (go_ret
                 exact ⟨by rw [HF.out]; rfl, HX5.out.trans (hx6.trans (hx7.trans hx8))⟩)
          | true =>
          have H3 := hid h3
          have K3 := hid (fun u (hu : Ext w u) => stakes_b _ V.ha true u (HH.out.mono hu) HNH.out H3.out)
          clear h3
          gi_upto_region 8 with (first | (gi_at_call 50; (with_reducible refine (K1.out _ HX5.out).mono ?_); rintro e w6 ⟨rfl, hx6⟩; have cB6 := cell_of (Ext.block hx6 HB5.out)) | (gi_at_call 50; (with_reducible refine (K2.out _ (HX5.out.trans hx6)).mono ?_); rintro e w7 ⟨rfl, hx7⟩; have cB7 := cell_of (Ext.block (hx6.trans hx7) HB5.out)) | (gi_at_call 50; (with_reducible refine (K3.out _ (HX5.out.trans (hx6.trans hx7))).mono ?_); rintro e w8 ⟨rfl, hx8⟩; have cB8 := cell_of (Ext.block (hx6.trans (hx7.trans hx8)) HB5.out)))
          all_goals first | exact (undef_no' ‹_›).elim | skip
          have HX8 := hid (HX5.out.trans (hx6.trans (hx7.trans hx8)))
          clear cB5 cB6 cB7 hx6 hx7 hx8 K1 K2 K3
          have HV := hid (show validV V = _ by rw [HV.out, H1.out, H2.out, H3.out, Bool.true_and, Bool.true_and, Bool.true_and, back_or (sumW_pos H1.out), back_or (sumW_pos H2.out), back_or (sumW_pos H3.out)])
          obtain ⟨so, hso⟩ : ∃ so, sumW V.ow = so := ⟨_, rfl⟩
          obtain ⟨sl, hsl⟩ : ∃ so, sumW V.le = so := ⟨_, rfl⟩
          obtain ⟨sh, hsh⟩ : ∃ so, sumW V.ha = so := ⟨_, rfl⟩
          rw [hso, hsl, hsh] at HV
          have HSO := hid hso
          have HSL := hid hsl
          have HSH := hid hsh
          have K1 := hid (fun u (hu : Ext w u) => whole_b _ V.ow so u (HO.out.mono hu) (stakes_small H1.out) HSO.out)
          have K2 := hid (fun u (hu : Ext w u) => whole_b _ V.le sl u (HL.out.mono hu) (stakes_small H2.out) HSL.out)
          have K3 := hid (fun u (hu : Ext w u) => whole_b _ V.ha sh u (HH.out.mono hu) (stakes_small H3.out) HSH.out)
          clear hso hsl hsh H1 H2 H3
          by_cases z1 : V.bo = 0
          · have D1 : Hid (decide (V.bo = 0) = true) := hid (decide_eq_true z1)
            have y1 : (V.bo == 0) = true := by simp [z1]
            clear z1
            by_cases z2 : V.ne = 0
            · have D2 : Hid (decide (V.ne = 0) = true) := hid (decide_eq_true z2)
              have y2 : (V.ne == 0) = true := by simp [z2]
              clear z2
              by_cases z3 : V.cr = 0
              · have D3 : Hid (decide (V.cr = 0) = true) := hid (decide_eq_true z3)
                have y3 : (V.cr == 0) = true := by simp [z3]
                clear z3
                have HF : Hid (validV V = true) := hid (by rw [HV.out]; simp only [D1.out, D2.out, D3.out, Bool.and_true, Bool.and_false, Bool.true_and, Bool.false_and, Bool.or_true, Bool.true_or, Bool.or_false, Bool.false_or])
                gi_wp2_with (first | (gi_at_call 51; (with_reducible refine (K1.out _ HX8.out).mono ?_); rintro e w9 ⟨rfl, rfl⟩) | (gi_at_call 51; (with_reducible refine (K2.out _ HX8.out).mono ?_); rintro e w9 ⟨rfl, rfl⟩) | (gi_at_call 51; (with_reducible refine (K3.out _ HX8.out).mono ?_); rintro e w9 ⟨rfl, rfl⟩))
                all_goals first
                  | exact (undef_no' ‹_›).elim
                  | (go_ret
                     exact ⟨by rw [HF.out]; first | rfl | exact congrArg (fun b => Ending.returned (Value.bool b)) E3.out, HX8.out⟩)
              · have D3 : Hid (decide (V.cr = 0) = false) := hid (decide_eq_false z3)
                have y3 : (V.cr == 0) = false := by simp [z3]
                clear z3

                by_cases p3 : 0 < sh
                · have E3 : Hid (decide (0 < sh) = true) := hid (decide_eq_true p3)
                  have HF : Hid (validV V = true) := hid (by rw [HV.out]; simp only [D1.out, D2.out, D3.out, E3.out, Bool.and_true, Bool.and_false, Bool.true_and, Bool.false_and, Bool.or_true, Bool.true_or, Bool.or_false, Bool.false_or])
                  gi_wp2_with (first | (gi_at_call 51; (with_reducible refine (K1.out _ HX8.out).mono ?_); rintro e w9 ⟨rfl, rfl⟩) | (gi_at_call 51; (with_reducible refine (K2.out _ HX8.out).mono ?_); rintro e w9 ⟨rfl, rfl⟩) | (gi_at_call 51; (with_reducible refine (K3.out _ HX8.out).mono ?_); rintro e w9 ⟨rfl, rfl⟩))
                  all_goals first
                    | exact (undef_no' ‹_›).elim
                    | (go_ret
                       exact ⟨by rw [HF.out]; first | rfl | exact congrArg (fun b => Ending.returned (Value.bool b)) E3.out, HX8.out⟩)
                · have E3 : Hid (decide (0 < sh) = false) := hid (decide_eq_false p3)
                  have HF : Hid (validV V = false) := hid (by rw [HV.out]; simp only [D1.out, D2.out, D3.out, E3.out, Bool.and_true, Bool.and_false, Bool.true_and, Bool.false_and, Bool.or_true, Bool.true_or, Bool.or_false, Bool.false_or])
                  gi_wp2_with (first | (gi_at_call 51; (with_reducible refine (K1.out _ HX8.out).mono ?_); rintro e w9 ⟨rfl, rfl⟩) | (gi_at_call 51; (with_reducible refine (K2.out _ HX8.out).mono ?_); rintro e w9 ⟨rfl, rfl⟩) | (gi_at_call 51; (with_reducible refine (K3.out _ HX8.out).mono ?_); rintro e w9 ⟨rfl, rfl⟩))
                  all_goals first
                    | exact (undef_no' ‹_›).elim
                    | (go_ret
                       exact ⟨by rw [HF.out]; first | rfl | exact congrArg (fun b => Ending.returned (Value.bool b)) E3.out, HX8.out⟩)
            · have D2 : Hid (decide (V.ne = 0) = false) := hid (decide_eq_false z2)
              have y2 : (V.ne == 0) = false := by simp [z2]
              clear z2

              by_cases p2 : 0 < sl
              · have E2 : Hid (decide (0 < sl) = true) := hid (decide_eq_true p2)
                by_cases z3 : V.cr = 0
                · have D3 : Hid (decide (V.cr = 0) = true) := hid (decide_eq_true z3)
                  have y3 : (V.cr == 0) = true := by simp [z3]
                  clear z3
                  have HF : Hid (validV V = true) := hid (by rw [HV.out]; simp only [D1.out, D2.out, E2.out, D3.out, Bool.and_true, Bool.and_false, Bool.true_and, Bool.false_and, Bool.or_true, Bool.true_or, Bool.or_false, Bool.false_or])
                  gi_wp2_with (first | (gi_at_call 51; (with_reducible refine (K1.out _ HX8.out).mono ?_); rintro e w9 ⟨rfl, rfl⟩) | (gi_at_call 51; (with_reducible refine (K2.out _ HX8.out).mono ?_); rintro e w9 ⟨rfl, rfl⟩) | (gi_at_call 51; (with_reducible refine (K3.out _ HX8.out).mono ?_); rintro e w9 ⟨rfl, rfl⟩))
                  all_goals first
                    | exact (undef_no' ‹_›).elim
                    | (go_ret
                       exact ⟨by rw [HF.out]; first | rfl | exact congrArg (fun b => Ending.returned (Value.bool b)) E3.out, HX8.out⟩)
                · have D3 : Hid (decide (V.cr = 0) = false) := hid (decide_eq_false z3)
                  have y3 : (V.cr == 0) = false := by simp [z3]
                  clear z3

                  by_cases p3 : 0 < sh
                  · have E3 : Hid (decide (0 < sh) = true) := hid (decide_eq_true p3)
                    have HF : Hid (validV V = true) := hid (by rw [HV.out]; simp only [D1.out, D2.out, E2.out, D3.out, E3.out, Bool.and_true, Bool.and_false, Bool.true_and, Bool.false_and, Bool.or_true, Bool.true_or, Bool.or_false, Bool.false_or])
                    gi_wp2_with (first | (gi_at_call 51; (with_reducible refine (K1.out _ HX8.out).mono ?_); rintro e w9 ⟨rfl, rfl⟩) | (gi_at_call 51; (with_reducible refine (K2.out _ HX8.out).mono ?_); rintro e w9 ⟨rfl, rfl⟩) | (gi_at_call 51; (with_reducible refine (K3.out _ HX8.out).mono ?_); rintro e w9 ⟨rfl, rfl⟩))
                    all_goals first
                      | exact (undef_no' ‹_›).elim
                      | (go_ret
                         exact ⟨by rw [HF.out]; first | rfl | exact congrArg (fun b => Ending.returned (Value.bool b)) E3.out, HX8.out⟩)
                  · have E3 : Hid (decide (0 < sh) = false) := hid (decide_eq_false p3)
                    have HF : Hid (validV V = false) := hid (by rw [HV.out]; simp only [D1.out, D2.out, E2.out, D3.out, E3.out, Bool.and_true, Bool.and_false, Bool.true_and, Bool.false_and, Bool.or_true, Bool.true_or, Bool.or_false, Bool.false_or])
                    gi_wp2_with (first | (gi_at_call 51; (with_reducible refine (K1.out _ HX8.out).mono ?_); rintro e w9 ⟨rfl, rfl⟩) | (gi_at_call 51; (with_reducible refine (K2.out _ HX8.out).mono ?_); rintro e w9 ⟨rfl, rfl⟩) | (gi_at_call 51; (with_reducible refine (K3.out _ HX8.out).mono ?_); rintro e w9 ⟨rfl, rfl⟩))
                    all_goals first
                      | exact (undef_no' ‹_›).elim
                      | (go_ret
                         exact ⟨by rw [HF.out]; first | rfl | exact congrArg (fun b => Ending.returned (Value.bool b)) E3.out, HX8.out⟩)
              · have E2 : Hid (decide (0 < sl) = false) := hid (decide_eq_false p2)
                have HF : Hid (validV V = false) := hid (by rw [HV.out]; simp only [D1.out, D2.out, E2.out, Bool.and_true, Bool.and_false, Bool.true_and, Bool.false_and, Bool.or_true, Bool.true_or, Bool.or_false, Bool.false_or])
                gi_wp2_with (first | (gi_at_call 51; (with_reducible refine (K1.out _ HX8.out).mono ?_); rintro e w9 ⟨rfl, rfl⟩) | (gi_at_call 51; (with_reducible refine (K2.out _ HX8.out).mono ?_); rintro e w9 ⟨rfl, rfl⟩) | (gi_at_call 51; (with_reducible refine (K3.out _ HX8.out).mono ?_); rintro e w9 ⟨rfl, rfl⟩))
                all_goals first
                  | exact (undef_no' ‹_›).elim
                  | (go_ret
                     exact ⟨by rw [HF.out]; first | rfl | exact congrArg (fun b => Ending.returned (Value.bool b)) E3.out, HX8.out⟩)
          · have D1 : Hid (decide (V.bo = 0) = false) := hid (decide_eq_false z1)
            have y1 : (V.bo == 0) = false := by simp [z1]
            clear z1

            by_cases p1 : 0 < so
            · have E1 : Hid (decide (0 < so) = true) := hid (decide_eq_true p1)
              by_cases z2 : V.ne = 0
              · have D2 : Hid (decide (V.ne = 0) = true) := hid (decide_eq_true z2)
                have y2 : (V.ne == 0) = true := by simp [z2]
                clear z2
                by_cases z3 : V.cr = 0
                · have D3 : Hid (decide (V.cr = 0) = true) := hid (decide_eq_true z3)
                  have y3 : (V.cr == 0) = true := by simp [z3]
                  clear z3
                  have HF : Hid (validV V = true) := hid (by rw [HV.out]; simp only [D1.out, E1.out, D2.out, D3.out, Bool.and_true, Bool.and_false, Bool.true_and, Bool.false_and, Bool.or_true, Bool.true_or, Bool.or_false, Bool.false_or])
                  gi_wp2_with (first | (gi_at_call 51; (with_reducible refine (K1.out _ HX8.out).mono ?_); rintro e w9 ⟨rfl, rfl⟩) | (gi_at_call 51; (with_reducible refine (K2.out _ HX8.out).mono ?_); rintro e w9 ⟨rfl, rfl⟩) | (gi_at_call 51; (with_reducible refine (K3.out _ HX8.out).mono ?_); rintro e w9 ⟨rfl, rfl⟩))
                  all_goals first
                    | exact (undef_no' ‹_›).elim
                    | (go_ret
                       exact ⟨by rw [HF.out]; first | rfl | exact congrArg (fun b => Ending.returned (Value.bool b)) E3.out, HX8.out⟩)
                · have D3 : Hid (decide (V.cr = 0) = false) := hid (decide_eq_false z3)
                  have y3 : (V.cr == 0) = false := by simp [z3]
                  clear z3

                  by_cases p3 : 0 < sh
                  · have E3 : Hid (decide (0 < sh) = true) := hid (decide_eq_true p3)
                    have HF : Hid (validV V = true) := hid (by rw [HV.out]; simp only [D1.out, E1.out, D2.out, D3.out, E3.out, Bool.and_true, Bool.and_false, Bool.true_and, Bool.false_and, Bool.or_true, Bool.true_or, Bool.or_false, Bool.false_or])
                    gi_wp2_with (first | (gi_at_call 51; (with_reducible refine (K1.out _ HX8.out).mono ?_); rintro e w9 ⟨rfl, rfl⟩) | (gi_at_call 51; (with_reducible refine (K2.out _ HX8.out).mono ?_); rintro e w9 ⟨rfl, rfl⟩) | (gi_at_call 51; (with_reducible refine (K3.out _ HX8.out).mono ?_); rintro e w9 ⟨rfl, rfl⟩))
                    all_goals first
                      | exact (undef_no' ‹_›).elim
                      | (go_ret
                         exact ⟨by rw [HF.out]; first | rfl | exact congrArg (fun b => Ending.returned (Value.bool b)) E3.out, HX8.out⟩)
                  · have E3 : Hid (decide (0 < sh) = false) := hid (decide_eq_false p3)
                    have HF : Hid (validV V = false) := hid (by rw [HV.out]; simp only [D1.out, E1.out, D2.out, D3.out, E3.out, Bool.and_true, Bool.and_false, Bool.true_and, Bool.false_and, Bool.or_true, Bool.true_or, Bool.or_false, Bool.false_or])
                    gi_wp2_with (first | (gi_at_call 51; (with_reducible refine (K1.out _ HX8.out).mono ?_); rintro e w9 ⟨rfl, rfl⟩) | (gi_at_call 51; (with_reducible refine (K2.out _ HX8.out).mono ?_); rintro e w9 ⟨rfl, rfl⟩) | (gi_at_call 51; (with_reducible refine (K3.out _ HX8.out).mono ?_); rintro e w9 ⟨rfl, rfl⟩))
                    all_goals first
                      | exact (undef_no' ‹_›).elim
                      | (go_ret
                         exact ⟨by rw [HF.out]; first | rfl | exact congrArg (fun b => Ending.returned (Value.bool b)) E3.out, HX8.out⟩)
              · have D2 : Hid (decide (V.ne = 0) = false) := hid (decide_eq_false z2)
                have y2 : (V.ne == 0) = false := by simp [z2]
                clear z2

                by_cases p2 : 0 < sl
                · have E2 : Hid (decide (0 < sl) = true) := hid (decide_eq_true p2)
                  by_cases z3 : V.cr = 0
                  · have D3 : Hid (decide (V.cr = 0) = true) := hid (decide_eq_true z3)
                    have y3 : (V.cr == 0) = true := by simp [z3]
                    clear z3
                    have HF : Hid (validV V = true) := hid (by rw [HV.out]; simp only [D1.out, E1.out, D2.out, E2.out, D3.out, Bool.and_true, Bool.and_false, Bool.true_and, Bool.false_and, Bool.or_true, Bool.true_or, Bool.or_false, Bool.false_or])
                    gi_wp2_with (first | (gi_at_call 51; (with_reducible refine (K1.out _ HX8.out).mono ?_); rintro e w9 ⟨rfl, rfl⟩) | (gi_at_call 51; (with_reducible refine (K2.out _ HX8.out).mono ?_); rintro e w9 ⟨rfl, rfl⟩) | (gi_at_call 51; (with_reducible refine (K3.out _ HX8.out).mono ?_); rintro e w9 ⟨rfl, rfl⟩))
                    all_goals first
                      | exact (undef_no' ‹_›).elim
                      | (go_ret
                         exact ⟨by rw [HF.out]; first | rfl | exact congrArg (fun b => Ending.returned (Value.bool b)) E3.out, HX8.out⟩)
                  · have D3 : Hid (decide (V.cr = 0) = false) := hid (decide_eq_false z3)
                    have y3 : (V.cr == 0) = false := by simp [z3]
                    clear z3

                    by_cases p3 : 0 < sh
                    · have E3 : Hid (decide (0 < sh) = true) := hid (decide_eq_true p3)
                      have HF : Hid (validV V = true) := hid (by rw [HV.out]; simp only [D1.out, E1.out, D2.out, E2.out, D3.out, E3.out, Bool.and_true, Bool.and_false, Bool.true_and, Bool.false_and, Bool.or_true, Bool.true_or, Bool.or_false, Bool.false_or])
                      gi_wp2_with (first | (gi_at_call 51; (with_reducible refine (K1.out _ HX8.out).mono ?_); rintro e w9 ⟨rfl, rfl⟩) | (gi_at_call 51; (with_reducible refine (K2.out _ HX8.out).mono ?_); rintro e w9 ⟨rfl, rfl⟩) | (gi_at_call 51; (with_reducible refine (K3.out _ HX8.out).mono ?_); rintro e w9 ⟨rfl, rfl⟩))
                      all_goals first
                        | exact (undef_no' ‹_›).elim
                        | (go_ret
                           exact ⟨by rw [HF.out]; first | rfl | exact congrArg (fun b => Ending.returned (Value.bool b)) E3.out, HX8.out⟩)
                    · have E3 : Hid (decide (0 < sh) = false) := hid (decide_eq_false p3)
                      have HF : Hid (validV V = false) := hid (by rw [HV.out]; simp only [D1.out, E1.out, D2.out, E2.out, D3.out, E3.out, Bool.and_true, Bool.and_false, Bool.true_and, Bool.false_and, Bool.or_true, Bool.true_or, Bool.or_false, Bool.false_or])
                      gi_wp2_with (first | (gi_at_call 51; (with_reducible refine (K1.out _ HX8.out).mono ?_); rintro e w9 ⟨rfl, rfl⟩) | (gi_at_call 51; (with_reducible refine (K2.out _ HX8.out).mono ?_); rintro e w9 ⟨rfl, rfl⟩) | (gi_at_call 51; (with_reducible refine (K3.out _ HX8.out).mono ?_); rintro e w9 ⟨rfl, rfl⟩))
                      all_goals first
                        | exact (undef_no' ‹_›).elim
                        | (go_ret
                           exact ⟨by rw [HF.out]; first | rfl | exact congrArg (fun b => Ending.returned (Value.bool b)) E3.out, HX8.out⟩)
                · have E2 : Hid (decide (0 < sl) = false) := hid (decide_eq_false p2)
                  have HF : Hid (validV V = false) := hid (by rw [HV.out]; simp only [D1.out, E1.out, D2.out, E2.out, Bool.and_true, Bool.and_false, Bool.true_and, Bool.false_and, Bool.or_true, Bool.true_or, Bool.or_false, Bool.false_or])
                  gi_wp2_with (first | (gi_at_call 51; (with_reducible refine (K1.out _ HX8.out).mono ?_); rintro e w9 ⟨rfl, rfl⟩) | (gi_at_call 51; (with_reducible refine (K2.out _ HX8.out).mono ?_); rintro e w9 ⟨rfl, rfl⟩) | (gi_at_call 51; (with_reducible refine (K3.out _ HX8.out).mono ?_); rintro e w9 ⟨rfl, rfl⟩))
                  all_goals first
                    | exact (undef_no' ‹_›).elim
                    | (go_ret
                       exact ⟨by rw [HF.out]; first | rfl | exact congrArg (fun b => Ending.returned (Value.bool b)) E3.out, HX8.out⟩)
            · have E1 : Hid (decide (0 < so) = false) := hid (decide_eq_false p1)
              have HF : Hid (validV V = false) := hid (by rw [HV.out]; simp only [D1.out, E1.out, Bool.and_true, Bool.and_false, Bool.true_and, Bool.false_and, Bool.or_true, Bool.true_or, Bool.or_false, Bool.false_or])
              gi_wp2_with (first | (gi_at_call 51; (with_reducible refine (K1.out _ HX8.out).mono ?_); rintro e w9 ⟨rfl, rfl⟩) | (gi_at_call 51; (with_reducible refine (K2.out _ HX8.out).mono ?_); rintro e w9 ⟨rfl, rfl⟩) | (gi_at_call 51; (with_reducible refine (K3.out _ HX8.out).mono ?_); rintro e w9 ⟨rfl, rfl⟩))
              all_goals first
                | exact (undef_no' ‹_›).elim
                | (go_ret
                   exact ⟨by rw [HF.out]; first | rfl | exact congrArg (fun b => Ending.returned (Value.bool b)) E3.out, HX8.out⟩)
end
section
open Go Go.RowKit Go.Shelf

set_option maxRecDepth 100000 in
set_option maxHeartbeats 4000000 in
theorem rnet_any (V : Voy) (s : VS) (w : World) (h : VoyAt w V s) (hok : ValidV V) : Cal 59 #[.agg (voyA V s)] w fun e w' => e = .returned (.int .i64 (V.gr - V.cs.sum)) ∧ Ext w w' := by
  have HX0 : Hid (Ext w (w.alloc (.cells (voyA V s) 32))) := hid ((Ext.refl _).alloc _)
  have HB0 : Hid ((w.alloc (.cells (voyA V s) 32)).heap[w.heap.size]? = some (.cells (voyA V s) 32 (0, 0))) := hid (Ext.new (Ext.refl _))
  obtain ⟨sm, hsm⟩ : ∃ sm, V.cs.sum = sm := ⟨_, rfl⟩
  have hb := sum_within (M := 10000000) (by omega) V.cs (fun x hx => by have := hok.cs x hx; have := hok.gr; omega)
  have hl := hok.csl
  have hg := hok.gr
  rw [hsm] at hb
  have hbn : -100000000 ≤ sm ∧ sm ≤ 100000000 := by omega
  have hw1 : wrap64 (V.gr - sm) = V.gr - sm := wrap_mid (by omega) (by omega)
  have hw2 : IntKind.i64.wrap (V.gr - sm) = V.gr - sm := by rw [IntKind.wrap_i64]; omega
  have HW := hid hw1
  have HW2 := hid hw2
  have HCS := hid h.cs
  have C1 := hid (fun (u : World) (hu : Ext w u) => Sum_b _ V.cs sm u (HCS.out.mono hu) (fun x hx => by have := hok.cs x hx; omega) (by omega) hsm)
  rw [hsm]
  clear h hok hb hl hg hsm hbn hw1 hw2
  unfold voyA at *
  gi_enter Tryz.func59, Tryz.ntmps59
  gi_upto_region 1 with fail
  generalize w.alloc (.cells _ 32) = wa at *
  generalize w.heap.size = bx at *
  have q0 := fun e : Later wa => cell_of (Ext.block e.grown HB0.out)
  have C2 := hid (fun (e : Later wa) => C1.out e.1 (HX0.out.trans e.grown))
  have hw1 := HW.out
  have hw2 := HW2.out
  refine quiet_wide 6 (by kernel_rfl) (by kernel_rfl) ?_
  simp only [List.take_succ_cons, List.take_zero, List.drop_succ_cons, List.drop_zero]
  repeat (any_goals (first | go_big_quiet_step ((go_at_call 34; with_reducible exact Cal.quiet_same (C2.out _))) | quiet_step ((go_at_call 34; with_reducible exact Cal.quiet_same (C2.out _)))))
  refine wpQuiet_nil ?_
  rintro w5 ⟨⟨w5q, hx5⟩, hew5⟩
  obtain rfl : w5 = w5q := hew5
  have hx5 : Ext wa w5 := hx5
  clear q0
  gi_wp2_with fail
  go_ret
  exact ⟨rfl, HX0.out.trans hx5⟩
set_option maxRecDepth 100000 in
set_option maxHeartbeats 4000000 in
theorem rcheck_any (V : Voy) (s : VS) (w : World) (h : VoyAt w V s) : Cal 22 #[.agg (voyA V s)] w fun e w' => e = .returned (.int .i64 (voyE V)) ∧ Ext w w' := by
  have HX0 : Hid (Ext w (w.alloc (.cells (voyA V s) 32))) := hid ((Ext.refl _).alloc _)
  have HB0 : Hid ((w.alloc (.cells (voyA V s) 32)).heap[w.heap.size]? = some (.cells (voyA V s) 32 (0, 0))) := hid (Ext.new (Ext.refl _))
  have HV := hid (fun (u : World) (hu : Ext w u) => rvalid_any V s u (h.mono hu))
  have HC := hid (fun (hv : validV V = true) (u : World) (hu : Ext w u) => rclaims_any V s u (h.mono hu) (valid_iff.1 hv).le)
  clear h
  cases hv : validV V with
  | false =>
    have HE : Hid (voyE V = 30) := hid (by unfold voyE; rw [hv]; rfl)
    rw [hv] at HV
    clear HC hv
    rw [HE.out]
    unfold voyA at *
    gi_enter Tryz.func22, Tryz.ntmps22
    gi_upto_region 1 with fail
    generalize w.alloc (.cells _ 32) = wa at *
    generalize w.heap.size = bx at *
    have cB := cell_of HB0.out
    gi_wp2_with (gi_at_call 57; (with_reducible refine (HV.out _ HX0.out).mono ?_); rintro e w1 ⟨rfl, hx1⟩)
    go_ret
    exact ⟨rfl, HX0.out.trans hx1⟩
  | true =>
    have HC := hid (HC.out hv)
    have HE : Hid (voyE V = if lendB V.le V.lo then 0 else 31) := hid (by unfold voyE; rw [hv]; rfl)
    rw [hv] at HV
    clear hv
    rw [HE.out]
    cases hl : lendB V.le V.lo with
    | false =>
      rw [hl] at HC
      clear hl
      unfold voyA at *
      gi_enter Tryz.func22, Tryz.ntmps22
      gi_upto_region 1 with fail
      generalize w.alloc (.cells _ 32) = wa at *
      generalize w.heap.size = bx at *
      have cB := cell_of HB0.out
      gi_wp2_with (first | (gi_at_call 57; (with_reducible refine (HV.out _ HX0.out).mono ?_); rintro e w1 ⟨rfl, hx1⟩; have cB1 := cell_of (hx1.block HB0.out)) | (gi_at_call 56; (with_reducible refine (HC.out _ (HX0.out.trans hx1)).mono ?_); rintro e w2 ⟨r, rfl, hx2, _⟩))
      go_ret
      exact ⟨rfl, (HX0.out.trans hx1).trans hx2⟩
    | true =>
      rw [hl] at HC
      clear hl
      unfold voyA at *
      gi_enter Tryz.func22, Tryz.ntmps22
      gi_upto_region 1 with fail
      generalize w.alloc (.cells _ 32) = wa at *
      generalize w.heap.size = bx at *
      have cB := cell_of HB0.out
      gi_wp2_with (first | (gi_at_call 57; (with_reducible refine (HV.out _ HX0.out).mono ?_); rintro e w1 ⟨rfl, hx1⟩; have cB1 := cell_of (hx1.block HB0.out)) | (gi_at_call 56; (with_reducible refine (HC.out _ (HX0.out.trans hx1)).mono ?_); rintro e w2 ⟨r, rfl, hx2, _⟩))
      go_ret
      exact ⟨rfl, (HX0.out.trans hx1).trans hx2⟩
set_option maxRecDepth 100000 in
set_option maxHeartbeats 4000000 in
theorem rClaims_bad (V : Voy) (s : VS) (w : World) (h : VoyAt w V s) (hE : voyE V ≠ 0) : Cal 20 #[.agg (voyA V s)] w fun e w' => e = .returned (.tuple #[.slice none 0 0, .int .i64 (voyE V)]) ∧ Ext w w' := by
  have HX0 : Hid (Ext w (w.alloc (.cells (voyA V s) 32))) := hid ((Ext.refl _).alloc _)
  have HB0 : Hid ((w.alloc (.cells (voyA V s) 32)).heap[w.heap.size]? = some (.cells (voyA V s) 32 (0, 0))) := hid (Ext.new (Ext.refl _))
  have HV := hid (fun (u : World) (hu : Ext w u) => rcheck_any V s u (h.mono hu))
  clear h
  obtain ⟨E, hEE⟩ : ∃ E, voyE V = E := ⟨_, rfl⟩
  rw [hEE] at HV hE ⊢
  have hb : (E != 0) = true := by simpa using hE
  clear hEE hE
  unfold voyA at *
  gi_enter Tryz.func20, Tryz.ntmps20
  gi_upto_region 1 with fail
  generalize w.alloc (.cells _ 32) = wa at *
  generalize w.heap.size = bx at *
  have cB := cell_of HB0.out
  gi_wp2_with (gi_at_call 22; (with_reducible refine (HV.out _ HX0.out).mono ?_); rintro e w1 ⟨rfl, hx1⟩)
  exact bodyPost_ret (v := .tuple #[.slice none 0 0, .int .i64 E]) (by simp [results, Tryz.results20, go_sem]) rfl ⟨rfl, HX0.out.trans hx1⟩
set_option maxRecDepth 100000 in
set_option maxHeartbeats 4000000 in
theorem rClaims_ok (V : Voy) (s : VS) (w : World) (h : VoyAt w V s) (hE : voyE V = 0) : Cal 20 #[.agg (voyA V s)] w fun e w' => ∃ r, e = .returned (.tuple #[r, .int .i64 0]) ∧ Ext w w' ∧ Hid (Row w' 3 1 r V.le.length (intsF V.le.length fun i => (lentV V i).2)) := by
  have HX0 : Hid (Ext w (w.alloc (.cells (voyA V s) 32))) := hid ((Ext.refl _).alloc _)
  have HB0 : Hid ((w.alloc (.cells (voyA V s) 32)).heap[w.heap.size]? = some (.cells (voyA V s) 32 (0, 0))) := hid (Ext.new (Ext.refl _))
  have HV := hid (fun (u : World) (hu : Ext w u) => rcheck_any V s u (h.mono hu))
  have hok := voyE_ok hE
  have HC := hid (fun (u : World) (hu : Ext w u) => rclaims_any V s u (h.mono hu) hok.1.le)
  rw [hE] at HV
  rw [hok.2] at HC
  clear h hE hok
  unfold voyA at *
  gi_enter Tryz.func20, Tryz.ntmps20
  gi_upto_region 1 with fail
  generalize w.alloc (.cells _ 32) = wa at *
  generalize w.heap.size = bx at *
  have cB := cell_of HB0.out
  gi_wp2_with (first | (gi_at_call 22; (with_reducible refine (HV.out _ HX0.out).mono ?_); rintro e w1 ⟨rfl, hx1⟩; have cB1 := cell_of (hx1.block HB0.out)) | (gi_at_call 56; (with_reducible refine (HC.out _ (HX0.out.trans hx1)).mono ?_); rintro e w2 ⟨r, rfl, hx2, hr⟩))
  exact bodyPost_ret (v := .tuple #[r, .int .i64 0]) (by simp [results, Tryz.results20, go_sem]) rfl ⟨_, rfl, (HX0.out.trans hx1).trans hx2, hid (hr.out trivial)⟩
end
end Go.Proofs.YtjocoadhalimjaaGreat
