/- The reference: what is asked with casts; what a cast hears. -/
import Derived.Test.YtlgcnjcbmihefaaZM
import Derived.Test.YtlgcnjcbmihefaaXA
set_option linter.unusedSimpArgs false
set_option linter.unusedVariables false
namespace Go.Proofs.Ytlgcnjcbmihefaa
open Go Go.RowKit Go.Shelf

/-- Whether a cast hears a cell. -/
def hearC (D : SeaD) (c : Cst) (k : Nat) : Bool := decide (dist (col (seaOf D) c.cell) (row (seaOf D) c.cell) (col (seaOf D) k) (row (seaOf D) k) ≤ c.far)

set_option maxRecDepth 100000 in
set_option maxHeartbeats 4000000 in
theorem covers_ref (D : SeaD) (lv dv : Value) (c : Cst) (k : Nat) (w : World) (hw : 1 ≤ D.wide ∧ D.wide ≤ 10) (hc : 0 ≤ c.cell ∧ c.cell ≤ 1000) (hk : k ≤ 1000) :
    Cal 68 #[seaVal D lv dv, .agg #[.int .i64 c.cell, .int .i64 c.far], .int .i64 k] w fun e w' => e = .returned (.bool (hearC D c k)) ∧ Ext w w' := by
  have hb1 : ((w.alloc (.cells #[.int .i64 D.wide, .int .i64 D.high, lv, .int .i64 D.hours, dv, .int .i64 D.speed] 25)).alloc (.cells #[.int .i64 c.cell, .int .i64 c.far] 64)).heap[w.heap.size]? = some (.cells #[.int .i64 D.wide, .int .i64 D.high, lv, .int .i64 D.hours, dv, .int .i64 D.speed] 25 (0, 0)) := two_new
  have hb2 : ((w.alloc (.cells #[.int .i64 D.wide, .int .i64 D.high, lv, .int .i64 D.hours, dv, .int .i64 D.speed] 25)).alloc (.cells #[.int .i64 c.cell, .int .i64 c.far] 64)).heap[w.heap.size + 1]? = some (.cells #[.int .i64 c.cell, .int .i64 c.far] 64 (0, 0)) := by
    have := Ext.new (w := w.alloc (.cells #[.int .i64 D.wide, .int .i64 D.high, lv, .int .i64 D.hours, dv, .int .i64 D.speed] 25)) (o := .cells #[.int .i64 c.cell, .int .i64 c.far] 64) (Ext.refl _)
    simpa using this
  have hx : Ext w ((w.alloc (.cells #[.int .i64 D.wide, .int .i64 D.high, lv, .int .i64 D.hours, dv, .int .i64 D.speed] 25)).alloc (.cells #[.int .i64 c.cell, .int .i64 c.far] 64)) := ((Ext.refl w).alloc _).alloc _
  have HDI := hid fun e : World => distance_ref D lv dv c.cell k e hw hc (by omega)
  unfold seaVal at HDI ⊢
  gi_enter Try.func68, Try.ntmps68
  gi_wp2_with fail
  generalize (w.alloc (.cells #[.int .i64 D.wide, .int .i64 D.high, lv, .int .i64 D.hours, dv, .int .i64 D.speed] 25)).alloc (.cells #[.int .i64 c.cell, .int .i64 c.far] 64) = w1 at *
  have HC := hid fun e : Later w1 => And.intro (cell_of (Ext.block e.grown hb1)) (cell_of (Ext.block e.grown hb2))
  have HDE := hid fun e : Later w1 => HDI.out e.val
  have HX := hid hx
  clear hb1 hb2 hx HDI
  have HRT : Hid (hearC D c k = decide (dist (col (seaOf D) c.cell) (row (seaOf D) c.cell) (col (seaOf D) k) (row (seaOf D) k) ≤ c.far)) := rfl
  generalize dist (col (seaOf D) c.cell) (row (seaOf D) c.cell) (col (seaOf D) k) (row (seaOf D) k) = dd at *
  cases hd : decide (dd ≤ c.far)
  all_goals
    rw [hd] at HRT
    refine quiet_wide 8 (by kernel_rfl) (by kernel_rfl) ?_
    simp only [List.take_succ_cons, List.take_zero, List.drop_succ_cons, List.drop_zero]
    have q1 := HC.out
    repeat (any_goals (first | go_big_quiet_step ((go_at_call 89; with_reducible exact Cal.quiet (HDE.out _))) | quiet_step ((go_at_call 89; with_reducible exact Cal.quiet (HDE.out _)))))
    refine wpQuiet_nil ?_
    rintro w5 ⟨⟨_, hx5⟩, rfl⟩
    clear q1
    clear HC HDE
    gi_wp2
    go_ret
    exact ⟨by rw [HRT.out]; rfl, HX.out.trans hx5⟩

/-- What asking with casts answers, before the casts are looked at and after. -/
theorem ask_cases {D : SeaD} {rs : List Rep} {wrong hour : Int} {cs : List Cst} :
    ((canErr D rs wrong hour = 10 ∨ canErr D rs wrong hour = 11 ∨ canErr D rs wrong hour = 7) ∧ searchErr D rs wrong hour cs = canErr D rs wrong hour) ∨
    ((canErr D rs wrong hour = 12 ∨ canErr D rs wrong hour = 0) ∧ seaB D = true ∧ canList D rs wrong hour = canF D rs wrong hour.toNat ∧ searchErr D rs wrong hour cs = if castsB (D.wide * D.high) cs = false then 13 else canErr D rs wrong hour) := by
  unfold canErr searchErr canList
  by_cases ha : askErr D rs wrong hour = 0
  · right
    have hs : seaB D = true := by
      cases h : seaB D with
      | true => rfl
      | false => unfold askErr at ha; rw [if_pos h] at ha; exact absurd ha (by decide)
    have hn : ¬ (askErr D rs wrong hour ≠ 0) := fun h => h ha
    simp only [if_neg hn]
    refine ⟨?_, hs, by first | trivial | rfl, by first | trivial | rfl⟩
    split
    · exact .inl rfl
    · exact .inr rfl
  · left
    rw [if_pos ha, if_pos ha]
    refine ⟨?_, rfl⟩
    unfold askErr at ha ⊢
    split
    · exact .inl rfl
    · split
      · exact .inr (.inl rfl)
      · split
        · exact .inr (.inr rfl)
        · rename_i h1 h2 h3; rw [if_neg h1, if_neg h2, if_neg h3] at ha; exact absurd rfl ha

set_option maxRecDepth 100000 in
set_option maxHeartbeats 8000000 in
theorem askC_ref (D : SeaD) (lv dv rv cv : Value) (rs : List Rep) (wrong hour : Int) (cs : List Cst) (w : World) (hl : IntsAt w lv D.land) (hd : StepsAt w dv D.drift) (hr : RepsAt w rv rs) (hc : CastsAt w cv cs) :
    Cal 67 #[seaVal D lv dv, rv, .int .i64 wrong, .int .i64 hour, cv] w fun e w' => ∃ v, e = .returned (.tuple #[v, .int .i64 (searchErr D rs wrong hour cs)]) ∧ Ext w w' ∧ Hid (searchErr D rs wrong hour cs = 0 → Row w' 3 1 v (canF D rs wrong hour.toNat).length (natVals (canF D rs wrong hour.toNat))) := by
  have hb1 : (w.alloc (.cells #[.int .i64 D.wide, .int .i64 D.high, lv, .int .i64 D.hours, dv, .int .i64 D.speed] 25)).heap[w.heap.size]? = some (.cells #[.int .i64 D.wide, .int .i64 D.high, lv, .int .i64 D.hours, dv, .int .i64 D.speed] 25 (0, 0)) := Ext.new (Ext.refl _)
  have hx : Ext w (w.alloc (.cells #[.int .i64 D.wide, .int .i64 D.high, lv, .int .i64 D.hours, dv, .int .i64 D.speed] 25)) := (Ext.refl w).alloc _
  have HCA := hid (can_ref D lv dv rv rs wrong hour _ (hl.mono hx) (hd.mono hx) (hr.mono hx))
  obtain ⟨ca, ccap, rfl, hcl, hcell⟩ := hc
  have HRC := hid hcell
  have HAC := hid (ask_cases (D := D) (rs := rs) (wrong := wrong) (hour := hour) (cs := cs))
  unfold seaVal at HCA ⊢
  obtain ⟨E, hE⟩ : ∃ E, canErr D rs wrong hour = E := ⟨_, rfl⟩
  rw [hE] at HCA HAC
  obtain ⟨F, hF⟩ : ∃ F, searchErr D rs wrong hour cs = F := ⟨_, rfl⟩
  rw [hF] at HAC ⊢
  clear hl hd hr hcell hE hF
  gi_enter Try.func67, Try.ntmps67
  gi_wp2_with fail
  generalize w.alloc (.cells #[.int .i64 D.wide, .int .i64 D.high, lv, .int .i64 D.hours, dv, .int .i64 D.speed] 25) = w1 at *
  have hcb := cell_of hb1
  have HB := hid hb1
  have HX := hid hx
  clear hb1 hx
  rcases HAC.out with ⟨hE, rfl⟩ | ⟨hE, hsb, hcl2, hF⟩
  · clear HAC
    rcases hE with rfl | rfl | rfl
    all_goals
      gi_wp2_with (gi_at_call 24; ((with_reducible refine HCA.out.mono ?_); rintro e w2 ⟨vt, rfl, hx2, hvt⟩))
      all_goals first | exact (undefNo (by assumption)).elim | exact bodyPost_ret (v := .tuple #[.slice none 0 0, _]) (results_tmp2 (fn := Try.f67) (t := 10) (u := 11) rfl _ _ _) rfl ⟨_, rfl, HX.out.trans hx2, fun h => by cases h⟩
  · clear HAC
    rw [hcl2] at HCA
    have hbd := sea_bounds hsb
    have hmb := mul_bounds (inB_spec hbd.1) (inB_spec hbd.2.1)
    have hww : IntKind.i64.wrap (D.wide * D.high) = D.wide * D.high := by rw [IntKind.wrap_i64]; omega
    have hwm : IntKind.i64.wrap (D.wide * D.high - 1) = D.wide * D.high - 1 := by rw [IntKind.wrap_i64]; omega
    have HF := hid hF
    clear hsb hbd hcl2 hF
    cases b1 : inB (cs.length : Int) 1 8 with
    | false =>
      have hF13 : F = 13 := by rw [HF.out, if_pos (by unfold castsB; rw [b1]; rfl)]
      subst hF13
      clear HF
      rcases hE with rfl | rfl
      all_goals
        gi_wp2_with (first | (gi_at_call 24; ((with_reducible refine HCA.out.mono ?_); rintro e w2 ⟨vt, rfl, hx2, hvt⟩)) | (gi_at_call 39; ((with_reducible refine (in_b _ _ _ _ _ b1).mono ?_); rintro e wq ⟨rfl, rfl⟩)))
        all_goals first | exact (undefNo (by assumption)).elim | skip
        clear hvt
        gi_loopw [14, 15] (fun o i wr => o = .bool false ∧ Ext w1 wr) (fun _ _ _ => 0)
        case atStart => exact ⟨rfl, hx2⟩
        case round =>
          obtain ⟨rfl, hxr⟩ := hrel
          gi_wp2
          all_goals first | exact (undefNo (by assumption)).elim | exact bodyPost_ret (v := .tuple #[.slice none 0 0, _]) (results_tmp2 (fn := Try.f67) (t := 10) (u := 11) rfl _ _ _) rfl ⟨_, rfl, HX.out.trans hxr, fun h => by cases h⟩
    | true =>
      have h8 := inB_spec b1
      have HCS : Hid (castsB (D.wide * D.high) cs = allTo (castGood (D.wide * D.high) cs) cs.length) := by
        show castsB _ _ = _
        unfold castsB
        rw [b1, Bool.true_and]
      rcases hE with rfl | rfl
      all_goals
        gi_wp2_with (first | (gi_at_call 24; ((with_reducible refine HCA.out.mono ?_); rintro e w2 ⟨vt, rfl, hx2, hvt⟩; have hcb2 := cell_of (hx2.block HB.out)) ) | (gi_at_call 39; ((with_reducible refine (in_b _ _ _ _ _ b1).mono ?_); rintro e wq ⟨rfl, rfl⟩)))
        all_goals first | exact (undefNo (by assumption)).elim | skip
        have HX2 := hid hx2
        have HVT := hid hvt.out
        clear hvt hx2
        gi_loopw [14, 15] (fun o i wr => ∃ k : Nat, k ≤ cs.length ∧ o = .bool (allTo (castGood (D.wide * D.high) cs) k) ∧ i = .int .i64 k ∧ Ext w2 wr) (fun _ i _ => cs.length - (intOf i).toNat)
        case atStart => exact ⟨0, Nat.zero_le _, rfl, rfl, Ext.refl _⟩
        case round =>
          obtain ⟨k, hk, rfl, rfl, hxr⟩ := hrel
          have HXR := hid hxr
          clear hxr
          cases hok : allTo (castGood (D.wide * D.high) cs) k with
          | false =>
            have hF13 : F = 13 := by rw [HF.out, if_pos (by rw [HCS.out]; exact allTo_less hk hok)]
            subst hF13
            clear HF
            gi_wp2
            all_goals first | exact (undefNo (by assumption)).elim | exact bodyPost_ret (v := .tuple #[.slice none 0 0, _]) (results_tmp2 (fn := Try.f67) (t := 10) (u := 11) rfl _ _ _) rfl ⟨_, rfl, HX.out.trans (HX2.out.trans HXR.out), fun h => by cases h⟩
          | true =>
            by_cases hlt : k < cs.length
            · obtain ⟨cb, off, rfl, hcb3, c0, c1⟩ := HRC.out k hlt
              have hxe := fun e : Later wr => HX.out.trans (HX2.out.trans (HXR.out.trans e.grown))
              have HC := hid fun e : Later wr => And.intro (cell_of ((HX2.out.trans (HXR.out.trans e.grown)).block HB.out)) (And.intro (((hxe e).cell (p := ⟨cb, _, none⟩) hcb3).trans c0) (((hxe e).cell (p := ⟨cb, _, none⟩) hcb3).trans c1))
              have HNX : Hid (allTo (castGood (D.wide * D.high) cs) (k + 1) = (inB cs[k].cell 0 (D.wide * D.high - 1) && inB cs[k].far 0 9)) := by
                show allTo _ _ = _
                rw [allTo_succ, hok, Bool.true_and, castGood_eq hlt]
              clear c0 c1 hcb3 hxe hok
              generalize cs[k] = rp at *
              cases d1 : inB rp.cell 0 (D.wide * D.high - 1) with
              | false =>
                have HI1 := hid fun e : Later wr => in_b rp.cell 0 (D.wide * D.high - 1) false e.val d1
                rw [d1, Bool.false_and] at HNX
                gi_wp2_with fail
                refine quiet_wide 20 (by kernel_rfl) (by kernel_rfl) ?_
                simp only [List.take_succ_cons, List.take_zero, List.drop_succ_cons, List.drop_zero]
                have q1 := HC.out
                repeat (any_goals (first | go_big_quiet_step ((go_at_call 39; with_reducible exact Cal.quiet_same (HI1.out _))) | quiet_step ((go_at_call 39; with_reducible exact Cal.quiet_same (HI1.out _)))))
                refine wpQuiet_nil ?_
                rintro w5 ⟨⟨_, hx5⟩, rfl⟩
                clear q1
                clear HC
                gi_wp2
                all_goals first | exact (undefNo (by assumption)).elim | exact ⟨⟨k + 1, by omega, by rw [HNX.out], by go_num, HXR.out.trans hx5⟩, by simp [intOf]; omega⟩
              | true =>
                have HI1 := hid fun e : Later wr => in_b rp.cell 0 (D.wide * D.high - 1) true e.val d1
                have HI2 := hid fun e : Later wr => in_b rp.far 0 9 _ e.val rfl
                rw [d1, Bool.true_and] at HNX
                generalize inB rp.far 0 9 = bb at *
                gi_wp2_with fail
                refine quiet_wide 20 (by kernel_rfl) (by kernel_rfl) ?_
                simp only [List.take_succ_cons, List.take_zero, List.drop_succ_cons, List.drop_zero]
                have q1 := HC.out
                repeat (any_goals (first | go_big_quiet_step ((first | (go_at_call 39; with_reducible exact Cal.quiet_same (HI1.out _)) | (go_at_call 39; with_reducible exact Cal.quiet_same (HI2.out _)))) | quiet_step ((first | (go_at_call 39; with_reducible exact Cal.quiet_same (HI1.out _)) | (go_at_call 39; with_reducible exact Cal.quiet_same (HI2.out _))))))
                refine wpQuiet_nil ?_
                rintro w5 ⟨⟨_, hx5⟩, rfl⟩
                clear q1
                clear HC
                gi_wp2
                all_goals first | exact (undefNo (by assumption)).elim | exact ⟨⟨k + 1, by omega, by rw [HNX.out], by go_num, HXR.out.trans hx5⟩, by simp [intOf]; omega⟩
            · obtain rfl : k = cs.length := by omega
              obtain ⟨ta, tc, rfl⟩ := HVT.out.isSliceN
              have hFE := HF.out
              rw [if_neg (by rw [HCS.out, hok]; simp)] at hFE
              subst hFE
              clear HF
              gi_wp2
              all_goals first | exact (undefNo (by assumption)).elim | exact bodyPost_ret (v := .tuple #[.slice ta _ tc, _]) (results_tmp2 (fn := Try.f67) (t := 10) (u := 11) rfl _ _ _) rfl ⟨_, rfl, HX.out.trans (HX2.out.trans HXR.out), fun _ => HVT.out.mono HXR.out⟩ | exact bodyPost_ret (v := .tuple #[.slice ta _ tc, _]) (results_tmp2 (fn := Try.f67) (t := 10) (u := 11) rfl _ _ _) rfl ⟨_, rfl, HX.out.trans (HX2.out.trans HXR.out), HVT.out.mono HXR.out⟩


theorem search_cases {D : SeaD} {rs : List Rep} {wrong hour : Int} {cs : List Cst} : searchErr D rs wrong hour cs = 10 ∨ searchErr D rs wrong hour cs = 11 ∨ searchErr D rs wrong hour cs = 7 ∨ searchErr D rs wrong hour cs = 13 ∨ searchErr D rs wrong hour cs = 12 ∨ (searchErr D rs wrong hour cs = 0 ∧ seaB D = true ∧ castsB (D.wide * D.high) cs = true) := by
  rcases ask_cases (D := D) (rs := rs) (wrong := wrong) (hour := hour) (cs := cs) with ⟨h1, h2⟩ | ⟨h1, h2, _, h3⟩
  · rw [h2]; omega
  · cases hc : castsB (D.wide * D.high) cs with
    | false => rw [hc, if_pos rfl] at h3; omega
    | true =>
      rw [hc, if_neg (by simp)] at h3
      rw [h3]
      rcases h1 with h1 | h1
      · omega
      · exact .inr (.inr (.inr (.inr (.inr ⟨h1, h2, rfl⟩))))
/-- How many of the first cells a cast hears. -/
def inTo (D : SeaD) (c : Cst) (l : List Nat) (j : Nat) : Nat := (l.take j).countP (hearC D c)
theorem inTo_succ (D : SeaD) (c : Cst) {l : List Nat} {j : Nat} (h : j < l.length) : inTo D c l (j + 1) = inTo D c l j + (if hearC D c l[j] then 1 else 0) := by
  unfold inTo
  rw [List.take_add_one, List.countP_append]
  simp [h, List.countP_singleton]
theorem inTo_le (D : SeaD) (c : Cst) (l : List Nat) (j : Nat) : inTo D c l j ≤ j := by
  unfold inTo
  exact Nat.le_trans List.countP_le_length (by simp; omega)
theorem wOf_in (D : SeaD) (c : Cst) (l : List Nat) : wOf D (placesOf D l) c = if (inTo D c l l.length : Int) < (l.length : Int) - inTo D c l l.length then (l.length : Int) - inTo D c l l.length else inTo D c l l.length := by
  have h1 : (leftOf (col (seaOf D) c.cell) (row (seaOf D) c.cell) c.far (placesOf D l)).length + inTo D c l l.length = l.length := by
    unfold inTo leftOf placesOf
    rw [List.take_length, List.filter_map, List.length_map, List.length_eq_countP_add_countP (p := hearC D c) (l := l), ← List.countP_eq_length_filter, Nat.add_comm]
    congr 1
    refine List.countP_congr fun k _ => ?_
    unfold hearC plcOf
    simp
  unfold wOf worstOf
  have h2 : (placesOf D l).length = l.length := by unfold placesOf; rw [List.length_map]
  rw [h2]
  unfold maxL
  simp only [List.foldl]
  split <;> split <;> omega
def refTo (D : SeaD) (l : List Nat) (cs : List Cst) : Nat → Nat × Int
  | 0 => (0, (l.length : Int) + 1)
  | k + 1 => if wOf D (placesOf D l) (cs.getD k ⟨0, 0⟩) < (refTo D l cs k).2 then (k, wOf D (placesOf D l) (cs.getD k ⟨0, 0⟩)) else refTo D l cs k
theorem wOf_le (D : SeaD) (c : Cst) (l : List Nat) : 0 ≤ wOf D (placesOf D l) c ∧ wOf D (placesOf D l) c ≤ l.length := by
  rw [wOf_in]
  have := inTo_le D c l l.length
  split <;> omega
theorem refTo_next (D : SeaD) (l : List Nat) (cs : List Cst) : ∀ k, refTo D l cs (k + 1) = nextTo D (placesOf D l) cs (k + 1)
  | 0 => by
    have := wOf_le D (cs.getD 0 ⟨0, 0⟩) l
    unfold refTo nextTo refTo
    try simp only
    rw [if_pos (by omega), if_pos (by rfl)]
  | k + 1 => by
    have ih := refTo_next D l cs k
    rw [refTo, nextTo, ih]
    simp
theorem refTo_ok (D : SeaD) (l : List Nat) (cs : List Cst) : ∀ k, (refTo D l cs k).1 ≤ k ∧ 0 ≤ (refTo D l cs k).2 ∧ (refTo D l cs k).2 ≤ l.length + 1
  | 0 => by unfold refTo; (try simp only); omega
  | k + 1 => by
    have ih := refTo_ok D l cs k
    have := wOf_le D (cs.getD k ⟨0, 0⟩) l
    rw [refTo]
    split <;> (try simp only) <;> omega

set_option maxRecDepth 100000 in
set_option maxHeartbeats 8000000 in
theorem next_ref (D : SeaD) (lv dv rv cv : Value) (rs : List Rep) (wrong hour : Int) (cs : List Cst) (w : World) (hl : IntsAt w lv D.land) (hd : StepsAt w dv D.drift) (hr : RepsAt w rv rs) (hc : CastsAt w cv cs) :
    Cal 28 #[seaVal D lv dv, rv, .int .i64 wrong, .int .i64 hour, cv] w fun e w' => e = .returned (.tuple #[.int .i64 (nextRes D rs wrong hour cs).1, .int .i64 (nextRes D rs wrong hour cs).2, .int .i64 (searchErr D rs wrong hour cs)]) ∧ Ext w w' := by
  have hb1 : (w.alloc (.cells #[.int .i64 D.wide, .int .i64 D.high, lv, .int .i64 D.hours, dv, .int .i64 D.speed] 25)).heap[w.heap.size]? = some (.cells #[.int .i64 D.wide, .int .i64 D.high, lv, .int .i64 D.hours, dv, .int .i64 D.speed] 25 (0, 0)) := Ext.new (Ext.refl _)
  have hx : Ext w (w.alloc (.cells #[.int .i64 D.wide, .int .i64 D.high, lv, .int .i64 D.hours, dv, .int .i64 D.speed] 25)) := (Ext.refl w).alloc _
  have HAK := hid (askC_ref D lv dv rv cv rs wrong hour cs _ (hl.mono hx) (hd.mono hx) (hr.mono hx) (hc.mono hx))
  have HSE := hid (search_cases (D := D) (rs := rs) (wrong := wrong) (hour := hour) (cs := cs))
  have HRN : Hid (searchErr D rs wrong hour cs ≠ 0 → nextRes D rs wrong hour cs = (0, 0)) := fun h => if_pos h
  have HRZ : Hid (searchErr D rs wrong hour cs = 0 → nextRes D rs wrong hour cs = nextTo D (placesOf D (canF D rs wrong hour.toNat)) cs cs.length) := fun h => if_neg (by rw [h]; simp)
  obtain ⟨ca, ccap, rfl, hcl, hcell⟩ := hc
  have HRC := hid hcell
  have HCO := hid fun (c : Cst) (k : Nat) (e : World) (hw : 1 ≤ D.wide ∧ D.wide ≤ 10) (hc : 0 ≤ c.cell ∧ c.cell ≤ 1000) (hk : k ≤ 1000) => covers_ref D lv dv c k e hw hc hk
  have HLN := hid fun (h : seaB D = true) => canF_len D h rs wrong hour.toNat
  have HLM : Hid (seaB D = true → ∀ c, c ∈ canF D rs wrong hour.toNat → c ≤ 1000) := fun hsb c hc => by
    have hmb := mul_bounds (inB_spec (sea_bounds hsb).1) (inB_spec (sea_bounds hsb).2.1)
    rw [← canTo_all] at hc
    unfold canTo at hc
    have := List.mem_range.mp (List.mem_filter.mp hc).1
    omega
  unfold seaVal at HAK HCO ⊢
  obtain ⟨E, hE⟩ : ∃ E, searchErr D rs wrong hour cs = E := ⟨_, rfl⟩
  rw [hE] at HAK HSE HRN HRZ ⊢
  generalize nextRes D rs wrong hour cs = RS at *
  generalize canF D rs wrong hour.toNat = L at *
  clear hl hd hr hcell hE
  gi_enter Try.func28, Try.ntmps28
  gi_wp2_with fail
  generalize w.alloc (.cells #[.int .i64 D.wide, .int .i64 D.high, lv, .int .i64 D.hours, dv, .int .i64 D.speed] 25) = w1 at *
  have hcb := cell_of hb1
  have HB := hid hb1
  have HX := hid hx
  clear hb1 hx
  rcases HSE.out with rfl | rfl | rfl | rfl | rfl | ⟨rfl, hsb, hcb2⟩
  case inr.inr.inr.inr.inr =>
    have hRS := HRZ.out rfl
    have hck := casts_ok hsb hcb2
    have hw := inB_spec (sea_bounds hsb).1
    have h80 := HLN.out hsb
    have HLC := hid (HLM.out hsb)
    have h8 := hck.1
    have HCK := hid hck.2.2
    have hcsl := hck.2.1
    have hlast : nextTo D (placesOf D L) cs cs.length = refTo D L cs cs.length := by
      obtain ⟨m, hm⟩ : ∃ m, cs.length = m + 1 := ⟨cs.length - 1, by omega⟩
      rw [hm, refTo_next]
    rw [hlast] at hRS
    have HRS := hid hRS
    clear HSE HRN HRZ HLN HLM hsb hcb2 hRS hck hlast
    gi_wp2_with (gi_at_call 67; ((with_reducible refine HAK.out.mono ?_); rintro e w2 ⟨vt, rfl, hx2, hvt⟩; have hcb2 := cell_of (hx2.block HB.out); obtain ⟨ta, tc, rfl⟩ := (hvt.out (by first | trivial | rfl)).isSliceN))
    obtain ⟨la, lc, hvl, _, hlc⟩ := (hvt.out (by first | trivial | rfl)).ints (by omega)
    rw [intsOf_length] at hvl
    cases hvl
    have HLV : Hid (∀ j (hj : j < L.length), ∃ b off, ta = some ⟨b, off, none⟩ ∧ b < w2.heap.size ∧ w2.cell? ⟨b, off + j, none⟩ = some (.int .i64 (L[j] : Nat))) := fun j hj => by
      obtain ⟨b, off, h1, h2, h3⟩ := hlc j (by rw [intsOf_length]; exact hj)
      refine ⟨b, off, h1, h2, h3.trans ?_⟩
      unfold intsOf
      simp
    have HX2 := hid hx2
    clear hx2 hvt hlc HAK
    gi_loopw [15, 16, 17] (fun wv lv i wr => ∃ k : Nat, k ≤ cs.length ∧ wv = .int .i64 ((refTo D L cs k).1 : Nat) ∧ lv = .int .i64 (refTo D L cs k).2 ∧ i = .int .i64 k ∧ Ext w2 wr) (fun _ _ i _ => cs.length - (intOf i).toNat)
    case atStart => exact ⟨0, Nat.zero_le _, rfl, by go_num, rfl, Ext.refl _⟩
    case round =>
      obtain ⟨k, hk, rfl, rfl, rfl, hxr⟩ := hrel
      have HXR := hid hxr
      clear hxr
      have hok := refTo_ok D L cs k
      by_cases hlt : k < cs.length
      · obtain ⟨cb, off, rfl, hcb3, c0, c1⟩ := HRC.out k hlt
        have HRT : Hid (refTo D L cs (k + 1) = if wOf D (placesOf D L) cs[k] < (refTo D L cs k).2 then (k, wOf D (placesOf D L) cs[k]) else refTo D L cs k) := by
          show refTo _ _ _ _ = _
          rw [refTo, getD_of hlt]
        have HW := hid (wOf_in D cs[k] L)
        have hck := (HCK.out cs[k] (List.getElem_mem _)).1
        have HCC := hid (And.intro hcb3 (And.intro c0 c1))
        have HCOk := hid fun (j : Nat) (e : World) (hk : j ≤ 1000) => HCO.out cs[k] j e hw hck hk
        clear c0 c1 hcb3
        generalize cs[k] = rp at *
        gi_wp2_with fail
        obtain ⟨w0, rfl⟩ : ∃ w0, w0 = wr := ⟨wr, rfl⟩
        gi_loopw [18, 19] (fun n i wr => ∃ j : Nat, j ≤ L.length ∧ n = .int .i64 (inTo D rp L j : Nat) ∧ i = .int .i64 j ∧ Ext w2 wr) (fun _ i _ => L.length - (intOf i).toNat)
        case atStart => exact ⟨0, Nat.zero_le _, rfl, rfl, HXR.out⟩
        case round =>
          obtain ⟨j, hj, rfl, rfl, hxq⟩ := hrel
          have HXQ := hid hxq
          clear hxq
          have hin := inTo_le D rp L j
          by_cases hjl : j < L.length
          · obtain ⟨lb, loff, rfl, hlb, hlcell⟩ := HLV.out j hjl
            have HIS := hid (inTo_succ D rp hjl)
            have HUj := hid fun e : Later wr => HCOk.out L[j] e.val (HLC.out L[j] (List.getElem_mem _))
            have HC := hid fun e : Later wr => And.intro (cell_of ((HX2.out.trans (HXQ.out.trans e.grown)).block HB.out)) (And.intro (((HX.out.trans (HX2.out.trans (HXQ.out.trans e.grown))).cell (p := ⟨cb, _, none⟩) HCC.out.1).trans HCC.out.2.1) (And.intro (((HX.out.trans (HX2.out.trans (HXQ.out.trans e.grown))).cell (p := ⟨cb, _, none⟩) HCC.out.1).trans HCC.out.2.2) (((HXQ.out.trans e.grown).cell (p := ⟨lb, _, none⟩) hlb).trans hlcell)))
            clear hlb hlcell
            generalize inTo D rp L j = nn at *
            generalize hearC D rp L[j] = bt at *
            generalize L[j] = cj at *
            cases bt
            all_goals
              gi_wp2_with fail
              refine quiet_wide 10 (by kernel_rfl) (by kernel_rfl) ?_
              simp only [List.take_succ_cons, List.take_zero, List.drop_succ_cons, List.drop_zero]
              have q1 := HC.out
              repeat (any_goals (first | go_big_quiet_step ((go_at_call 68; with_reducible exact Cal.quiet (HUj.out _))) | quiet_step ((go_at_call 68; with_reducible exact Cal.quiet (HUj.out _)))))
              refine wpQuiet_nil ?_
              rintro w5 ⟨⟨_, hx5⟩, rfl⟩
              clear q1
              clear HC HUj
              gi_wp2
              all_goals exact ⟨⟨j + 1, by omega, by rw [HIS.out]; go_num, by go_num, HXQ.out.trans hx5⟩, by simp [intOf]; omega⟩
          · obtain rfl : j = L.length := by omega
            generalize inTo D rp L L.length = nn at *
            by_cases hm : (nn : Int) < (L.length : Int) - nn
            · rw [if_pos hm] at HW
              rw [HW.out] at HRT
              have m1 : (L.length : Int) - nn > nn := hm
              by_cases hz : (L.length : Int) - nn < (refTo D L cs k).2
              · rw [if_pos hz] at HRT
                have dz : decide ((L.length : Int) - nn < (refTo D L cs k).2) = true := decide_eq_true hz
                gi_wp2
                all_goals exact ⟨⟨k + 1, by omega, by rw [HRT.out], by rw [HRT.out], by go_num, HXQ.out⟩, by simp [intOf]; omega⟩
              · rw [if_neg hz] at HRT
                have dz : decide ((L.length : Int) - nn < (refTo D L cs k).2) = false := decide_eq_false hz
                gi_wp2
                all_goals exact ⟨⟨k + 1, by omega, by rw [HRT.out], by rw [HRT.out], by go_num, HXQ.out⟩, by simp [intOf]; omega⟩
            · rw [if_neg hm] at HW
              rw [HW.out] at HRT
              have m1 : ¬ (L.length : Int) - nn > nn := hm
              by_cases hz : (nn : Int) < (refTo D L cs k).2
              · rw [if_pos hz] at HRT
                have dz : decide ((nn : Int) < (refTo D L cs k).2) = true := decide_eq_true hz
                gi_wp2
                all_goals exact ⟨⟨k + 1, by omega, by rw [HRT.out], by rw [HRT.out], by go_num, HXQ.out⟩, by simp [intOf]; omega⟩
              · rw [if_neg hz] at HRT
                have dz : decide ((nn : Int) < (refTo D L cs k).2) = false := decide_eq_false hz
                gi_wp2
                all_goals exact ⟨⟨k + 1, by omega, by rw [HRT.out], by rw [HRT.out], by go_num, HXQ.out⟩, by simp [intOf]; omega⟩
      · obtain rfl : k = cs.length := by omega
        gi_wp2
        all_goals exact bodyPost_ret (v := .tuple #[_, _, .int .i64 0]) (results_tmp3 (fn := Try.f28) (t := 10) (u := 11) (v := 12) rfl _ _ _) rfl ⟨by rw [HRS.out]; rfl, HX.out.trans (HX2.out.trans HXR.out)⟩
  all_goals
    have hRS := hid (HRN.out (by decide))
    clear HSE HRN HRZ HLN HLM HCO
    gi_wp2_with (gi_at_call 67; ((with_reducible refine HAK.out.mono ?_); rintro e w2 ⟨vt, rfl, hx2, hvt⟩))
    exact bodyPost_ret (v := .tuple #[.int .i64 0, .int .i64 0, _]) (results_tmp3 (fn := Try.f28) (t := 10) (u := 11) (v := 12) rfl _ _ _) rfl ⟨by rw [hRS.out]; rfl, HX.out.trans hx2⟩
end Go.Proofs.Ytlgcnjcbmihefaa
