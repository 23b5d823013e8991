/- The track that numbers choose. -/
import Derived.Test.YtlgcnjcbmihefaaXV
set_option linter.unusedSimpArgs false
set_option linter.unusedVariables false
namespace Go.Proofs.Ytlgcnjcbmihefaa
open Go Go.RowKit Go.Shelf

/-- Whether a cell can come in an hour behind another one. -/
def eastI (D : SeaD) (h prev c : Nat) : Int := (c : Int) % D.wide - (prev : Int) % D.wide - stepE D.drift h
def northI (D : SeaD) (h prev c : Nat) : Int := (c : Int) / D.wide - (prev : Int) / D.wide - stepN D.drift h
def nearB (D : SeaD) (h prev c : Nat) : Bool := decide (max (-eastI D h prev c) (eastI D h prev c) ≤ D.speed) && decide (max (-northI D h prev c) (northI D h prev c) ≤ D.speed)
def candB (D : SeaD) (h : Nat) (t : List Nat) (c : Nat) : Bool := !decide (0 ≤ placeI D.land c) && (h == 0 || nearB D (h - 1) (t.getD (h - 1) 0) c)
def candF (D : SeaD) (h : Nat) (t : List Nat) (k : Nat) : List Nat := (List.range k).filter (candB D h t)
theorem candF_succ (D : SeaD) (h : Nat) (t : List Nat) (k : Nat) : candF D h t (k + 1) = candF D h t k ++ if candB D h t k then [k] else [] := by
  unfold candF
  rw [List.range_succ, List.filter_append]
  congr 1
  cases e : candB D h t k <;> simp [e]
theorem candF_len (D : SeaD) (h : Nat) (t : List Nat) (k : Nat) : (candF D h t k).length ≤ k := Nat.le_trans (List.length_filter_le _ _) (by simp)
theorem candF_lt {D : SeaD} {h : Nat} {t : List Nat} {k c : Nat} (hc : c ∈ candF D h t k) : c < k ∧ candB D h t c = true := ⟨List.mem_range.1 (List.mem_filter.1 hc).1, (List.mem_filter.1 hc).2⟩
def swumStep (D : SeaD) (bits : List Int) (h : Nat) (t : List Nat) : List Nat :=
  if t.length < h then t else if (candF D h t (D.wide * D.high).toNat).length = 0 then t else t ++ [(pickI (intsOf (candF D h t (D.wide * D.high).toNat)) (pickI bits h)).toNat]
def swumTo (D : SeaD) (bits : List Int) : Nat → List Nat
  | 0 => []
  | h + 1 => swumStep D bits h (swumTo D bits h)
theorem swumTo_len (D : SeaD) (bits : List Int) : ∀ h, (swumTo D bits h).length ≤ h
  | 0 => Nat.le_refl _
  | h + 1 => by
    have ih := swumTo_len D bits h
    show (swumStep D bits h (swumTo D bits h)).length ≤ h + 1
    unfold swumStep
    split
    · omega
    · split
      · omega
      · rw [List.length_append, List.length_singleton]; omega
theorem swumTo_lt (D : SeaD) (bits : List Int) : ∀ h, ∀ c ∈ swumTo D bits h, c < (D.wide * D.high).toNat
  | 0 => fun c hc => by cases hc
  | h + 1 => by
    have ih := swumTo_lt D bits h
    show ∀ c ∈ swumStep D bits h (swumTo D bits h), _
    unfold swumStep
    split
    · exact ih
    · split
      · exact ih
      · rename_i _ h0
        intro c hc
        rcases List.mem_append.mp hc with hc | hc
        · exact ih c hc
        · have hm := pickI_mem (xs := intsOf (candF D h (swumTo D bits h) (D.wide * D.high).toNat)) (k := pickI bits h) (by unfold intsOf; rw [List.length_map]; exact h0)
          obtain ⟨d, hd, he⟩ := List.mem_map.mp hm
          have := (candF_lt hd).1
          rw [List.mem_singleton] at hc
          rw [← he] at hc
          simp at hc
          omega
theorem swumTo_stop (D : SeaD) (bits : List Int) {h : Nat} (hs : (swumTo D bits h).length < h) : ∀ j, swumTo D bits (h + j) = swumTo D bits h
  | 0 => rfl
  | j + 1 => by
    have ih := swumTo_stop D bits hs j
    show swumStep D bits (h + j) (swumTo D bits (h + j)) = _
    rw [ih]
    unfold swumStep
    rw [if_pos (by omega)]

set_option maxRecDepth 100000 in
set_option maxHeartbeats 4000000 in
theorem swum_any (D : SeaD) (bits : List Int) (lv dv bv : Value) (w : World) (hb : seaB D = true) (hl : IntsAt w lv D.land) (hd : StepsAt w dv D.drift) (hbv : IntsAt w bv bits) :
    Cal 32 #[seaVal D lv dv, bv] w fun e w' => ∃ v, e = .returned v ∧ Ext w w' ∧ Hid (Row w' 3 1 v (swumTo D bits D.hours.toNat).length (natVals (swumTo D bits D.hours.toNat))) := by
  unfold seaVal
  have hbd := sea_bounds hb
  have hww := inB_spec hbd.1
  have hwh := inB_spec hbd.2.1
  have hhh := inB_spec hbd.2.2.1
  have h80 := seaB_80 hb
  have HST := hid (steps_ok hb)
  have hmul : 1 ≤ D.wide * D.high := Int.mul_pos (by omega) (by omega)
  obtain ⟨N, hN⟩ : ∃ N : Nat, D.wide * D.high = N := ⟨(D.wide * D.high).toNat, by omega⟩
  obtain ⟨H, hH⟩ : ∃ H : Nat, D.hours = H := ⟨D.hours.toNat, by omega⟩
  have HHT : Hid (D.hours.toNat = H) := by show D.hours.toNat = H; omega
  have HNT : Hid ((D.wide * D.high).toNat = N) := by show (D.wide * D.high).toNat = N; omega
  rw [HHT.out]
  have HL := hid hl
  have HBV := hid hbv
  obtain ⟨da, dcap, rfl, hdl, hdc⟩ := hd
  have HDC := hid hdc
  clear hl hbv hdc hbd
  have HSL := hid (swumTo_len D bits)
  have HLT := hid (swumTo_lt D bits)
  have hspd : 0 ≤ D.speed ∧ D.speed ≤ 2 := by
    have h1 := hb
    unfold seaB at h1
    simp only [Bool.and_eq_true] at h1
    exact inB_spec h1.1.1.1.2
  clear hb
  gi_enter Try.func32, Try.ntmps32
  have HBX : Hid ((w.alloc (.cells #[.int .i64 D.wide, .int .i64 D.high, lv, .int .i64 D.hours, .slice da D.drift.length dcap, .int .i64 D.speed] 25)).heap[w.heap.size]? = some (.cells #[.int .i64 D.wide, .int .i64 D.high, lv, .int .i64 D.hours, .slice da D.drift.length dcap, .int .i64 D.speed] 25 (0, 0))) := Ext.new (Ext.refl _)
  have HX0 : Hid (Ext w (w.alloc (.cells #[.int .i64 D.wide, .int .i64 D.high, lv, .int .i64 D.hours, .slice da D.drift.length dcap, .int .i64 D.speed] 25))) := (Ext.refl w).alloc _
  rw [hH] at HBX HX0
  rw [hH]
  gi_wp2_with fail
  generalize w.alloc (.cells #[.int .i64 D.wide, .int .i64 D.high, lv, .int .i64 H, .slice da D.drift.length dcap, .int .i64 D.speed] 25) = w1 at *
  gi_loopw [5, 6] (fun v i wr => ∃ h : Nat, h ≤ H ∧ i = .int .i64 h ∧ Hid ((swumTo D bits h).length = h ∧ Ext w1 wr ∧ Row wr 3 1 v (swumTo D bits h).length (natVals (swumTo D bits h)) ∧ ∀ g, v.ownBlock = some g → w1.heap.size ≤ g)) (fun _ i _ => H - (intOf i).toNat)
  case atStart => exact ⟨0, Nat.zero_le _, rfl, rfl, Ext.refl _, Row.nil _ _ _, fun g hg => by simp [Value.ownBlock] at hg⟩
  case round =>
    obtain ⟨h, hh, rfl, hO⟩ := hrel
    have hcb := cell_of (hO.out.2.1.block HBX.out)
    by_cases hlt : h < H
    · have htl := hO.out.1
      have HTL := hid hO.out.1
      have HSTEP : Hid (swumTo D bits (h + 1) = if (candF D h (swumTo D bits h) N).length = 0 then swumTo D bits h else swumTo D bits h ++ [(pickI (intsOf (candF D h (swumTo D bits h) N)) (pickI bits h)).toNat]) := by
        show swumStep D bits h (swumTo D bits h) = _
        unfold swumStep
        rw [if_neg (by omega), HNT.out]
      have HTLT := hid fun c (hc : c ∈ swumTo D bits h) => (by have := HLT.out h c hc; rw [HNT.out] at this; exact this : c < N)
      have HSTOP : Hid ((swumTo D bits (h + 1)).length < h + 1 → swumTo D bits H = swumTo D bits (h + 1)) := fun hs => by
        have := swumTo_stop D bits hs (H - (h + 1))
        rwa [show h + 1 + (H - (h + 1)) = H by omega] at this
      clear htl
      generalize swumTo D bits h = t at *
      have htl := HTL.out
      gi_wp2_with fail
      have HOO := hid hO.out
      clear hO hcb
      obtain ⟨wo, rfl⟩ : ∃ wo, wo = wr := ⟨wr, rfl⟩
      gi_loopw [7, 8] (fun v i u => ∃ c : Nat, c ≤ N ∧ i = .int .i64 c ∧ Hid (Ext wo u ∧ Row u 3 1 v (candF D h t c).length (natVals (candF D h t c)) ∧ ∀ g, v.ownBlock = some g → wo.heap.size ≤ g)) (fun _ i _ => N - (intOf i).toNat)
      case atStart => exact ⟨0, Nat.zero_le _, rfl, Ext.refl _, Row.nil _ _ _, fun g hg => by simp [Value.ownBlock] at hg⟩
      case round =>
        obtain ⟨c, hc, rfl, hI⟩ := hrel
        have hcb := cell_of ((HOO.out.2.1.trans hI.out.1).block HBX.out)
        by_cases hcl : c < N
        · have hdlt : decide ((c : Int) < D.wide * D.high) = true := by rw [decide_eq_true_eq]; omega
          have HPL := hid (Place_any lv D.land c wr (HL.out.mono (HX0.out.trans (HOO.out.2.1.trans hI.out.1))))
          have HTO := hid (candF_succ D h t c)
          have hll := candF_len D h t c
          have hcd : candB D h t c = (!decide (0 ≤ placeI D.land c) && (h == 0 || nearB D (h - 1) (t.getD (h - 1) 0) c)) := rfl
          rw [hcd] at HTO
          have HI := hid hI.out
          clear hI hcd
          cases hpl : decide (0 ≤ placeI D.land c) with
          | true =>
            have HTO2 : Hid (candF D h t (c + 1) = candF D h t c) := by
              show _ = _
              rw [HTO.out, hpl]; simp
            generalize placeI D.land c = r at *
            clear HTO
            gi_wp2_with (gi_at_call 34; ((with_reducible refine HPL.out.mono ?_); rintro e w5 ⟨rfl, hx5⟩))
            go_roundw
            case rel => exact ⟨c + 1, by omega, by go_num, HI.out.1.trans hx5, by rw [HTO2.out]; exact HI.out.2.1.mono hx5, HI.out.2.2⟩
            case measure => simp [intOf]; omega
          | false =>
            by_cases h0 : h = 0
            · have HTO2 : Hid (candF D h t (c + 1) = candF D h t c ++ [c]) := by
                show _ = _
                rw [HTO.out, hpl, h0]; simp
              have hgt : decide ((0 : Int) < (h : Int)) = false := by rw [decide_eq_false_iff_not]; omega
              have hgt2 : decide (0 < h) = false := by rw [decide_eq_false_iff_not]; omega
              generalize placeI D.land c = r at *
              clear HTO h0
              obtain ⟨i0, hi0, hz0, hz1, hz2⟩ := info_parts info3
              have HZ := hid (And.intro hi0 (And.intro hz0 (And.intro hz1 hz2)))
              clear hi0 hz0 hz1 hz2
              have hmax : (candF D h t c).length + 1 ≤ 1000000000 := by omega
              gi_wp2_with (first | (gi_at_call 34; ((with_reducible refine HPL.out.mono ?_); rintro e w5 ⟨rfl, hx5⟩; have HXX := hid hx5; have HRWW := hid ((HI.out.2.1.mono HXX.out).mono ((Ext.refl w5).alloc (.cells #[.int .i64 c] 3))); have HNW : Hid (∀ j u, [Value.int .i64 c][j]? = some u → (w5.alloc (.cells #[.int .i64 c] 3)).cell? ((⟨w5.heap.size, 0, none⟩ : Addr).add j) = some u) := (fun j u hj => by rw [Addr.add_mid, Nat.zero_add, new_cell _ _ rfl]; simpa using hj))) | (refine wpIn_append_row (fun _ => trivial) rfl (.tmp 85) (.tmp 87) rfl Try.underlying22 HZ.out.1 HZ.out.2.1 HZ.out.2.2.1 HZ.out.2.2.2 (by simp [Value.cells]) (by omega) (v := u7) rfl HRWW.out ⟨w5.heap.size, 0, none⟩ 1 rfl [.int .i64 c] rfl HNW.out (fun u hu => by simp at hu; subst hu; rfl) hmax (by omega) ?_; intro v' w' hrow' hgr' how'))
              have hxb : Ext wr (w5.alloc (.cells #[.int .i64 c] 3)) := Ext.alloc HXX.out _
              have hbel : Ext wo w' := Below.trans (Ext.trans HI.out.1 hxb) ⟨hgr'.os, hgr'.tape, hgr'.output, hgr'.size, fun j hj => hgr'.block j (by have := (Ext.trans HI.out.1 hxb).size; omega) (fun e => by have := HI.out.2.2 j e.symm; omega)⟩
              have hsz := (Ext.trans HI.out.1 hxb).size
              go_roundw
              case rel =>
                refine ⟨c + 1, by omega, by go_num, hbel, ?_, fun g hg => ?_⟩
                · rw [HTO2.out]
                  show Row w' 3 1 v' (candF D h t c ++ [c]).length (natVals (candF D h t c ++ [c]))
                  rw [natVals_append, List.length_append]
                  exact hrow'
                · rcases how' with e | e
                  · exact HI.out.2.2 g (by rw [← e]; exact hg)
                  · rw [hg] at e; cases e; have := (Ext.trans HI.out.1 HXX.out).size; omega
              case measure => simp [intOf]; omega
            · obtain ⟨m, hm⟩ : ∃ m, h = m + 1 := ⟨h - 1, by omega⟩
              have hml : m < t.length := by omega
              obtain ⟨a5, c5, hu5, hn5⟩ := HOO.out.2.2.1.nats
              subst hu5
              obtain ⟨g5, hg5, hgl5, hgc5⟩ := hn5 m hml
              subst hg5
              have hpv := HTLT.out t[m] (List.getElem_mem _)
              have hdm : m < D.drift.length := by have := HST.out.1; omega
              obtain ⟨db, doff, rfl, hdb, hde, hdn⟩ := HDC.out m hdm
              have hst := HST.out.2 m hdm
              have HNB : Hid (nearB D (h - 1) (t.getD (h - 1) 0) c = (decide (max (-((c : Int) % D.wide - (t[m] : Nat) % D.wide - D.drift[m].east)) ((c : Int) % D.wide - (t[m] : Nat) % D.wide - D.drift[m].east) ≤ D.speed) && decide (max (-((c : Int) / D.wide - (t[m] : Nat) / D.wide - D.drift[m].north)) ((c : Int) / D.wide - (t[m] : Nat) / D.wide - D.drift[m].north) ≤ D.speed))) := by
                show _ = _
                rw [show h - 1 = m by omega, getD_of hml]
                unfold nearB eastI northI stepE stepN
                rw [getD_of hdm]
              rw [HNB.out] at HTO
              have h1 := Int.emod_nonneg (c : Int) (show D.wide ≠ 0 by omega)
              have h2 := Int.emod_lt_of_pos (c : Int) (show 0 < D.wide by omega)
              have h3 := Int.emod_nonneg ((t[m] : Nat) : Int) (show D.wide ≠ 0 by omega)
              have h4 := Int.emod_lt_of_pos ((t[m] : Nat) : Int) (show 0 < D.wide by omega)
              have h5 := Int.ediv_nonneg (show (0 : Int) ≤ c by omega) (show 0 ≤ D.wide by omega)
              have h6 := Int.ediv_le_self D.wide (show (0 : Int) ≤ c by omega)
              have h7 := Int.ediv_nonneg (show (0 : Int) ≤ (t[m] : Nat) by omega) (show 0 ≤ D.wide by omega)
              have h8 := Int.ediv_le_self D.wide (show (0 : Int) ≤ (t[m] : Nat) by omega)
              have hgt : decide ((0 : Int) < (h : Int)) = true := by rw [decide_eq_true_eq]; omega
              have hgt2 : decide (0 < h) = true := by rw [decide_eq_true_eq]; omega
              have hkm : (h : Int) - 1 = m := by omega
              have HM := hid hm
              have hh0 : (h == 0) = false := by simpa using h0
              have HXB := fun (e : World) (hx : Ext wr e) => HOO.out.2.1.trans (HI.out.1.trans hx)
              have HT5 := hid fun (e : World) (hx : Ext wr e) => ((HI.out.1.trans hx).cell (p := ⟨g5, m, none⟩) hgl5).trans hgc5
              have HD5 := hid fun (e : World) (hx : Ext wr e) => And.intro (((HX0.out.trans (HXB e hx)).cell (p := ⟨db, _, none⟩) hdb).trans hde) (((HX0.out.trans (HXB e hx)).cell (p := ⟨db, _, none⟩) hdb).trans hdn)
              have HB5 := hid fun (e : World) (hx : Ext wr e) => cell_of ((HXB e hx).block HBX.out)
              clear htl
              clear hm h0 hn5 hgl5 hgc5 hdb hde hdn HXB
              generalize placeI D.land c = r at *
              rw [hh0, Bool.false_or] at HTO
              generalize hpg : t[m] = pv at *
              clear hpg
              gi_wp2_with (gi_at_call 34; ((with_reducible refine HPL.out.mono ?_); rintro e w5 ⟨rfl, hx5⟩; have HX5 := hid hx5; have hcb5 := HB5.out w5 hx5; have hct5 := HT5.out w5 hx5))
              have HC := hid fun e : Later w5 => And.intro (HB5.out e.val (HX5.out.trans e.grown)) (HD5.out e.val (HX5.out.trans e.grown))
              clear hx5
              refine quiet_wide 36 (by kernel_rfl) (by kernel_rfl) ?_
              simp only [List.take_succ_cons, List.take_zero, List.drop_succ_cons, List.drop_zero]
              have q1 := HC.out
              repeat (any_goals (first | go_big_quiet_step (fail) | quiet_step (fail)))
              refine wpQuiet_nil ?_
              rintro w6 ⟨⟨_, hx6⟩, rfl⟩
              clear q1 HC
              gi_wp2_with fail
              have HC2 := hid fun e : Later w6 => HB5.out e.val (HX5.out.trans (Ext.trans hx6 e.grown))
              have HA1 := hid fun e : Later w6 => abs_any ((c : Int) % D.wide - (pv : Nat) % D.wide - D.drift[m].east) e.val (by omega)
              have HA2 := hid fun e : Later w6 => abs_any ((c : Int) / D.wide - (pv : Nat) / D.wide - D.drift[m].north) e.val (by omega)
              have HX6 := hid (HX5.out.trans hx6)
              clear hx6 h1 h2 h3 h4 h5 h6 h7 h8 hst HB5 HD5 HT5
              generalize (c : Int) % D.wide - (pv : Nat) % D.wide - D.drift[m].east = E at *
              generalize (c : Int) / D.wide - (pv : Nat) / D.wide - D.drift[m].north = F at *
              generalize max (-E) E = p at *
              generalize max (-F) F = qq at *
              by_cases hp : p ≤ D.speed
              · by_cases hq : qq ≤ D.speed
                · have d1 : decide (D.speed < p) = false := by rw [decide_eq_false_iff_not]; omega
                  have d2 : decide (D.speed < qq) = false := by rw [decide_eq_false_iff_not]; omega
                  have HTO2 : Hid (candF D h t (c + 1) = candF D h t c ++ [c]) := by
                    show _ = _
                    rw [HTO.out, hpl, decide_eq_true hp, decide_eq_true hq]; simp
                  clear hp hq HTO
                  refine quiet_wide 12 (by kernel_rfl) (by kernel_rfl) ?_
                  simp only [List.take_succ_cons, List.take_zero, List.drop_succ_cons, List.drop_zero]
                  have q1 := HC2.out
                  repeat (any_goals (first | go_big_quiet_step ((first | (go_at_call 71; with_reducible exact Cal.quiet_same (HA1.out _)) | (go_at_call 71; with_reducible exact Cal.quiet_same (HA2.out _)))) | quiet_step ((first | (go_at_call 71; with_reducible exact Cal.quiet_same (HA1.out _)) | (go_at_call 71; with_reducible exact Cal.quiet_same (HA2.out _))))))
                  refine wpQuiet_nil ?_
                  rintro w7 ⟨⟨_, hx7⟩, rfl⟩
                  clear q1 HC2 HA1 HA2
                  have HX7 := hid (HX6.out.trans hx7)
                  obtain ⟨i0, hi0, hz0, hz1, hz2⟩ := info_parts info3
                  have HZ := hid (And.intro hi0 (And.intro hz0 (And.intro hz1 hz2)))
                  clear hi0 hz0 hz1 hz2
                  have hmax : (candF D h t c).length + 1 ≤ 1000000000 := by omega
                  have HRWW := hid ((HI.out.2.1.mono HX7.out).mono ((Ext.refl w7).alloc (.cells #[.int .i64 c] 3)))
                  have HNW : Hid (∀ j u, [Value.int .i64 c][j]? = some u → (w7.alloc (.cells #[.int .i64 c] 3)).cell? ((⟨w7.heap.size, 0, none⟩ : Addr).add j) = some u) := (fun j u hj => by rw [Addr.add_mid, Nat.zero_add, new_cell _ _ rfl]; simpa using hj)
                  gi_wp2_with (refine wpIn_append_row (fun _ => trivial) rfl (.tmp 85) (.tmp 87) rfl Try.underlying22 HZ.out.1 HZ.out.2.1 HZ.out.2.2.1 HZ.out.2.2.2 (by simp [Value.cells]) (by omega) (v := u7) rfl HRWW.out ⟨w7.heap.size, 0, none⟩ 1 rfl [.int .i64 c] rfl HNW.out (fun u hu => by simp at hu; subst hu; rfl) hmax (by omega) ?_; intro v' w' hrow' hgr' how')
                  have hxb : Ext wr (w7.alloc (.cells #[.int .i64 c] 3)) := Ext.alloc HX7.out _
                  have hbel : Ext wo w' := Below.trans (Ext.trans HI.out.1 hxb) ⟨hgr'.os, hgr'.tape, hgr'.output, hgr'.size, fun j hj => hgr'.block j (by have := (Ext.trans HI.out.1 hxb).size; omega) (fun e => by have := HI.out.2.2 j e.symm; omega)⟩
                  have hsz := (Ext.trans HI.out.1 hxb).size
                  go_roundw
                  case rel =>
                    refine ⟨c + 1, by omega, by go_num, hbel, ?_, fun g hg => ?_⟩
                    · rw [HTO2.out]
                      show Row w' 3 1 v' (candF D h t c ++ [c]).length (natVals (candF D h t c ++ [c]))
                      rw [natVals_append, List.length_append]
                      exact hrow'
                    · rcases how' with e | e
                      · exact HI.out.2.2 g (by rw [← e]; exact hg)
                      · rw [hg] at e; cases e; have := (Ext.trans HI.out.1 HX7.out).size; omega
                  case measure => simp [intOf]; omega
                · have d1 : decide (D.speed < p) = false := by rw [decide_eq_false_iff_not]; omega
                  have d2 : decide (D.speed < qq) = true := by rw [decide_eq_true_eq]; omega
                  have HTO2 : Hid (candF D h t (c + 1) = candF D h t c) := by
                    show _ = _
                    rw [HTO.out, decide_eq_false hq]; simp
                  clear hp hq HTO
                  refine quiet_wide 12 (by kernel_rfl) (by kernel_rfl) ?_
                  simp only [List.take_succ_cons, List.take_zero, List.drop_succ_cons, List.drop_zero]
                  have q1 := HC2.out
                  repeat (any_goals (first | go_big_quiet_step ((first | (go_at_call 71; with_reducible exact Cal.quiet_same (HA1.out _)) | (go_at_call 71; with_reducible exact Cal.quiet_same (HA2.out _)))) | quiet_step ((first | (go_at_call 71; with_reducible exact Cal.quiet_same (HA1.out _)) | (go_at_call 71; with_reducible exact Cal.quiet_same (HA2.out _))))))
                  refine wpQuiet_nil ?_
                  rintro w7 ⟨⟨_, hx7⟩, rfl⟩
                  clear q1 HC2 HA1 HA2
                  have HX7 := hid (HX6.out.trans hx7)
                  gi_wp2
                  go_roundw
                  case rel => exact ⟨c + 1, by omega, by go_num, HI.out.1.trans HX7.out, by rw [HTO2.out]; exact HI.out.2.1.mono HX7.out, HI.out.2.2⟩
                  case measure => simp [intOf]; omega
              · have d1 : decide (D.speed < p) = true := by rw [decide_eq_true_eq]; omega
                have HTO2 : Hid (candF D h t (c + 1) = candF D h t c) := by
                  show _ = _
                  rw [HTO.out, decide_eq_false hp]; simp
                clear hp HTO
                refine quiet_wide 12 (by kernel_rfl) (by kernel_rfl) ?_
                simp only [List.take_succ_cons, List.take_zero, List.drop_succ_cons, List.drop_zero]
                have q1 := HC2.out
                repeat (any_goals (first | go_big_quiet_step ((first | (go_at_call 71; with_reducible exact Cal.quiet_same (HA1.out _)) | (go_at_call 71; with_reducible exact Cal.quiet_same (HA2.out _)))) | quiet_step ((first | (go_at_call 71; with_reducible exact Cal.quiet_same (HA1.out _)) | (go_at_call 71; with_reducible exact Cal.quiet_same (HA2.out _))))))
                refine wpQuiet_nil ?_
                rintro w7 ⟨⟨_, hx7⟩, rfl⟩
                clear q1 HC2 HA1 HA2
                have HX7 := hid (HX6.out.trans hx7)
                gi_wp2
                go_roundw
                case rel => exact ⟨c + 1, by omega, by go_num, HI.out.1.trans HX7.out, by rw [HTO2.out]; exact HI.out.2.1.mono HX7.out, HI.out.2.2⟩
                case measure => simp [intOf]; omega
        · obtain rfl : c = N := by omega
          have hdlt : decide ((c : Int) < D.wide * D.high) = false := by rw [decide_eq_false_iff_not]; omega
          obtain ⟨a7, c7, hu7⟩ := hI.out.2.1.isSliceN
          subst hu7
          have HCL := hid hI.out.2.1
          have HXI := hid hI.out.1
          have hcll := candF_len D h t c
          have HCM := hid fun d (hd : d ∈ candF D h t c) => (candF_lt hd).1
          clear hI htl
          generalize candF D h t c = cl at *
          by_cases hz : cl.length = 0
          · have hz2 : ((cl.length : Int) == 0) = true := by rw [beq_iff_eq]; omega
            have HRES : Hid (swumTo D bits H = t) := by
              show _ = _
              have e1 : swumTo D bits (h + 1) = t := by rw [HSTEP.out, if_pos hz]
              rw [HSTOP.out (by rw [e1]; have := HTL.out; omega), e1]
            clear hz
            gi_wp2
            go_ret
            exact ⟨u5, rfl, HX0.out.trans (HOO.out.2.1.trans HXI.out), by rw [HRES.out]; exact HOO.out.2.2.1.mono HXI.out⟩
          · have hz2 : ((cl.length : Int) == 0) = false := by rw [beq_eq_false_iff_ne]; omega
            have hmem := pickI_mem (xs := intsOf cl) (k := pickI bits h) (by unfold intsOf; rw [List.length_map]; exact hz)
            obtain ⟨x, hxm, hxe⟩ := List.mem_map.mp hmem
            have HST2 : Hid (swumTo D bits (h + 1) = t ++ [x]) := by
              show _ = _
              rw [HSTEP.out, if_neg hz, ← hxe]; simp
            have HP1 := hid (Pick_any bv bits h wr (HBV.out.mono (HX0.out.trans (HOO.out.2.1.trans HXI.out))))
            have HP2 := hid fun (e : World) (hx : Ext wr e) => Pick_any _ (intsOf cl) (pickI bits h) e ((HCL.out.mono hx).ints (by omega))
            have hl2 : (intsOf cl).length = cl.length := by unfold intsOf; rw [List.length_map]
            simp only [← hxe] at HP2
            clear hxe hmem hz hxm HSTEP HSTOP
            generalize pickI bits h = r1 at *
            obtain ⟨i0, hi0, hz0, hz1, hz3⟩ := info_parts info3
            have HZ := hid (And.intro hi0 (And.intro hz0 (And.intro hz1 hz3)))
            clear hi0 hz0 hz1 hz3
            have hmax : t.length + 1 ≤ 1000000000 := by rw [HTL.out]; omega
            gi_wp2_with (first | (gi_at_call 72; ((with_reducible refine HP1.out.mono ?_); rintro e w5 ⟨rfl, hx5⟩)) | (gi_at_call 72; ((with_reducible refine (HP2.out w5 hx5).mono ?_); rintro e w6 ⟨rfl, hx6⟩; have HXX := hid (Ext.trans hx5 hx6); have HRWW := hid ((HOO.out.2.2.1.mono (HXI.out.trans HXX.out)).mono ((Ext.refl w6).alloc (.cells #[.int .i64 x] 3))); have HNW : Hid (∀ j u, [Value.int .i64 x][j]? = some u → (w6.alloc (.cells #[.int .i64 x] 3)).cell? ((⟨w6.heap.size, 0, none⟩ : Addr).add j) = some u) := (fun j u hj => by rw [Addr.add_mid, Nat.zero_add, new_cell _ _ rfl]; simpa using hj))) | (refine wpIn_append_row (fun _ => trivial) rfl (.tmp 93) (.tmp 99) rfl Try.underlying22 HZ.out.1 HZ.out.2.1 HZ.out.2.2.1 HZ.out.2.2.2 (by simp [Value.cells]) (by omega) (v := u5) rfl HRWW.out ⟨w6.heap.size, 0, none⟩ 1 rfl [.int .i64 x] rfl HNW.out (fun u hu => by simp at hu; subst hu; rfl) hmax (by omega) ?_; intro v' w' hrow' hgr' how'))
            have hxb : Ext wo (w6.alloc (.cells #[.int .i64 x] 3)) := Ext.alloc (HXI.out.trans HXX.out) _
            have hbel : Ext w1 w' := Below.trans (Ext.trans HOO.out.2.1 hxb) ⟨hgr'.os, hgr'.tape, hgr'.output, hgr'.size, fun j hj => hgr'.block j (by have := (Ext.trans HOO.out.2.1 hxb).size; omega) (fun e => by have := HOO.out.2.2.2 j e.symm; omega)⟩
            have hsz := (Ext.trans HOO.out.2.1 hxb).size
            go_roundw
            case rel =>
              refine ⟨h + 1, by omega, by go_num, ?_, hbel, ?_, fun g hg => ?_⟩
              · rw [HST2.out, List.length_append, HTL.out]; rfl
              · rw [HST2.out, natVals_append, List.length_append]
                exact hrow'
              · rcases how' with e | e
                · exact HOO.out.2.2.2 g (by rw [← e]; exact hg)
                · rw [hg] at e; cases e; exact hsz
            case measure => simp [intOf]; omega
    · obtain rfl : h = H := by omega
      have HO := hid hO.out
      clear hO
      gi_wp2
      go_ret
      exact ⟨u5, rfl, HX0.out.trans HO.out.2.1, HO.out.2.2.1⟩
end Go.Proofs.Ytlgcnjcbmihefaa
