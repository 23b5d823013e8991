/- A clearing that numbers choose. -/
import Derived.Test.YtjocoadhalimjaaGreatRBE
import Derived.Test.YtjocoadhalimjaaGreatRBD
import Derived.Test.YtjocoadhalimjaaGreatRAZ
set_option linter.unusedSimpArgs false
set_option linter.unusedVariables false
namespace Go.Proofs.YtjocoadhalimjaaGreat
section
open Go Go.RowKit Go.Shelf

theorem copy_ints (w : World) (a : Option Addr) (cap : Nat) (xs : List Int) (hv : IntsAt w (.slice a xs.length cap) xs) (hl : xs.length ≤ 1000) :
    ∃ v' w', (Builtin.append_ #[23, 23] 23 #[.slice (some ⟨w.heap.size, 0, none⟩) 0 0, .slice a xs.length cap]).run Tryz.prog (w.alloc (.cells #[] 3)) = .ok v' w' ∧ Row w' 3 1 v' xs.length (intsV xs) ∧ (∀ q, v'.ownBlock = some q → w.heap.size ≤ q) ∧ Ext w w' := by
  rcases Nat.eq_zero_or_pos xs.length with h0 | h0
  · have e := List.eq_nil_of_length_eq_zero h0
    subst e
    obtain ⟨i0, hi0, hz0, hz1, hz2⟩ := info_parts info3
    exact ⟨_, _, append_none (w := w.alloc (.cells #[] 3)) (t := 23) (ty := 23) Tryz.underlying23 hi0 (sa := some ⟨w.heap.size, 0, none⟩) (n := 0) (c := 0) (Nat.le_refl _) a cap, row_empty w 3 1, fun q hq => by simp [Value.ownBlock] at hq; omega, (Ext.refl _).alloc _⟩
  · obtain ⟨a', c', e, _, hc⟩ := id hv
    cases e
    obtain ⟨b, off, rfl, _⟩ := hc 0 h0
    obtain ⟨g, c, w', hrun, hrow, hg, hx⟩ := whole_ints (w := w) (Ext.refl w) hv ⟨h0, hl⟩
    exact ⟨_, w', hrun, hrow, fun q hq => by simp [Value.ownBlock] at hq; omega, hx⟩
def gF (n : Nat) : List Int := (List.range n).map fun i : Nat => (i : Int)
theorem gF_mem {n : Nat} {x : Int} : x ∈ gF n ↔ 0 ≤ x ∧ x < (n : Int) := by
  unfold gF
  rw [List.mem_map]
  constructor
  · rintro ⟨i, hi, rfl⟩
    have := List.mem_range.1 hi
    omega
  · intro h
    exact ⟨x.toNat, List.mem_range.2 (by omega), by omega⟩
theorem gF_nodup (n : Nat) : (gF n).Nodup := by
  unfold gF
  refine List.Pairwise.map _ (fun (a b : Nat) (h : a ≠ b) => ?_) List.nodup_range
  intro e; exact h (by omega)
theorem gF_sum (xs : List Int) : sumG (balF xs) (gF xs.length) = xs.sum := by
  unfold sumG gF
  rw [List.map_map]
  have e : ((List.range xs.length).map ((fun x : Int => balF xs x.toNat) ∘ fun i : Nat => (i : Int))) = xs := by
    refine List.ext_getElem (by simp) fun i h1 h2 => ?_
    simp only [List.getElem_map, List.getElem_range, Function.comp_apply, Int.toNat_natCast]
    unfold balF
    rw [getD_of h2]
  rw [e]
theorem clear_of {xs : List Int} {ps : List Py} (hn : xs.length ≤ 10) (hg : ∀ p ∈ ps, pyGood xs.length p = true) (hz : ∀ i, ps.foldl payL (balF xs) i = 0) : clearB xs ps = true := by
  have e0 : leftFrom xs xs.length = balF xs := by
    funext i
    unfold leftFrom balF
    by_cases h : i < xs.length
    · rw [if_pos h]
    · rw [if_neg h, List.getD_eq_getElem?_getD, List.getElem?_eq_none (by omega)]; rfl
  unfold clearB allTo
  rw [Bool.and_eq_true, List.all_eq_true, List.all_eq_true]
  refine ⟨fun i hi => ?_, fun i _ => ?_⟩
  · have hi := List.mem_range.1 hi
    rw [getD_of hi]; exact hg _ (List.getElem_mem hi)
  · unfold leftPay
    rw [List.take_length, e0, hz i]; rfl
theorem modI_nat (a m : Nat) : modI (a : Int) (m : Int) = ((a % m : Nat) : Int) := by
  unfold modI
  have h : ((a : Int).tmod (m : Int)) = ((a % m : Nat) : Int) := by rw [Int.tmod_eq_emod_of_nonneg (by omega)]; rfl
  rw [h, if_neg (by omega)]
theorem rot_all {n c i : Nat} (hc : c < n) (hi : i < n) : ∃ j, j < n ∧ (j + c) % n = i := by
  rcases Nat.lt_or_ge i c with h | h
  · exact ⟨i + n - c, by omega, by rw [show i + n - c + c = i + n by omega, Nat.add_mod_right, Nat.mod_eq_of_lt hi]⟩
  · exact ⟨i - c, by omega, by rw [show i - c + c = i by omega, Nat.mod_eq_of_lt hi]⟩
/-- The first of some that is not yet found is -1. -/
def FR (p : Nat → Bool) (c n k : Nat) (F : Int) : Prop := (F = -1 ∧ ∀ j, j < k → p ((j + c) % n) = false) ∨ ∃ f : Nat, f < n ∧ F = f ∧ p f = true
theorem FR.none {p : Nat → Bool} {c n : Nat} {F : Int} (h : FR p c n n F) (hc : c < n) (hF : F < 0) : ∀ i, i < n → p i = false := fun i hi => by
  rcases h with ⟨_, h⟩ | ⟨f, _, h, _⟩
  · obtain ⟨j, hj, rfl⟩ := rot_all hc hi
    exact h j hj
  · omega
theorem FR.some {p : Nat → Bool} {c n k : Nat} {F : Int} (h : FR p c n k F) (hF : ¬ F < 0) : ∃ f : Nat, f < n ∧ F = f ∧ p f = true := by
  rcases h with ⟨h, _⟩ | h
  · omega
  · exact h
theorem FR.keep {p : Nat → Bool} {c n k : Nat} {F : Int} (h : FR p c n k F) (hp : F < 0 → p ((k + c) % n) = false) : FR p c n (k + 1) F := by
  rcases h with ⟨h1, h2⟩ | h
  · refine .inl ⟨h1, fun j hj => ?_⟩
    rcases Nat.lt_or_ge j k with hl | hl
    · exact h2 j hl
    · obtain rfl : j = k := by omega
      exact hp (by omega)
  · exact .inr h
theorem FR.take {p : Nat → Bool} {c n k : Nat} (hn : 0 < n) (hp : p ((k + c) % n) = true) : FR p c n (k + 1) (((k + c) % n : Nat) : Int) := .inr ⟨_, Nat.mod_lt _ hn, rfl, hp⟩
set_option maxRecDepth 100000 in
set_option maxHeartbeats 16000000 in
theorem chosen_any (v bv : Value) (xs bits : List Int) (w : World) (hv : IntsAt w v xs) (hb : IntsAt w bv bits) (hd : debtsB xs = true) :
    Cal 43 #[v, bv] w fun e w' => ∃ r ps, e = .returned r ∧ Ext w w' ∧ Hid (Row w' 74 3 r ps.length (pysF ps) ∧ ps.length ≤ 10 ∧ (∀ p ∈ ps, pyGood xs.length p = true ∧ p.s ≤ 1000000) ∧ ∀ i, ps.foldl payL (balF xs) i = 0) := by
  obtain ⟨a, cap, rfl, hll⟩ := id hv
  obtain ⟨hl, hbd, hsum⟩ := debts_ok hd
  obtain ⟨v5, w5, hrun, hrow, hown, hx5⟩ := copy_ints w a cap xs hv (by omega)
  have HL := hid hl
  have HR5 := hid (intsV_bal xs ▸ hrow)
  have HO5 := hid hown
  have HX5 := hid hx5
  have HB := hid hb
  have HN := hid (gF_nodup xs.length)
  have HG := hid (fun x (hx : x ∈ gF xs.length) => gF_mem.1 hx)
  have HS0 := hid (SetOk.start (n := xs.length) (g := gF xs.length) (D := balF xs) (by rw [gF_sum]; exact hsum) (fun i => (ClOk.start (ts := []) hbd).bnd i))
  have HC0 : Hid (cntG (balF xs) (gF xs.length) ≤ 10) := hid (by unfold cntG; refine Nat.le_trans List.countP_le_length ?_; unfold gF; simp; exact hl)
  have HBZ : Hid (∀ i, xs.length ≤ i → balF xs i = 0) := hid fun i hi => by unfold balF; rw [List.getD_eq_getElem?_getD, List.getElem?_eq_none hi]; rfl
  clear hv hb hd hll hl hbd hsum hrow hown hx5
  obtain ⟨n, hn⟩ : ∃ n, xs.length = n := ⟨_, rfl⟩
  rw [hn] at HR5 HL HN HG HS0 HC0 HBZ hrun ⊢
  clear hn
  gi_enter Tryz.func43, Tryz.ntmps43
  gi_wp2_with (refine wpIn_append_at (fun _ => trivial) rfl (w.alloc (.cells #[] 3)) (.tmp 13) (.tmp 14) 23 rfl (by with_reducible rfl) hrun rfl rfl rfl ?_)
  clear hrun
  have HJ : Hid (∃ (D : Nat → Int) (ps : List Py), Ext w w5 ∧ w5.heap.size ≤ w5.heap.size ∧ Row w5 3 1 v5 n (intsF n D) ∧ SetOk n (gF n) (balF xs) D ps ∧ ps.length = 0 ∧ Row w5 74 3 (.slice none 0 0) ps.length (pysF ps) ∧ ∀ q, (Value.slice none 0 0).ownBlock = some q → w5.heap.size ≤ q) := hid ⟨balF xs, [], HX5.out, Nat.le_refl _, HR5.out, HS0.out, rfl, Row.nil _ _ _, fun q h => by simp [Value.ownBlock] at h⟩
  gi_loopw [6, 7, 8, 9, 10, 11, 12] (fun r i u8 u9 u10 u11 u12 wr => ∃ N : Nat, N ≤ 20 ∧ i = .int .i64 N ∧ Hid (∃ (D : Nat → Int) (ps : List Py), Ext w wr ∧ w5.heap.size ≤ wr.heap.size ∧ Row wr 3 1 v5 n (intsF n D) ∧ SetOk n (gF n) (balF xs) D ps ∧ ps.length = N ∧ Row wr 74 3 r ps.length (pysF ps) ∧ ∀ q, r.ownBlock = some q → w5.heap.size ≤ q)) (fun _ i _ _ _ _ _ _ => 20 - (intOf i).toNat)
  case atStart => exact ⟨0, by omega, rfl, HJ⟩
  case round =>
    obtain ⟨N, hN, rfl, HI⟩ := hrel
    clear HJ
    obtain ⟨D, ps, hxr, hw5r, hrow, hok, hpl, hpy, hown⟩ := HI.out
    have hN10 : N ≤ 10 := by have := hok.cnt; have := HC0.out; omega
    have hNi : (N : Int) < 20 := by omega
    have HXR := hid hxr
    have HWR := hid hw5r
    have HRW := hid hrow
    have HOK := hid hok
    have HPL := hid hpl
    have HPY := hid hpy
    have HOW := hid hown
    clear HI hxr hw5r hrow hok hpl hpy hown hN
    obtain ⟨va, vc, rfl⟩ := HRW.out.isSliceN
    obtain ⟨na, nc, rfl⟩ := HPY.out.isSliceN
    gi_wp2_with fail
    obtain ⟨c, hc⟩ : ∃ c : Nat, (0 < n → c < n) ∧ (0 < n → modI (pickI bits N) n = c) := by
      rcases Nat.eq_zero_or_pos n with h | h
      · exact ⟨0, fun h' => by omega, fun h' => by omega⟩
      · have h2 := modI_ok (pickI bits N) (m := (n : Int)) (by omega)
        exact ⟨(modI (pickI bits N) n).toNat, fun _ => by omega, fun _ => by omega⟩
    have HC := hid hc
    clear hc
    have HPK : Hid (∀ u, Ext w u → Cal 66 #[bv, .int .i64 N] u fun e w' => e = .returned (.int .i64 (pickI bits N)) ∧ Ext u w') := hid fun u hu => Pick_any bv bits N u (HB.out.mono hu)
    obtain ⟨pk, hpk⟩ : ∃ pk, pickI bits N = pk := ⟨_, rfl⟩
    rw [hpk] at HPK HC
    clear hpk
    obtain ⟨wo, hwo⟩ : ∃ wo, wo = wr := ⟨wr, rfl⟩
    have HXO : Hid (Ext w wo) := hid (hwo ▸ HXR.out)
    have HRO : Hid (Row wo 3 1 (.slice va n vc) n (intsF n D)) := hid (hwo ▸ HRW.out)
    have HPO : Hid (Row wo 74 3 (.slice na ps.length nc) ps.length (pysF ps)) := hid (hwo ▸ HPY.out)
    have HWO : Hid (w5.heap.size ≤ wo.heap.size) := hid (hwo ▸ HWR.out)
    have HJ2 : Hid (Ext wo wr ∧ FR (fun i => decide (D i < 0)) c n 0 (-1) ∧ FR (fun i => decide (0 < D i)) c n 0 (-1)) := hid ⟨hwo ▸ Ext.refl _, .inl ⟨rfl, fun j h => absurd h (by omega)⟩, .inl ⟨rfl, fun j h => absurd h (by omega)⟩⟩
    clear hwo HXR HRW HPY HWR
    gi_loopw [8, 9, 10, 11] (fun u8 u9 i u11 wr => ∃ (k : Nat) (F T : Int), k ≤ n ∧ i = .int .i64 k ∧ u8 = .int .i64 F ∧ u9 = .int .i64 T ∧ Hid (Ext wo wr ∧ FR (fun i => decide (D i < 0)) c n k F ∧ FR (fun i => decide (0 < D i)) c n k T)) (fun _ _ i _ _ => n - (intOf i).toNat)
    case atStart => exact ⟨0, -1, -1, Nat.zero_le _, rfl, rfl, rfl, HJ2⟩
    case round =>
      obtain ⟨k, F, T, hk, rfl, rfl, rfl, HI⟩ := hrel
      clear HJ2
      by_cases hlt : k < n
      · have hki : (k : Int) < (n : Int) := by omega
        have hn0 : 0 < n := by omega
        obtain ⟨db, dc, e⟩ := row_addr HRO.out hn0
        cases e
        obtain ⟨hcn, hcm⟩ := HC.out
        have hcn := hcn hn0
        have hcm := hcm hn0
        have hn10 := HL.out
        have HM1 : Hid (∀ u, Cal 32 #[.int .i64 pk, .int .i64 n] u fun e w' => e = .returned (.int .i64 c) ∧ u = w') := hid fun u => by have h := mod_any pk n u (by omega); rw [hcm] at h; exact h
        have HM2 : Hid (∀ u, Cal 32 #[.int .i64 ((k : Int) + (c : Int)), .int .i64 n] u fun e w' => e = .returned (.int .i64 (((k + c) % n : Nat) : Int)) ∧ u = w') := hid fun u => by have h := mod_any ((k : Int) + (c : Int)) n u (by omega); rw [show ((k : Int) + (c : Int)) = ((k + c : Nat) : Int) by omega, modI_nat] at h; exact h
        have hin : (k + c) % n < n := Nat.mod_lt _ hn0
        obtain ⟨i, hi⟩ : ∃ i, (k + c) % n = i := ⟨_, rfl⟩
        have HKF := hid (fun (h : F < 0 → decide (D i < 0) = false) => HI.out.2.1.keep (by rw [hi]; exact h))
        have HKT := hid (fun (h : T < 0 → decide (0 < D i) = false) => HI.out.2.2.keep (by rw [hi]; exact h))
        have HTF := hid (fun (h : decide (D i < 0) = true) => FR.take (p := fun i => decide (D i < 0)) (c := c) (k := k) hn0 (by rw [hi]; exact h))
        have HTT := hid (fun (h : decide (0 < D i) = true) => FR.take (p := fun i => decide (0 < D i)) (c := c) (k := k) hn0 (by rw [hi]; exact h))
        rw [hi] at HM2 hin HTF HTT
        have HRC := hid (row_cell (HRO.out.mono HI.out.1) hin)
        have HXI := hid HI.out.1
        have HIN := hid hin
        have hiN : (i : Int) < (n : Int) := by omega
        have hwk : wrap64 ((k : Int) + (c : Int)) = (k : Int) + (c : Int) := by unfold wrap64; omega
        have hw1 : wrap64 ((k : Int) + 1) = (k : Int) + 1 := by unfold wrap64; omega
        clear hi hcn hcm hn0 HI hin
        have HPKK := hid (HPK.out wr (HXO.out.trans HXI.out))
        have HCELL : Hid (∀ u, Ext wr u → u.cell? ⟨db, i, none⟩ = some (.int .i64 (D i))) := hid fun u hu => row_cell (HRO.out.mono (HXI.out.trans hu)) HIN.out
        clear HRC
        have HLT := hid hlt
        by_cases hneg : D i < 0
        · have hpos : ¬ 0 < D i := by omega
          by_cases hF : F < 0
          · have hskip := trivial
            clear hskip
            have HFN := hid (HTF.out (decide_eq_true hneg))
            have HTN := hid (HKT.out fun _ => decide_eq_false hpos)
            clear HKF HKT HTF HTT
            gi_wp2_with (first | (gi_at_call 66; ((with_reducible refine (HPKK.out).mono ?_); rintro e w1 ⟨rfl, hx1⟩; have c0 := HCELL.out w1 hx1; have HX1 := hid (HXI.out.trans hx1); clear hx1)) | (gi_at_call 32; ((with_reducible refine (HM1.out _).mono ?_); rintro e w2 ⟨rfl, rfl⟩)) | (gi_at_call 32; ((with_reducible refine (HM2.out _).mono ?_); rintro e w3 ⟨rfl, rfl⟩)))
            go_roundw
            case rel => exact ⟨k + 1, i, T, by have := HLT.out; omega, by go_num, by first | rfl | go_num, by first | rfl | go_num, hid ⟨HX1.out, HFN.out, HTN.out⟩⟩
            case measure => have := HLT.out; simp [intOf]; omega
          · have hskip := trivial
            clear hskip
            have HFN := hid (HKF.out fun h => absurd h hF)
            have HTN := hid (HKT.out fun _ => decide_eq_false hpos)
            clear HKF HKT HTF HTT
            gi_wp2_with (first | (gi_at_call 66; ((with_reducible refine (HPKK.out).mono ?_); rintro e w1 ⟨rfl, hx1⟩; have c0 := HCELL.out w1 hx1; have HX1 := hid (HXI.out.trans hx1); clear hx1)) | (gi_at_call 32; ((with_reducible refine (HM1.out _).mono ?_); rintro e w2 ⟨rfl, rfl⟩)) | (gi_at_call 32; ((with_reducible refine (HM2.out _).mono ?_); rintro e w3 ⟨rfl, rfl⟩)))
            go_roundw
            case rel => exact ⟨k + 1, F, T, by have := HLT.out; omega, by go_num, by first | rfl | go_num, by first | rfl | go_num, hid ⟨HX1.out, HFN.out, HTN.out⟩⟩
            case measure => have := HLT.out; simp [intOf]; omega
        · by_cases hpos : 0 < D i
          · by_cases hT : T < 0
            · have hskip := trivial
              clear hskip
              have HFN := hid (HKF.out fun _ => decide_eq_false hneg)
              have HTN := hid (HTT.out (decide_eq_true hpos))
              clear HKF HKT HTF HTT
              gi_wp2_with (first | (gi_at_call 66; ((with_reducible refine (HPKK.out).mono ?_); rintro e w1 ⟨rfl, hx1⟩; have c0 := HCELL.out w1 hx1; have HX1 := hid (HXI.out.trans hx1); clear hx1)) | (gi_at_call 32; ((with_reducible refine (HM1.out _).mono ?_); rintro e w2 ⟨rfl, rfl⟩)) | (gi_at_call 32; ((with_reducible refine (HM2.out _).mono ?_); rintro e w3 ⟨rfl, rfl⟩)))
              go_roundw
              case rel => exact ⟨k + 1, F, i, by have := HLT.out; omega, by go_num, by first | rfl | go_num, by first | rfl | go_num, hid ⟨HX1.out, HFN.out, HTN.out⟩⟩
              case measure => have := HLT.out; simp [intOf]; omega
            · have hskip := trivial
              clear hskip
              have HFN := hid (HKF.out fun _ => decide_eq_false hneg)
              have HTN := hid (HKT.out fun h => absurd h hT)
              clear HKF HKT HTF HTT
              gi_wp2_with (first | (gi_at_call 66; ((with_reducible refine (HPKK.out).mono ?_); rintro e w1 ⟨rfl, hx1⟩; have c0 := HCELL.out w1 hx1; have HX1 := hid (HXI.out.trans hx1); clear hx1)) | (gi_at_call 32; ((with_reducible refine (HM1.out _).mono ?_); rintro e w2 ⟨rfl, rfl⟩)) | (gi_at_call 32; ((with_reducible refine (HM2.out _).mono ?_); rintro e w3 ⟨rfl, rfl⟩)))
              go_roundw
              case rel => exact ⟨k + 1, F, T, by have := HLT.out; omega, by go_num, by first | rfl | go_num, by first | rfl | go_num, hid ⟨HX1.out, HFN.out, HTN.out⟩⟩
              case measure => have := HLT.out; simp [intOf]; omega
          · have hskip := trivial
            clear hskip
            have HFN := hid (HKF.out fun _ => decide_eq_false hneg)
            have HTN := hid (HKT.out fun _ => decide_eq_false hpos)
            clear HKF HKT HTF HTT
            gi_wp2_with (first | (gi_at_call 66; ((with_reducible refine (HPKK.out).mono ?_); rintro e w1 ⟨rfl, hx1⟩; have c0 := HCELL.out w1 hx1; have HX1 := hid (HXI.out.trans hx1); clear hx1)) | (gi_at_call 32; ((with_reducible refine (HM1.out _).mono ?_); rintro e w2 ⟨rfl, rfl⟩)) | (gi_at_call 32; ((with_reducible refine (HM2.out _).mono ?_); rintro e w3 ⟨rfl, rfl⟩)))
            go_roundw
            case rel => exact ⟨k + 1, F, T, by have := HLT.out; omega, by go_num, by first | rfl | go_num, by first | rfl | go_num, hid ⟨HX1.out, HFN.out, HTN.out⟩⟩
            case measure => have := HLT.out; simp [intOf]; omega
      · have hnk : n = k := by omega
        subst hnk
        have hki : ¬ (n : Int) < (n : Int) := by omega
        obtain ⟨hxx, hfr, htr⟩ := HI.out
        have HXI := hid hxx
        have HXW := hid (HXO.out.trans hxx)
        by_cases hF : F < 0
        · have hno : ∀ x ∈ gF n, ¬ D x.toNat < 0 := fun x hx => by
            have h1 := HG.out x hx
            have h2 := hfr.none (HC.out.1 (by omega)) hF x.toNat (by omega)
            simpa using h2
          have HEND := hid (HOK.out.ended hno)
          have HZ0 : Hid (∀ i, ps.foldl payL (balF xs) i = 0) := hid fun i => by
            rw [← HOK.out.fold]
            rcases Nat.lt_or_ge i n with h | h
            · have := HEND.out.1 (i : Int) (gF_mem.2 (by omega))
              simpa using this
            · rw [HOK.out.fold, payL_off (gF n) ps _ (fun p hp => ⟨(HOK.out.good p hp).2.1, (HOK.out.good p hp).2.2.1⟩) i (fun hm => by have := gF_mem.1 hm; omega)]
              exact HBZ.out i h
          have HPW := hid (HPO.out.mono hxx)
          clear HI hxx hfr htr hno
          gi_wp2_with fail
          go_ret
          exact ⟨_, rfl, HXW.out, ps, hid ⟨HPW.out, by rw [HPL.out]; exact hN10, fun p hp => ⟨(HOK.out.good p hp).1, (HOK.out.good p hp).2.2.2⟩, HZ0.out⟩⟩
        · obtain ⟨fn, hfn, rfl, hpf⟩ := hfr.some hF
          have hpf : D fn < 0 := by simpa using hpf
          by_cases hT : T < 0
          · exfalso
            have h1 : ∀ x ∈ gF n, D x.toNat ≤ 0 := fun x hx => by
              have h1 := HG.out x hx
              have h2 := htr.none (HC.out.1 (by omega)) hT x.toNat (by omega)
              simp at h2; omega
            have h2 := (sum_neg h1).2 (fn : Int) (gF_mem.2 (by omega)) (by simpa using hpf)
            have h3 := HOK.out.sum
            omega
          · obtain ⟨tn, htn, rfl, hpt⟩ := htr.some hT
            have hpt : 0 < D tn := by simpa using hpt
            obtain ⟨db, dc, e⟩ := row_addr HRO.out (show 0 < n by omega)
            cases e
            have HSTEP := hid (HOK.out.step HN.out HG.out (f := (fn : Int)) (t := (tn : Int)) (gF_mem.2 (by omega)) (gF_mem.2 (by omega)) (by simpa using hpf) (by simpa using hpt))
            simp only [Int.toNat_natCast] at HSTEP
            obtain ⟨x, hxd⟩ : ∃ x, D fn = x := ⟨_, rfl⟩
            obtain ⟨y, hyd⟩ : ∃ y, D tn = y := ⟨_, rfl⟩
            have hbx := HOK.out.bnd fn
            have hby := HOK.out.bnd tn
            rw [hxd] at hpf HSTEP hbx
            rw [hyd] at hpt HSTEP hby
            obtain ⟨s, hsd⟩ : ∃ s, minI (-x) y = s := ⟨_, rfl⟩
            have hsb : 0 < s ∧ s ≤ 1000000 := by rw [← hsd]; unfold minI; split <;> omega
            rw [hsd] at HSTEP
            have hmin : min (-x) y = s := by rw [← hsd]; unfold minI; rw [Int.min_def]; split <;> split <;> omega
            have HF := hid (And.intro hfn htn)
            have HNF : Hid (fn ≠ tn) := hid fun e => by subst e; rw [hxd] at hyd; omega
            have HXD := hid (And.intro hxd hyd)
            have HBB := hid (And.intro (And.intro hbx hby) hsb)
            have hneg : IntKind.i64.wrap (-x) = -x := by have := HBB.out.1.1; rw [IntKind.wrap_i64]; first | omega | (unfold wrap64; omega)
            have HRO5 := hid (HRO.out.mono hxx)
            have HPY5 := hid (HPO.out.mono hxx)
            have HDB := hid (HO5.out db rfl)
            have HDL : Hid (db < w5.heap.size) := hid (row_lt HR5.out).1
            have HW5 : Hid (w5.heap.size ≤ wr.heap.size) := hid (Nat.le_trans HWO.out hxx.size)
            have qf : (fn : Int) < (n : Int) := by omega
            have qt : (tn : Int) < (n : Int) := by omega
            clear HI hxx hfr htr hpf hpt hxd hyd hbx hby hsd hsb hfn htn HPK
            gi_upto_region 17 with fail
            refine lex_wide 11 [] (by kernel_rfl) (by kernel_rfl) nStab_nil ?_
            simp only [List.take_succ_cons, List.take_zero, List.drop_succ_cons, List.drop_zero]
            apply lex_fun (rfl : psAt _ _ = none)
            · intro x u hR hf
              clear hR hf
              go_simp
              exact ⟨rfl, Ext.refl _⟩
            simp only [Act.put, List.setIfInBounds_toArray, List.set_cons_succ, List.set_cons_zero]
            apply lex_fun (rfl : psAt _ _ = none)
            · intro x u hR hf
              clear hR hf
              go_simp
              exact ⟨rfl, Ext.refl _⟩
            simp only [Act.put, List.setIfInBounds_toArray, List.set_cons_succ, List.set_cons_zero]
            apply lex_fun (rfl : psAt _ _ = none)
            · intro x u hR hf
              clear hR hf
              go_simp
              exact ⟨rfl, Ext.refl _⟩
            simp only [Act.put, List.setIfInBounds_toArray, List.set_cons_succ, List.set_cons_zero]
            apply lex_fun (rfl : psAt _ _ = none)
            · intro x u hR hf
              have c0 := row_cell (HRO5.out.mono hR) HF.out.1
              rw [HXD.out.1] at c0
              clear hR hf
              go_simp
              exact ⟨rfl, Ext.refl _⟩
            simp only [Act.put, List.setIfInBounds_toArray, List.set_cons_succ, List.set_cons_zero]
            refine lex_fun (v := .int .i64 (-x)) (rfl : psAt _ _ = none) ?_ ?_
            · intro z u hR hf
              clear hR hf
              go_simp
              first | exact Ext.refl _ | exact ⟨rfl, Ext.refl _⟩ | exact ⟨hneg, Ext.refl _⟩
            simp only [Act.put, List.setIfInBounds_toArray, List.set_cons_succ, List.set_cons_zero]
            apply lex_fun (rfl : psAt _ _ = none)
            · intro x u hR hf
              clear hR hf
              go_simp
              exact ⟨rfl, Ext.refl _⟩
            simp only [Act.put, List.setIfInBounds_toArray, List.set_cons_succ, List.set_cons_zero]
            apply lex_fun (rfl : psAt _ _ = none)
            · intro x u hR hf
              clear hR hf
              go_simp
              exact ⟨rfl, Ext.refl _⟩
            simp only [Act.put, List.setIfInBounds_toArray, List.set_cons_succ, List.set_cons_zero]
            apply lex_fun (rfl : psAt _ _ = none)
            · intro x u hR hf
              clear hR hf
              go_simp
              exact ⟨rfl, Ext.refl _⟩
            simp only [Act.put, List.setIfInBounds_toArray, List.set_cons_succ, List.set_cons_zero]
            apply lex_fun (rfl : psAt _ _ = none)
            · intro x u hR hf
              have c0 := row_cell (HRO5.out.mono hR) HF.out.2
              rw [HXD.out.2] at c0
              clear hR hf
              go_simp
              exact ⟨rfl, Ext.refl _⟩
            simp only [Act.put, List.setIfInBounds_toArray, List.set_cons_succ, List.set_cons_zero]
            refine lex_fun (v := .int .i64 s) (rfl : psAt _ _ = none) ?_ ?_
            · intro z u hR hf
              clear hR hf
              go_simp
              first | exact Ext.refl _ | exact ⟨hmin, Ext.refl _⟩ | (rw [hmin]; exact ⟨rfl, Ext.refl _⟩)
            simp only [Act.put, List.setIfInBounds_toArray, List.set_cons_succ, List.set_cons_zero]
            apply lex_fun (rfl : psAt _ _ = none)
            · intro x u hR hf
              clear hR hf
              go_simp
              exact ⟨rfl, Ext.refl _⟩
            simp only [Act.put, List.setIfInBounds_toArray, List.set_cons_succ, List.set_cons_zero]

            refine lex_nil fun z W6 hE hfacts => ?_
            clear hfacts z hneg hmin
            have HX6 := hid (HXW.out.trans hE)
            have HRO6 := hid (HRO5.out.mono hE)
            have HPY6 := hid (HPY5.out.mono hE)
            have HW6 := hid (Nat.le_trans HW5.out hE.size)
            clear hE HRO5 HPY5
            have c1 := row_cell HRO6.out HF.out.1
            rw [HXD.out.1] at c1
            obtain ⟨l1, f1⟩ := row_lt HRO6.out
            have hw1 : wrap64 (x + s) = x + s := by have := HBB.out.1.1; have := HBB.out.2; unfold wrap64; omega
            gi_upto_region 19 with fail
            have hr6 := HRO6.out.put1 fn (.int .i64 (x + s))
            rw [intsF_set D (x + s) HF.out.1] at hr6
            have HR7 := hid hr6
            have HX7 := hid (HX6.out.set (HDB.out) fn (.int .i64 (x + s)))
            have hpn : ∀ q, (Value.slice na ps.length nc).ownBlock = some q → q ≠ db := fun q hq => by have h1 := HOW.out q hq; have h2 := HDL.out; omega
            have HPN := hid hpn
            have HP7 := hid (HPY6.out.kept (w' := W6.setCell ⟨db, fn, none⟩ (.int .i64 (x + s))) fun q o hq ho => by rw [set_other (hpn q hq)]; exact ho)
            have HW7 : Hid (w5.heap.size ≤ (W6.setCell ⟨db, fn, none⟩ (.int .i64 (x + s))).heap.size) := hid (by simpa using HW6.out)
            clear hr6 c1 l1 f1 hw1 hpn HX6 HRO6 HPY6 HW6
            generalize W6.setCell ⟨db, fn, none⟩ (.int .i64 (x + s)) = W7 at *
            have c1 := row_cell HR7.out HF.out.2
            rw [if_neg (Ne.symm HNF.out), HXD.out.2] at c1
            obtain ⟨l1, f1⟩ := row_lt HR7.out
            have hw1 : wrap64 (y - s) = y - s := by have := HBB.out.1.2; have := HBB.out.2; unfold wrap64; omega
            gi_upto_region 20 with fail
            have hr7 := HR7.out.put1 tn (.int .i64 (y - s))
            rw [intsF_set _ (y - s) HF.out.2] at hr7
            have hpl : intsF n (fun i => if i = tn then y - s else (fun i => if i = fn then x + s else D i) i) = intsF n (payL D ⟨fn, tn, s⟩) := intsF_congr fun i hi => by
              unfold payL
              dsimp only
              by_cases h1 : i = tn
              · rw [if_pos h1, if_pos (by omega), h1, HXD.out.2]
              · by_cases h2 : i = fn
                · rw [if_neg h1, if_pos h2, if_neg (by omega), if_pos (by omega), h2, HXD.out.1]
                · rw [if_neg h1, if_neg h2, if_neg (by omega), if_neg (by omega)]
            have HR8 := hid (hpl ▸ hr7)
            have HX8 := hid (HX7.out.set (HDB.out) tn (.int .i64 (y - s)))
            have HP8 := hid (HP7.out.kept (w' := W7.setCell ⟨db, tn, none⟩ (.int .i64 (y - s))) fun q o hq ho => by rw [set_other (HPN.out q hq)]; exact ho)
            have HW8 : Hid (w5.heap.size ≤ (W7.setCell ⟨db, tn, none⟩ (.int .i64 (y - s))).heap.size) := hid (by simpa using HW7.out)
            clear hr7 hpl c1 l1 f1 hw1 HX7 HR7 HP7 HW7
            generalize W7.setCell ⟨db, tn, none⟩ (.int .i64 (y - s)) = W8 at *
            obtain ⟨i0, hi0, hz0, hz1, hz2⟩ := info_parts info74
            have HZ := hid (And.intro hi0 (And.intro hz0 (And.intro hz1 hz2)))
            have hmax : ps.length + 1 ≤ 1000000000 := by have := HPL.out; omega
            clear hi0 hz0 hz1 hz2
            have hx8 : Ext W8 (W8.alloc (.cells #[.int .i64 fn, .int .i64 tn, .int .i64 s] 74)) := (Ext.refl _).alloc _
            have HRW := hid (HP8.out.mono hx8)
            have HR9 := hid (HR8.out.mono hx8)
            have HX9 := hid (HX8.out.trans hx8)
            have HW9 := hid (Nat.le_trans HW8.out hx8.size)
            have HNW : Hid (∀ j u, ([.int .i64 fn, .int .i64 tn, .int .i64 s] : List Value)[j]? = some u → (W8.alloc (.cells #[.int .i64 fn, .int .i64 tn, .int .i64 s] 74)).cell? ((⟨W8.heap.size, 0, none⟩ : Addr).add j) = some u) := fun j u hj => by rw [Addr.add_mid, Nat.zero_add, new_cell _ _ rfl]; simpa using hj
            clear hx8
            have HOW2 := hid HOW.out
            gi_wp2_with (refine wpIn_append_row (fun _ => trivial) rfl (.tmp 88) (.tmp 93) rfl Tryz.underlying67 HZ.out.1 HZ.out.2.1 HZ.out.2.2.1 HZ.out.2.2.2 (by simp [Value.cells]) (by omega) (v := .slice na ps.length nc) rfl HRW.out ⟨W8.heap.size, 0, none⟩ 1 rfl [.int .i64 fn, .int .i64 tn, .int .i64 s] rfl HNW.out (fun u hu => by simp at hu; rcases hu with rfl | rfl | rfl <;> rfl) hmax (by omega) ?_; intro v' w' hrow' hgr' how')
            have hbel := ext_grown HX9.out hgr' (fun q hq => by have h1 := HOW.out q hq; have h2 := HX5.out.size; omega)
            have hrow := HR9.out.kept (w' := w') (fun q o hq ho => grownBy_block hgr' ho (fun e => HPN.out q e.symm (by simp [Value.ownBlock] at hq; exact hq.symm)))
            have hown' : ∀ q, v'.ownBlock = some q → w5.heap.size ≤ q := fun q hq => by
              rcases how' with e | e
              · exact HOW.out q (by rw [← e]; exact hq)
              · rw [hq] at e; cases e; exact HW9.out
            have h1 := HSTEP.out.1.cnt
            have h2 := HPL.out
            have h3 := HC0.out
            go_roundw
            case rel => exact ⟨N + 1, by omega, by go_num, hid ⟨payL D ⟨fn, tn, s⟩, ps ++ [⟨fn, tn, s⟩], hbel, Nat.le_trans HW9.out hgr'.size, hrow, HSTEP.out.1, by rw [List.length_append, HPL.out]; rfl, by rw [pysF_snoc, List.length_append]; exact hrow', hown'⟩⟩
            case measure => simp [intOf]; omega
end
section
open Go Go.RowKit Go.Shelf

theorem newVoyage_bad {V : Voy} {s : VS} {w : World} (h : VoyAt w V s) (hE : voyE V ≠ 0) : Cal 54 #[.agg (voyA V s)] w fun e w' => e = .returned (.tuple #[.agg zeroVoy, .int .i64 (voyE V)]) ∧ Ext w w' :=
  (newVoyage_any V s w h).mono fun e w' ⟨hx, h'⟩ => by
    rcases h' with ⟨_, h1⟩ | ⟨h1, _⟩
    · exact ⟨h1, hx⟩
    · exact absurd h1 hE
theorem newVoyage_ok {V : Voy} {s : VS} {w : World} (h : VoyAt w V s) (hE : voyE V = 0) : Cal 54 #[.agg (voyA V s)] w fun e w' => ∃ bm, e = .returned (.tuple #[.agg (voyB V s (.map (some bm))), .int .i64 0]) ∧ Ext w w' ∧ w.heap.size ≤ bm ∧ Hid (GMapAt .string w' bm (entM V.le (lentTo V.le V.lo V.lo.length) V.le.length)) :=
  (newVoyage_any V s w h).mono fun e w' ⟨hx, h'⟩ => by
    rcases h' with ⟨h1, _⟩ | ⟨_, bm, h1, h2, h3⟩
    · exact absurd hE h1
    · exact ⟨bm, h1, hx, h2, h3⟩
theorem voyE_ok {V : Voy} (h : voyE V = 0) : ValidV V ∧ lendB V.le V.lo = true := by
  unfold voyE at h
  by_cases h1 : validV V = true
  · rw [if_pos h1] at h
    by_cases h2 : lendB V.le V.lo = true
    · exact ⟨valid_iff.1 h1, h2⟩
    · rw [if_neg h2] at h; omega
  · rw [if_neg h1] at h; omega
theorem voyE_some (V : Voy) : voyE V = 0 ∨ voyE V = 30 ∨ voyE V = 31 := by
  unfold voyE; split
  · split
    · exact .inl rfl
    · exact .inr (.inr rfl)
  · exact .inr (.inl rfl)
set_option maxRecDepth 100000 in
set_option maxHeartbeats 8000000 in
theorem Check_bad (V : Voy) (s : VS) (w : World) (h : VoyAt w V s) (hE : voyE V ≠ 0) : Cal 21 #[.agg (voyA V s)] w fun e w' => e = .returned (.int .i64 (voyE V)) ∧ Ext w w' := by
  have HN := hid (fun (u : World) (hu : Ext w u) => newVoyage_bad (h.mono hu) hE)
  obtain ⟨E, hEE⟩ : ∃ E, voyE V = E := ⟨_, rfl⟩
  rw [hEE] at HN hE ⊢
  have hb : (E == 0) = false := by simpa using hE
  clear h hEE
  unfold voyA zeroVoy at *
  obtain ⟨gr, bo, ne, cr, cs, ol, ll, hl, xs⟩ := V
  obtain ⟨ca, oa, la, ha, xa, cc, oc, lc, hc, xc⟩ := s
  simp only at *
  have hx0 : Ext w (w.alloc (.cells #[.int .i64 gr, .slice ca cs.length cc, .int .i64 bo, .int .i64 ne, .int .i64 cr, .slice oa ol.length oc, .slice la ll.length lc, .slice ha hl.length hc, .slice xa xs.length xc] 32)) := (Ext.refl _).alloc _
  have HNN := hid (HN.out _ hx0)
  clear HN
  gi_enter Tryz.func21, Tryz.ntmps21
  gi_wp2_with (gi_at_call 54; ((with_reducible refine (HNN.out).mono ?_); rintro e w1 ⟨rfl, hx1⟩; have HX1 := hid (hx0.trans hx1); clear hx1 hx0))
  exact bodyPost_ret (v := .int .i64 E) (by simp [results, Tryz.results21, go_sem]) rfl ⟨rfl, HX1.out.alloc _⟩
set_option maxRecDepth 100000 in
set_option maxHeartbeats 8000000 in
theorem Parts_bad (V : Voy) (s : VS) (w : World) (h : VoyAt w V s) (hE : voyE V ≠ 0) : Cal 23 #[.agg (voyA V s)] w fun e w' => e = .returned (.tuple #[.int .i64 0, .int .i64 0, .int .i64 0, .int .i64 (voyE V)]) ∧ Ext w w' := by
  have HN := hid (fun (u : World) (hu : Ext w u) => newVoyage_bad (h.mono hu) hE)
  obtain ⟨E, hEE⟩ : ∃ E, voyE V = E := ⟨_, rfl⟩
  rw [hEE] at HN hE ⊢
  have hb : (E == 0) = false := by simpa using hE
  clear h hEE
  unfold voyA zeroVoy at *
  obtain ⟨gr, bo, ne, cr, cs, ol, ll, hl, xs⟩ := V
  obtain ⟨ca, oa, la, ha, xa, cc, oc, lc, hc, xc⟩ := s
  simp only at *
  have hx0 : Ext w (w.alloc (.cells #[.int .i64 gr, .slice ca cs.length cc, .int .i64 bo, .int .i64 ne, .int .i64 cr, .slice oa ol.length oc, .slice la ll.length lc, .slice ha hl.length hc, .slice xa xs.length xc] 32)) := (Ext.refl _).alloc _
  have HNN := hid (HN.out _ hx0)
  clear HN
  gi_enter Tryz.func23, Tryz.ntmps23
  gi_wp2_with (gi_at_call 54; ((with_reducible refine (HNN.out).mono ?_); rintro e w1 ⟨rfl, hx1⟩; have HX1 := hid (hx0.trans hx1); clear hx1 hx0))
  exact bodyPost_ret (v := .tuple #[.int .i64 0, .int .i64 0, .int .i64 0, .int .i64 E]) (by simp [results, Tryz.results23, go_sem]) rfl ⟨rfl, HX1.out.alloc _⟩
set_option maxRecDepth 100000 in
set_option maxHeartbeats 8000000 in
theorem Shares_bad (V : Voy) (s : VS) (w : World) (h : VoyAt w V s) (hE : voyE V ≠ 0) : Cal 25 #[.agg (voyA V s)] w fun e w' => e = .returned (.tuple #[.slice none 0 0, .int .i64 (voyE V)]) ∧ Ext w w' := by
  have HN := hid (fun (u : World) (hu : Ext w u) => newVoyage_bad (h.mono hu) hE)
  obtain ⟨E, hEE⟩ : ∃ E, voyE V = E := ⟨_, rfl⟩
  rw [hEE] at HN hE ⊢
  have hb : (E == 0) = false := by simpa using hE
  clear h hEE
  unfold voyA zeroVoy at *
  obtain ⟨gr, bo, ne, cr, cs, ol, ll, hl, xs⟩ := V
  obtain ⟨ca, oa, la, ha, xa, cc, oc, lc, hc, xc⟩ := s
  simp only at *
  have hx0 : Ext w (w.alloc (.cells #[.int .i64 gr, .slice ca cs.length cc, .int .i64 bo, .int .i64 ne, .int .i64 cr, .slice oa ol.length oc, .slice la ll.length lc, .slice ha hl.length hc, .slice xa xs.length xc] 32)) := (Ext.refl _).alloc _
  have HNN := hid (HN.out _ hx0)
  clear HN
  gi_enter Tryz.func25, Tryz.ntmps25
  gi_wp2_with (gi_at_call 54; ((with_reducible refine (HNN.out).mono ?_); rintro e w1 ⟨rfl, hx1⟩; have HX1 := hid (hx0.trans hx1); clear hx1 hx0))
  exact bodyPost_ret (v := .tuple #[.slice none 0 0, .int .i64 E]) (by simp [results, Tryz.results25, go_sem]) rfl ⟨rfl, HX1.out.alloc _⟩
set_option maxRecDepth 100000 in
set_option maxHeartbeats 8000000 in
theorem Claims_bad (V : Voy) (s : VS) (w : World) (h : VoyAt w V s) (hE : voyE V ≠ 0) : Cal 19 #[.agg (voyA V s)] w fun e w' => e = .returned (.tuple #[.slice none 0 0, .int .i64 (voyE V)]) ∧ Ext w w' := by
  have HN := hid (fun (u : World) (hu : Ext w u) => newVoyage_bad (h.mono hu) hE)
  obtain ⟨E, hEE⟩ : ∃ E, voyE V = E := ⟨_, rfl⟩
  rw [hEE] at HN hE ⊢
  have hb : (E == 0) = false := by simpa using hE
  clear h hEE
  unfold voyA zeroVoy at *
  obtain ⟨gr, bo, ne, cr, cs, ol, ll, hl, xs⟩ := V
  obtain ⟨ca, oa, la, ha, xa, cc, oc, lc, hc, xc⟩ := s
  simp only at *
  have hx0 : Ext w (w.alloc (.cells #[.int .i64 gr, .slice ca cs.length cc, .int .i64 bo, .int .i64 ne, .int .i64 cr, .slice oa ol.length oc, .slice la ll.length lc, .slice ha hl.length hc, .slice xa xs.length xc] 32)) := (Ext.refl _).alloc _
  have HNN := hid (HN.out _ hx0)
  clear HN
  gi_enter Tryz.func19, Tryz.ntmps19
  gi_wp2_with (gi_at_call 54; ((with_reducible refine (HNN.out).mono ?_); rintro e w1 ⟨rfl, hx1⟩; have HX1 := hid (hx0.trans hx1); clear hx1 hx0))
  exact bodyPost_ret (v := .tuple #[.slice none 0 0, .int .i64 E]) (by simp [results, Tryz.results19, go_sem]) rfl ⟨rfl, HX1.out.alloc _⟩
set_option maxRecDepth 100000 in
set_option maxHeartbeats 8000000 in
theorem Check_ok (V : Voy) (s : VS) (w : World) (h : VoyAt w V s) (hE : voyE V = 0) : Cal 21 #[.agg (voyA V s)] w fun e w' => e = .returned (.int .i64 0) ∧ Ext w w' := by
  have HN := hid (fun (u : World) (hu : Ext w u) => newVoyage_ok (h.mono hu) hE)

  clear h hE
  unfold voyA voyB at *
  obtain ⟨gr, bo, ne, cr, cs, ol, ll, hl, xs⟩ := V
  obtain ⟨ca, oa, la, ha, xa, cc, oc, lc, hc, xc⟩ := s
  simp only at *
  have hx0 : Ext w (w.alloc (.cells #[.int .i64 gr, .slice ca cs.length cc, .int .i64 bo, .int .i64 ne, .int .i64 cr, .slice oa ol.length oc, .slice la ll.length lc, .slice ha hl.length hc, .slice xa xs.length xc] 32)) := (Ext.refl _).alloc _
  have HNN := hid (HN.out _ hx0)
  clear HN
  gi_enter Tryz.func21, Tryz.ntmps21
  gi_wp2_with (gi_at_call 54; ((with_reducible refine (HNN.out).mono ?_); rintro e w1 ⟨bm, rfl, hx1, hbm, HM⟩; have HX1 := hid (hx0.trans hx1); clear hx1 hx0 hbm))
  exact bodyPost_ret (v := .int .i64 0) (by simp [results, Tryz.results21, go_sem]) rfl ⟨rfl, HX1.out.alloc _⟩
set_option maxRecDepth 100000 in
set_option maxHeartbeats 8000000 in
theorem Shares_ok (V : Voy) (s : VS) (w : World) (h : VoyAt w V s) (hE : voyE V = 0) : Cal 25 #[.agg (voyA V s)] w fun e w' => ∃ r ns, e = .returned (.tuple #[r, .int .i64 0]) ∧ Ext w w' ∧ DueNames V ns ∧ ns.length ≤ 30 ∧ Hid (Row w' 53 4 r ns.length (dueF V ns)) := by
  have HN := hid (fun (u : World) (hu : Ext w u) => newVoyage_ok (h.mono hu) hE)
  have HDU := hid (fun (bv : Nat) (u : World) (hu : Ext w u) (hm : GMapAt .string u bv (entM V.le (lentV V) V.le.length)) => dues_any V s bv u (h.mono hu) (voyE_ok hE).1 (voyE_ok hE).2 hm)
  have HDU : Hid (∀ (bv : Nat) (u : World) (hu : Ext w u) (hm : GMapAt .string u bv (entM V.le (lentTo V.le V.lo V.lo.length) V.le.length)), Cal 60 #[.agg (voyB V s (.map (some bv)))] u fun e w' => ∃ r ns, e = .returned r ∧ Ext u w' ∧ DueNames V ns ∧ ns.length ≤ 30 ∧ Hid (Row w' 53 4 r ns.length (dueF V ns))) := HDU
  clear h hE
  unfold voyA voyB at *
  obtain ⟨gr, bo, ne, cr, cs, ol, ll, hl, xs⟩ := V
  obtain ⟨ca, oa, la, ha, xa, cc, oc, lc, hc, xc⟩ := s
  simp only at *
  have hx0 : Ext w (w.alloc (.cells #[.int .i64 gr, .slice ca cs.length cc, .int .i64 bo, .int .i64 ne, .int .i64 cr, .slice oa ol.length oc, .slice la ll.length lc, .slice ha hl.length hc, .slice xa xs.length xc] 32)) := (Ext.refl _).alloc _
  have HNN := hid (HN.out _ hx0)
  clear HN
  gi_enter Tryz.func25, Tryz.ntmps25
  gi_wp2_with (first | (gi_at_call 54; ((with_reducible refine (HNN.out).mono ?_); rintro e w1 ⟨bm, rfl, hx1, hbm, HM⟩; have HX1 := hid (hx0.trans hx1); clear hx1 hx0 hbm)) | (gi_at_call 60; ((with_reducible refine ((HDU.out bm _ (HX1.out.alloc _) (HM.out.mono ((Ext.refl _).alloc _)))).mono ?_); rintro e w3 ⟨r, ns, rfl, hx3, HDN, hnl, HRW⟩; have HX3 := hid ((HX1.out.alloc _).trans hx3); clear hx3)))
  exact bodyPost_ret (v := .tuple #[r, .int .i64 0]) (by simp [results, Tryz.results25, go_sem]) rfl ⟨r, ns, rfl, HX3.out, HDN, hnl, HRW⟩
end
end Go.Proofs.YtjocoadhalimjaaGreat
