/- The laws' small helpers: In, Mod, Chosen, Pick, Holds, to, at, sound. -/
import Derived.Test.YtmjelgonhpgmbaaMJ
import Derived.Test.YtmjelgonhpgmbaaMF
import Derived.Test.YtmjelgonhpgmbaaML
set_option linter.unusedSimpArgs false
set_option linter.unusedVariables false
namespace Go.Proofs.Ytmjelgonhpgmbaa
open Go Go.RowKit Go.Shelf

theorem in_any (n lo hi : Int) (w : World) :
    Cal 26 #[.int .i64 n, .int .i64 lo, .int .i64 hi] w fun e w' => e = .returned (.bool (inB n lo hi)) ∧ w = w' := by
  unfold inB
  gi_enter Try.func26, Try.ntmps26
  gi_wp2
  · go_ret; exact ⟨by simp [*], rfl⟩
  · have h : ¬ lo ≤ n := by omega
    go_ret; exact ⟨by simp [h], rfl⟩
theorem in_b (n lo hi : Int) (v : Bool) (w : World) (h : inB n lo hi = v) :
    Cal 26 #[.int .i64 n, .int .i64 lo, .int .i64 hi] w fun e w' => e = .returned (.bool v) ∧ w = w' := by
  subst h; exact in_any n lo hi w
/-- The rest of a number by another one, from 0 on. -/
def modI (x m : Int) : Int := if x.tmod m < 0 then x.tmod m + m else x.tmod m
theorem modI_ok (x : Int) {m : Int} (hm : 1 ≤ m) : 0 ≤ modI x m ∧ modI x m < m := by
  have h1 := Int.tmod_lt_of_pos x (show 0 < m by omega)
  have h2 := Int.tmod_lt_of_pos (-x) (show 0 < m by omega)
  rw [Int.neg_tmod] at h2
  unfold modI
  split <;> omega
theorem mod_any (x m : Int) (w : World) (hm : 1 ≤ m ∧ m ≤ 1000000000000000000) :
    Cal 34 #[.int .i64 x, .int .i64 m] w fun e w' => e = .returned (.int .i64 (modI x m)) ∧ w = w' := by
  have h1 := Int.tmod_lt_of_pos x (show 0 < m by omega)
  have h2 := Int.tmod_lt_of_pos (-x) (show 0 < m by omega)
  rw [Int.neg_tmod] at h2
  have hw : IntKind.i64.wrap (x.tmod m + m) = x.tmod m + m := by rw [IntKind.wrap_i64]; omega
  have HM : Hid (modI x m = if x.tmod m < 0 then x.tmod m + m else x.tmod m) := rfl
  have hm0 : (m == 0) = false := by simp; omega
  gi_enter Try.func34, Try.ntmps34
  by_cases hneg : x.tmod m < 0
  · have HG := HM.out.trans (if_pos hneg)
    have HG2 := hid HG
    clear HG HM
    have hd : decide (x.tmod m < 0) = true := decide_eq_true hneg
    gi_wp2
    go_ret
    exact ⟨by rw [HG2.out]; rfl, rfl⟩
  · have HG := HM.out.trans (if_neg hneg)
    have HG2 := hid HG
    clear HG HM
    have hd : decide (x.tmod m < 0) = false := decide_eq_false hneg
    gi_wp2
    go_ret
    exact ⟨by rw [HG2.out]; rfl, rfl⟩
/-- A number from lo to hi, as a number chooses it. -/
def chosenI (lo hi n : Int) : Int := if hi ≤ lo then lo else lo + modI n (hi - lo + 1)
theorem chosenI_ok {lo hi : Int} (n : Int) (h : lo ≤ hi) : lo ≤ chosenI lo hi n ∧ chosenI lo hi n ≤ hi := by
  unfold chosenI
  split
  · omega
  · have := modI_ok n (m := hi - lo + 1) (by omega)
    omega
theorem chosen_num (lo hi n : Int) (w : World) (hb : (-1000000 ≤ lo ∧ lo ≤ 1000000) ∧ -1000000 ≤ hi ∧ hi ≤ 1000000) :
    Cal 36 #[.int .i64 lo, .int .i64 hi, .int .i64 n] w fun e w' => e = .returned (.int .i64 (chosenI lo hi n)) ∧ w = w' := by
  by_cases h : hi ≤ lo
  · have HC : Hid (chosenI lo hi n = lo) := if_pos h
    have hd : decide (hi ≤ lo) = true := decide_eq_true h
    gi_enter Try.func36, Try.ntmps36
    gi_wp2
    go_ret
    exact ⟨by rw [HC.out]; rfl, rfl⟩
  · have HC : Hid (chosenI lo hi n = lo + modI n (hi - lo + 1)) := if_neg h
    have hd : decide (hi ≤ lo) = false := decide_eq_false h
    have hm := modI_ok n (m := hi - lo + 1) (by omega)
    have HM := hid (fun u => mod_any n (hi - lo + 1) u (by omega))
    have hlt : ¬ hi - lo + 1 < 1 := by omega
    have hw1 : wrap64 (hi - lo + 1) = hi - lo + 1 := by unfold wrap64; omega
    generalize modI n (hi - lo + 1) = q at *
    gi_enter Try.func36, Try.ntmps36
    gi_wp2_with (gi_at_call 34; ((with_reducible refine (HM.out _).mono ?_); rintro e w1 ⟨rfl, rfl⟩))
    go_ret
    exact ⟨by rw [HC.out]; rfl, rfl⟩
def pickI (xs : List Int) (k : Int) : Int := if xs.length = 0 then 0 else xs.getD (modI k xs.length).toNat 0
theorem Pick_any (v : Value) (xs : List Int) (k : Int) (w : World) (h : IntsAt w v xs) :
    Cal 57 #[v, .int .i64 k] w fun e w' => e = .returned (.int .i64 (pickI xs k)) ∧ Ext w w' := by
  obtain ⟨a, cap, rfl, hl, hc⟩ := h
  gi_enter Try.func57, Try.ntmps57
  by_cases h0 : xs.length = 0
  · have HP : Hid (pickI xs k = 0) := if_pos h0
    have hz : ((xs.length : Int) == 0) = true := by rw [beq_iff_eq]; omega
    clear hc h0
    gi_wp2
    go_ret
    exact ⟨by rw [HP.out]; rfl, Ext.refl _⟩
  · have hz : ((xs.length : Int) == 0) = false := by rw [beq_eq_false_iff_ne]; omega
    have hmo := modI_ok k (m := (xs.length : Int)) (by omega)
    obtain ⟨j, hj⟩ : ∃ j : Nat, modI k xs.length = j := ⟨(modI k xs.length).toNat, by omega⟩
    have hjl : j < xs.length := by omega
    obtain ⟨b, off, rfl, hb, hcell⟩ := hc j hjl
    have HP : Hid (pickI xs k = xs[j]) := by
      show _ = _
      unfold pickI
      rw [if_neg h0, hj, Int.toNat_natCast, getD_of hjl]
    have HM := hid (mod_any k xs.length w (by omega))
    rw [hj] at HM
    clear hc h0 hmo hj
    generalize xs[j] = y at *
    gi_wp2_with (gi_at_call 34; ((with_reducible refine HM.out.mono ?_); rintro e w5 ⟨rfl, rfl⟩))
    go_ret
    exact ⟨by rw [HP.out]; rfl, Ext.refl _⟩
theorem holds_any (lo hi n : Int) (w : World) :
    Cal 30 #[.agg #[.int .i64 lo, .int .i64 hi], .int .i64 n] w fun e w' => e = .returned (.bool (inB n lo hi)) ∧ Ext w w' := by
  have hx : Ext w (w.alloc (.cells #[.int .i64 lo, .int .i64 hi] 56)) := (Ext.refl _).alloc _
  have HI := hid (fun u => in_any n lo hi u)
  generalize inB n lo hi = b at *
  gi_enter Try.func30, Try.ntmps30
  gi_wp2_with (gi_at_call 26; ((with_reducible refine (HI.out _).mono ?_); rintro e w5 ⟨rfl, rfl⟩))
  go_ret
  exact ⟨rfl, hx⟩
theorem to_any (lo hi : Int) (w : World) : Cal 31 #[.int .i64 lo, .int .i64 hi] w fun e w' => e = .returned (.agg #[.int .i64 lo, .int .i64 hi]) ∧ Ext w w' := by
  gi_enter Try.func31, Try.ntmps31
  gi_wp2
  refine bodyPost_ret (v := .agg #[.int .i64 lo, .int .i64 hi]) (by simp [results, Try.results31, go_sem]) rfl ⟨rfl, ?_⟩
  exact (Ext.refl _).alloc _
theorem at_any (lo hi : Int) (w : World) : Cal 37 #[.int .i64 lo, .int .i64 hi] w fun e w' => e = .returned (.agg #[.int .i64 lo, .int .i64 hi]) ∧ Ext w w' := by
  gi_enter Try.func37, Try.ntmps37
  gi_wp2
  refine bodyPost_ret (v := .agg #[.int .i64 lo, .int .i64 hi]) (by simp [results, Try.results37, go_sem]) rfl ⟨rfl, ?_⟩
  exact (Ext.refl _).alloc _



theorem sumTo_len {l : List Int} {s m : Nat} (h : l.length ≤ s + m) : sumTo l s (m + 1) = sumTo l s m := by
  unfold sumTo
  rw [List.take_of_length_le (by simp; omega), List.take_of_length_le (by simp; omega)]
theorem sumTo_split (l : List Int) (s a b : Nat) : sumTo l s (a + b) = sumTo l s a + sumTo l (s + a) b := by
  unfold sumTo
  rw [List.take_add, List.sum_append, List.drop_drop]
theorem sumTo_seg {t : List Int} {l : List Spn} (h : withinB t l = true) (s : Nat) : ∀ m, (sumSp ((l.drop s).take m)).lo ≤ sumTo t s m ∧ sumTo t s m ≤ (sumSp ((l.drop s).take m)).hi
  | 0 => by simp [sumSp, sumLo, sumHi, sumTo]
  | m + 1 => by
    obtain ⟨h1, h2⟩ := sumTo_seg h s m
    obtain ⟨e1, e2⟩ := withinB_spec h
    rcases Nat.lt_or_ge (s + m) l.length with hl | hl
    · have := e2 (s + m) (by omega) hl
      rw [sumTo_succ t s m (by omega), List.take_succ_eq_append_getElem (by simp; omega)]
      unfold sumSp sumLo sumHi at h1 h2 ⊢
      simp only [List.map_append, List.sum_append, List.map_cons, List.map_nil, List.sum_cons, List.sum_nil, List.getElem_drop] at h1 h2 ⊢
      omega
    · rw [sumTo_len (by omega), List.take_of_length_le (by simp; omega)]
      rw [List.take_of_length_le (by simp; omega)] at h1 h2
      exact ⟨h1, h2⟩
/-- One side of two nets. -/
def apartG (l : List Spn) (a b sa sb : Int) (ea eb : Spn) (h : Int) : Spn :=
  spAdd ⟨a - b, a - b⟩ (spAdd (spAdd (sumSp ((l.drop sa.toNat).take ((mx sa sb).toNat - sa.toNat))) (spMul (h - sa) ea)) (spNeg (spAdd (sumSp ((l.drop sb.toNat).take ((mx sb sa).toNat - sb.toNat))) (spMul (h - sb) eb))))
def whereG (t : List Int) (a s e h : Int) : Int := a + e * (h - s) + sumTo t s.toNat (h.toNat - s.toNat)
theorem apart_eG (F : FleetD) (n m : NetD) (h : Int) : apart_eF F n m h = apartG F.east n.east m.east n.shot m.shot n.se m.se h := rfl
theorem apart_nG (F : FleetD) (n m : NetD) (h : Int) : apart_nF F n m h = apartG F.north n.north m.north n.shot m.shot n.sn m.sn h := rfl
theorem where_eG (T : TruthD) (n : NetD) (i : Nat) (h : Int) : where_eF T n i h = whereG T.east n.east n.shot (T.se.getD i 0) h := rfl
theorem where_nG (T : TruthD) (n : NetD) (i : Nat) (h : Int) : where_nF T n i h = whereG T.north n.north n.shot (T.sn.getD i 0) h := rfl
theorem mx_comm (a b : Int) : mx a b = mx b a := by unfold mx; split <;> split <;> omega
theorem mul_bounds {n a x b : Int} (hn : 0 ≤ n) (h1 : a ≤ x) (h2 : x ≤ b) : n * a ≤ x * n ∧ x * n ≤ n * b := by
  rw [Int.mul_comm x n]
  exact ⟨Int.mul_le_mul_of_nonneg_left h1 hn, Int.mul_le_mul_of_nonneg_left h2 hn⟩
theorem split_at (t : List Int) {s p h : Int} (h0 : 0 ≤ s) (h1 : s ≤ p) (h2 : p ≤ h) : sumTo t s.toNat (h.toNat - s.toNat) = sumTo t s.toNat (p.toNat - s.toNat) + sumTo t p.toNat (h.toNat - p.toNat) := by
  rw [show h.toNat - s.toNat = (p.toNat - s.toNat) + (h.toNat - p.toNat) by omega, sumTo_split, show s.toNat + (p.toNat - s.toNat) = p.toNat by omega]
theorem side_between {l : List Spn} {t : List Int} (hw : withinB t l = true) (a b : Int) {sa sb h x y : Int} {ea eb : Spn} (ha : 0 ≤ sa) (hb : 0 ≤ sb) (hh : mx sa sb ≤ h) (hx : ea.lo ≤ x ∧ x ≤ ea.hi) (hy : eb.lo ≤ y ∧ y ≤ eb.hi) :
    (apartG l a b sa sb ea eb h).lo ≤ whereG t a sa x h - whereG t b sb y h ∧ whereG t a sa x h - whereG t b sb y h ≤ (apartG l a b sa sb ea eb h).hi := by
  have hm := le_mx sa sb
  have h1 := sumTo_seg hw sa.toNat ((mx sa sb).toNat - sa.toNat)
  have h2 := sumTo_seg hw sb.toNat ((mx sb sa).toNat - sb.toNat)
  have e1 := split_at t ha hm.1 hh
  have e2 := split_at t hb hm.2 hh
  rw [mx_comm sb sa] at h2
  have m1 := mul_bounds (n := h - sa) (by omega) hx.1 hx.2
  have m2 := mul_bounds (n := h - sb) (by omega) hy.1 hy.2
  unfold apartG whereG
  rw [mx_comm sb sa]
  simp only [spAdd, spNeg, spMul]
  omega
theorem side_carried (t : List Int) (a b : Int) {sa sb h x y : Int} (ha : 0 ≤ sa) (hb : 0 ≤ sb) (hh : mx sa sb ≤ h) :
    whereG t a sa x h - whereG t b sb y h = whereG t a sa x (mx sa sb) - whereG t b sb y (mx sa sb) + (h - mx sa sb) * (x - y) := by
  have hm := le_mx sa sb
  have e1 := split_at t ha hm.1 hh
  have e2 := split_at t hb hm.2 hh
  unfold whereG
  rw [e1, e2]
  have q1 : x * (h - sa) = x * (mx sa sb - sa) + (h - mx sa sb) * x := by rw [Int.mul_comm (h - mx sa sb) x, ← Int.mul_add]; congr 1; omega
  have q2 : y * (h - sb) = y * (mx sa sb - sb) + (h - mx sa sb) * y := by rw [Int.mul_comm (h - mx sa sb) y, ← Int.mul_add]; congr 1; omega
  rw [q1, q2, Int.mul_sub (h - mx sa sb) x y]
  omega
theorem apart_carried (l : List Spn) (a b sa sb h : Int) (ea eb : Spn) :
    apartG l a b sa sb ea eb h = ⟨(apartG l a b sa sb ea eb (mx sa sb)).lo + (h - mx sa sb) * (ea.lo - eb.hi), (apartG l a b sa sb ea eb (mx sa sb)).hi + (h - mx sa sb) * (ea.hi - eb.lo)⟩ := by
  unfold apartG
  simp only [spAdd, spNeg, spMul]
  have q : ∀ s e : Int, (h - s) * e = (mx sa sb - s) * e + (h - mx sa sb) * e := fun s e => by rw [← Int.add_mul]; congr 1; omega
  rw [q sa ea.lo, q sa ea.hi, q sb eb.lo, q sb eb.hi, Int.mul_sub, Int.mul_sub]
  simp only [Spn.mk.injEq]
  constructor <;> omega
/-- Turned round. -/
theorem apart_back (l : List Spn) (a b sa sb : Int) (ea eb : Spn) (h : Int) : apartG l b a sb sa eb ea h = spNeg (apartG l a b sa sb ea eb h) := by
  unfold apartG
  simp only [spAdd, spNeg, spMul, Spn.mk.injEq]
  constructor <;> omega
/-- The truth in which two nets are as far apart as they can be. -/
def endT (l : List Spn) (t : List Int) (sa sb : Int) (h : Nat) (least : Bool) : List Int :=
  (List.range t.length).map fun j => if j < h then (if (decide (sa ≤ j) && decide ((j : Int) < sb)) != least then (l.getD j ⟨0, 0⟩).hi else (l.getD j ⟨0, 0⟩).lo) else t.getD j 0
theorem endT_len (l : List Spn) (t : List Int) (sa sb : Int) (h : Nat) (least : Bool) : (endT l t sa sb h least).length = t.length := by simp [endT]
theorem endT_get (l : List Spn) (t : List Int) (sa sb : Int) (h : Nat) (least : Bool) {j : Nat} (hj : j < t.length) (hh : j < h) : (endT l t sa sb h least)[j]? = some (if (decide (sa ≤ j) && decide ((j : Int) < sb)) != least then (l.getD j ⟨0, 0⟩).hi else (l.getD j ⟨0, 0⟩).lo) := by
  simp [endT, hj, hh]
theorem seg_sum {t : List Int} {l : List Spn} {g : Spn → Int} (he : t.length = l.length) (s : Nat) : ∀ m, (∀ j, s ≤ j → j < s + m → ∀ hj : j < l.length, t[j]? = some (g l[j])) → sumTo t s m = (((l.drop s).take m).map g).sum
  | 0, _ => by simp [sumTo]
  | m + 1, h => by
    have ih := seg_sum he s m (fun j h1 h2 hj => h j h1 (by omega) hj)
    rcases Nat.lt_or_ge (s + m) l.length with hl | hl
    · have hq := h (s + m) (by omega) (by omega) hl
      rw [List.getElem?_eq_getElem (by omega)] at hq
      have hq := Option.some.inj hq
      rw [sumTo_succ t s m (by omega), List.take_succ_eq_append_getElem (by simp; omega), List.map_append, List.sum_append, ih, hq]
      simp
    · rw [sumTo_len (by omega), ih, List.take_of_length_le (by simp; omega), List.take_of_length_le (by simp; omega)]
theorem side_end {l : List Spn} {t : List Int} (hw : t.length = l.length) (a b : Int) {sa sb : Int} {h : Nat} {ea eb : Spn} (ha : 0 ≤ sa) (hb : 0 ≤ sb) (hh : mx sa sb ≤ h) (hl : h ≤ l.length) :
    whereG (endT l t sa sb h true) a sa ea.lo h - whereG (endT l t sa sb h true) b sb eb.hi h = (apartG l a b sa sb ea eb h).lo ∧
    whereG (endT l t sa sb h false) a sa ea.hi h - whereG (endT l t sa sb h false) b sb eb.lo h = (apartG l a b sa sb ea eb h).hi := by
  have hm := le_mx sa sb
  have key : ∀ (least : Bool), sumTo (endT l t sa sb h least) sa.toNat ((mx sa sb).toNat - sa.toNat) = (((l.drop sa.toNat).take ((mx sa sb).toNat - sa.toNat)).map fun s => if least then s.lo else s.hi).sum ∧
      sumTo (endT l t sa sb h least) sb.toNat ((mx sa sb).toNat - sb.toNat) = (((l.drop sb.toNat).take ((mx sa sb).toNat - sb.toNat)).map fun s => if least then s.hi else s.lo).sum := fun least => by
    constructor
    · refine seg_sum (by rw [endT_len]; exact hw) _ _ fun j h1 h2 hj => ?_
      rw [endT_get l t sa sb h least (by omega) (by omega), getD_of hj]
      have d1 : decide (sa ≤ (j : Int)) = true := decide_eq_true (by omega)
      have d2 : decide ((j : Int) < sb) = true := decide_eq_true (by have : mx sa sb = sb := by unfold mx at *; split at * <;> omega
                                                                     omega)
      rw [d1, d2]
      cases least <;> rfl
    · refine seg_sum (by rw [endT_len]; exact hw) _ _ fun j h1 h2 hj => ?_
      rw [endT_get l t sa sb h least (by omega) (by omega), getD_of hj]
      have d1 : decide (sa ≤ (j : Int)) = false := decide_eq_false (by have : mx sa sb = sa := by unfold mx at *; split at * <;> omega
                                                                       omega)
      rw [d1]
      cases least <;> rfl
  have e1 := fun least => split_at (endT l t sa sb h least) ha hm.1 hh
  have e2 := fun least => split_at (endT l t sa sb h least) hb hm.2 hh
  have k1 := key true
  have k2 := key false
  unfold apartG whereG
  rw [mx_comm sb sa, e1 true, e2 true, e1 false, e2 false, k1.1, k1.2, k2.1, k2.2]
  simp only [spAdd, spNeg, spMul, sumSp, sumLo, sumHi]
  rw [Int.mul_comm ea.lo, Int.mul_comm eb.hi, Int.mul_comm ea.hi, Int.mul_comm eb.lo]
  constructor <;> simp <;> omega
/-- What is narrower. -/
def spSub (s t : Spn) : Prop := t.lo ≤ s.lo ∧ s.hi ≤ t.hi
theorem sum_sub {l m : List Spn} (he : l.length = m.length) (h : ∀ i (h1 : i < l.length) (h2 : i < m.length), spSub l[i] m[i]) (s : Nat) : ∀ k, spSub (sumSp ((l.drop s).take k)) (sumSp ((m.drop s).take k))
  | 0 => by simp [spSub, sumSp, sumLo, sumHi]
  | k + 1 => by
    obtain ⟨h1, h2⟩ := sum_sub he h s k
    rcases Nat.lt_or_ge (s + k) l.length with hl | hl
    · have := h (s + k) hl (by omega)
      rw [List.take_succ_eq_append_getElem (by simp; omega), List.take_succ_eq_append_getElem (by simp; omega)]
      unfold spSub sumSp sumLo sumHi at *
      simp only [List.map_append, List.sum_append, List.map_cons, List.map_nil, List.sum_cons, List.sum_nil, List.getElem_drop] at h1 h2 ⊢
      omega
    · rw [List.take_of_length_le (by simp; omega), List.take_of_length_le (by simp; omega)]
      rw [List.take_of_length_le (by simp; omega), List.take_of_length_le (by simp; omega)] at h1 h2
      exact ⟨h1, h2⟩
theorem apart_sub {l m : List Spn} (he : l.length = m.length) (h : ∀ i (h1 : i < l.length) (h2 : i < m.length), spSub l[i] m[i]) (a b : Int) {sa sb hr : Int} {ea eb fa fb : Spn} (h1 : spSub ea fa) (h2 : spSub eb fb) (ha : sa ≤ hr) (hb : sb ≤ hr) :
    spSub (apartG l a b sa sb ea eb hr) (apartG m a b sa sb fa fb hr) := by
  have q1 := sum_sub he h sa.toNat ((mx sa sb).toNat - sa.toNat)
  have q2 := sum_sub he h sb.toNat ((mx sb sa).toNat - sb.toNat)
  have m1 := Int.mul_le_mul_of_nonneg_left h1.1 (show 0 ≤ hr - sa by omega)
  have m2 := Int.mul_le_mul_of_nonneg_left h1.2 (show 0 ≤ hr - sa by omega)
  have m3 := Int.mul_le_mul_of_nonneg_left h2.1 (show 0 ≤ hr - sb by omega)
  have m4 := Int.mul_le_mul_of_nonneg_left h2.2 (show 0 ≤ hr - sb by omega)
  unfold spSub at q1 q2 ⊢
  unfold apartG
  simp only [spAdd, spNeg, spMul]
  omega
theorem spSub_refl (s : Spn) : spSub s s := ⟨Int.le_refl _, Int.le_refl _⟩
theorem meet_iff (a b c d : Int) : meetB a b c d = true ↔ (a ≤ b ∧ c ≤ d ∧ a ≤ d ∧ c ≤ b) := by
  unfold meetB mx mn
  rw [decide_eq_true_iff]
  split <;> split <;> omega



theorem inB_of {n lo hi : Int} (h : lo ≤ n ∧ n ≤ hi) : inB n lo hi = true := by unfold inB; simp [h.1, h.2]
theorem spanB_of {M : Int} {s : Spn} (h : spIn M s) (o : s.lo ≤ s.hi) : spanB M s = true := by
  unfold spanB spIn at *
  simp
  omega
theorem spansB_of {M : Int} {l : List Spn} (h : ∀ s ∈ l, spanB M s = true) : spansB M l = true :=
  allTo_yes fun i hi => by rw [spanGood_eq hi]; exact h _ (List.getElem_mem hi)
theorem netB_of {n : NetD} {H : Nat} (h : NetOk n H) : netB n H = true := by
  unfold netB
  rw [inB_of h.east, inB_of h.north, inB_of h.long, inB_of h.shot, inB_of h.haul, spansB_of (l := [n.se, n.sn]) (fun s hs => by
    simp at hs
    rcases hs with rfl | rfl
    · exact spanB_of h.se h.seo
    · exact spanB_of h.sn h.sno)]
  rcases h.along with e | e <;> rw [e] <;> rfl
theorem fleetB_of {F : FleetD} (h : FleetOk F) : fleetB F = true := by
  unfold fleetB
  have := h.hours
  have := h.count
  rw [inB_of (n := F.east.length) (by omega), inB_of (n := F.nets.length) (by omega), inB_of h.gap, spansB_of fun s hs => spanB_of (h.east s hs) (h.easto s hs), spansB_of fun s hs => spanB_of (h.north s hs) (h.northo s hs), h.same, allTo_yes (good := netGood F) fun i hi => by rw [netGood_eq hi]; exact netB_of (h.nets _ (List.getElem_mem hi))]
  simp
theorem trips_in {F : FleetD} {t : Nat × Nat × Nat} (h1 : t.1 ≤ F.east.length) (h2 : t.2.1 < t.2.2) (h3 : t.2.2 < F.nets.length) (h4 : lieG F t.1 t.2.1 t.2.2 = true) : t ∈ trips F := by
  obtain ⟨h, i, j⟩ := t
  simp only at h1 h2 h3 h4
  unfold trips outTo midTo inTo
  rw [List.mem_flatMap]
  refine ⟨h, List.mem_range.2 (by omega), ?_⟩
  rw [List.mem_flatMap]
  refine ⟨i, List.mem_range.2 (by omega), ?_⟩
  rw [List.mem_flatMap]
  refine ⟨j - (i + 1), List.mem_range.2 (by omega), ?_⟩
  rw [show i + 1 + (j - (i + 1)) = j by omega, if_pos h4]
  exact List.mem_singleton.2 rfl
theorem pairwise_mem {α : Type} {R : α → α → Prop} {l : List α} (h : ∀ x ∈ l, ∀ y ∈ l, R x y) : l.Pairwise R :=
  List.pairwise_iff_getElem.2 fun _ _ hi hj _ => h _ (List.getElem_mem hi) _ (List.getElem_mem hj)
theorem trips_sorted (F : FleetD) : (trips F).Pairwise fun a b => a.1 ≤ b.1 := by
  have hour : ∀ h t, t ∈ midTo (lieG F) F.nets.length h F.nets.length → t.1 = h := fun h t ht => by
    unfold midTo at ht
    rw [List.mem_flatMap] at ht
    obtain ⟨i, _, ht⟩ := ht
    unfold inTo at ht
    rw [List.mem_flatMap] at ht
    obtain ⟨m, _, ht⟩ := ht
    split at ht
    · simp only [List.mem_singleton] at ht; subst ht; rfl
    · cases ht
  unfold trips outTo
  rw [List.pairwise_flatMap]
  refine ⟨fun h _ => pairwise_mem fun x hx y hy => ?_, ?_⟩
  · rw [hour h x hx, hour h y hy]; exact Nat.le_refl _
  · refine List.Pairwise.imp ?_ List.pairwise_lt_range
    intro a b hab x hx y hy
    rw [hour a x hx, hour b y hy]; omega
theorem find_first {F : FleetD} {p : Nat × Nat × Nat → Bool} {b : Nat × Nat × Nat} (hb : b ∈ trips F) (hp : p b = true) : ∃ a, (trips F).find? p = some a ∧ a ∈ trips F ∧ p a = true ∧ a.1 ≤ b.1 := by
  cases h : (trips F).find? p with
  | none =>
    have := List.find?_eq_none.1 h b hb
    rw [hp] at this; exact absurd rfl this
  | some a =>
    obtain ⟨h1, az, bs, e, h2⟩ := List.find?_eq_some_iff_append.1 h
    have hs := trips_sorted F
    rw [e] at hs hb
    refine ⟨a, rfl, by rw [e]; simp, h1, ?_⟩
    rcases List.mem_append.1 hb with hm | hm
    · have := h2 b hm
      rw [hp] at this; cases this
    · rcases List.mem_cons.1 hm with rfl | hm
      · exact Nat.le_refl _
      · exact (List.pairwise_cons.1 (List.pairwise_append.1 hs).2.1).1 b hm
theorem find_mem {F : FleetD} {p : Nat × Nat × Nat → Bool} {a : Nat × Nat × Nat} (h : (trips F).find? p = some a) : a ∈ trips F ∧ p a = true := ⟨List.mem_of_find?_eq_some h, List.find?_some h⟩
theorem meetS_iff (s t : Spn) : meetS s t = true ↔ (s.lo ≤ s.hi ∧ t.lo ≤ t.hi ∧ s.lo ≤ t.hi ∧ t.lo ≤ s.hi) := meet_iff _ _ _ _
theorem meetS_sub {s t s' t' : Spn} (h : meetS s t = true) (hs : spSub s s') (ht : spSub t t') : meetS s' t' = true := by
  rw [meetS_iff] at h ⊢
  unfold spSub at hs ht
  omega
/-- What a trip is. -/
theorem trip_ok {F : FleetD} (hF : FleetOk F) {t : Nat × Nat × Nat} (h : t ∈ trips F) : ∃ a b, F.nets[t.2.1]? = some a ∧ F.nets[t.2.2]? = some b ∧ F.nets.getD t.2.1 netZ = a ∧ F.nets.getD t.2.2 netZ = b ∧ NetOk a F.east.length ∧ NetOk b F.east.length ∧ (a.shot ≤ t.1 ∧ t.1 ≤ a.haul) ∧ (b.shot ≤ t.1 ∧ t.1 ≤ b.haul) ∧ mx a.shot b.shot ≤ t.1 ∧ t.1 ≤ F.east.length := by
  obtain ⟨h1, h2, h3, h4⟩ := trips_mem h
  refine ⟨F.nets[t.2.1]'(by omega), F.nets[t.2.2], List.getElem?_eq_getElem _, List.getElem?_eq_getElem _, getD_of (by omega), getD_of h3, hF.nets _ (List.getElem_mem _), hF.nets _ (List.getElem_mem _), ?_⟩
  unfold lieG at h4
  rw [Bool.and_eq_true, getD_of (show t.2.1 < F.nets.length by omega), getD_of h3] at h4
  have g1 := inB_spec h4.1
  have g2 := inB_spec h4.2
  exact ⟨g1, g2, mx_le g1.1 g2.1, h1⟩
theorem truth_slip {F : FleetD} {T : TruthD} (hT : truthB F T = true) {i : Nat} {n : NetD} (hn : F.nets[i]? = some n) : (n.se.lo ≤ T.se.getD i 0 ∧ T.se.getD i 0 ≤ n.se.hi) ∧ (n.sn.lo ≤ T.sn.getD i 0 ∧ T.sn.getD i 0 ≤ n.sn.hi) := by
  unfold truthB at hT
  simp only [Bool.and_eq_true] at hT
  obtain ⟨_, h2, _, h4⟩ := hT
  obtain ⟨hi, e⟩ := List.getElem?_eq_some_iff.1 hn
  obtain ⟨l2, k2⟩ := withinB_spec h2
  obtain ⟨l4, k4⟩ := withinB_spec h4
  simp only [List.length_map] at l2 l4
  have a2 := k2 i (by omega) (by simpa using hi)
  have a4 := k4 i (by omega) (by simpa using hi)
  simp only [List.getElem_map, e] at a2 a4
  rw [getD_of (by omega), getD_of (by omega)]
  exact ⟨a2, a4⟩
theorem truth_tide {F : FleetD} {T : TruthD} (hT : truthB F T = true) : withinB T.east F.east = true ∧ withinB T.north F.north = true := by
  unfold truthB at hT
  simp only [Bool.and_eq_true] at hT
  exact ⟨hT.1, hT.2.2.1⟩
theorem between_e {F : FleetD} {T : TruthD} (hF : FleetOk F) (hT : truthB F T = true) {i k : Nat} {a b : NetD} (ha : F.nets[i]? = some a) (hb : F.nets[k]? = some b) {h : Int} (hh : mx a.shot b.shot ≤ h) :
    ((apart_eF F a b h).lo ≤ where_eF T a i h - where_eF T b k h ∧ where_eF T a i h - where_eF T b k h ≤ (apart_eF F a b h).hi) ∧
    ((apart_nF F a b h).lo ≤ where_nF T a i h - where_nF T b k h ∧ where_nF T a i h - where_nF T b k h ≤ (apart_nF F a b h).hi) := by
  have oa := hF.nets a (List.mem_of_getElem? ha)
  have ob := hF.nets b (List.mem_of_getElem? hb)
  have sa := truth_slip hT ha
  have sb := truth_slip hT hb
  have ht := truth_tide hT
  exact ⟨side_between ht.1 a.east b.east oa.shot.1 ob.shot.1 hh sa.1 sb.1, side_between ht.2 a.north b.north oa.shot.1 ob.shot.1 hh sa.2 sb.2⟩
theorem foul_can {F : FleetD} {T : TruthD} (hF : FleetOk F) (hT : truthB F T = true) {t : Nat × Nat × Nat} (ht : t ∈ trips F) (h : foulLt F T t = true) : foulCt F t = true := by
  obtain ⟨a, b, e1, e2, e3, e4, oa, ob, g1, g2, hm, hl⟩ := trip_ok hF ht
  unfold foulLt foulsL at h
  unfold foulCt foulsC
  rw [e3, e4] at h ⊢
  rw [Bool.and_eq_true] at h ⊢
  obtain ⟨b1, b2⟩ := between_e hF hT e1 e2 hm
  exact ⟨meetS_sub h.1 b1 (spSub_refl _), meetS_sub h.2 b2 (spSub_refl _)⟩
/-- The fleet of two of its nets alone. -/
def twoF (F : FleetD) (i k : Nat) : FleetD := { F with nets := [F.nets.getD i netZ, F.nets.getD k netZ] }
theorem two_ok {F : FleetD} (hF : FleetOk F) {i k : Nat} (hi : i < F.nets.length) (hk : k < F.nets.length) : FleetOk (twoF F i k) where
  hours := hF.hours
  same := hF.same
  east := hF.east
  north := hF.north
  easto := hF.easto
  northo := hF.northo
  gap := hF.gap
  count := by unfold twoF; simp
  nets := fun n hn => by
    unfold twoF at hn
    rw [getD_of hi, getD_of hk] at hn
    simp at hn
    rcases hn with rfl | rfl <;> exact hF.nets _ (List.getElem_mem _)
theorem two_can {F : FleetD} {i k h : Nat} (hi : i < F.nets.length) (hk : k < F.nets.length) (hh : h ≤ F.east.length) (hl : lieG F h i k = true) (hc : foulsC F (F.nets.getD i netZ) (F.nets.getD k netZ) h = true) :
    ∃ z, (trips (twoF F i k)).find? (foulCt (twoF F i k)) = some z ∧ z.2.1 = 0 ∧ z.2.2 = 1 ∧ z.1 ≤ h := by
  have hm : ((h, 0, 1) : Nat × Nat × Nat) ∈ trips (twoF F i k) := trips_in hh (by simp) (by simp [twoF]) hl
  obtain ⟨z, h1, h2, _, h4⟩ := find_first (p := foulCt (twoF F i k)) hm hc
  obtain ⟨_, m2, m3, _⟩ := trips_mem h2
  have m3' : z.2.2 < 2 := m3
  exact ⟨z, h1, by omega, by omega, h4⟩
theorem safe_math {F : FleetD} {T : TruthD} (hF : fleetB F = true) (hT : truthB F T = true) {y : Nat × Nat × Nat} (hy : (trips F).find? (foulLt F T) = some y) :
    y.2.1 < y.2.2 ∧ y.2.2 < F.nets.length ∧ (∃ x, (trips F).find? (foulCt F) = some x ∧ x.1 ≤ y.1) ∧ fleetB (twoF F y.2.1 y.2.2) = true ∧
    ∃ z, (trips (twoF F y.2.1 y.2.2)).find? (foulCt (twoF F y.2.1 y.2.2)) = some z ∧ z.2.1 = 0 ∧ z.2.2 = 1 ∧ z.1 ≤ y.1 := by
  have ok := fleetB_ok hF
  obtain ⟨hm, hp⟩ := find_mem hy
  obtain ⟨h1, h2, h3, h4⟩ := trips_mem hm
  have hc := foul_can ok hT hm hp
  obtain ⟨x, e1, _, _, e4⟩ := find_first hm hc
  exact ⟨h2, h3, ⟨x, e1, e4⟩, fleetB_of (two_ok ok (by omega) h3), two_can (by omega) h3 h1 h4 hc⟩



structure NetSub (n m : NetD) : Prop where
  east : n.east = m.east
  north : n.north = m.north
  long : n.long = m.long
  along : n.along = m.along
  shot : n.shot = m.shot
  haul : n.haul = m.haul
  se : spSub n.se m.se
  sn : spSub n.sn m.sn
theorem NetSub.refl (n : NetD) : NetSub n n := ⟨rfl, rfl, rfl, rfl, rfl, rfl, spSub_refl _, spSub_refl _⟩
structure FleetSub (X F : FleetD) : Prop where
  elen : X.east.length = F.east.length
  nlen : X.north.length = F.north.length
  east : ∀ i (h1 : i < X.east.length) (h2 : i < F.east.length), spSub X.east[i] F.east[i]
  north : ∀ i (h1 : i < X.north.length) (h2 : i < F.north.length), spSub X.north[i] F.north[i]
  gap : X.gap ≤ F.gap
theorem fouls_sub {X F : FleetD} (h : FleetSub X F) {a b a' b' : NetD} (ha : NetSub a a') (hb : NetSub b b') {hr : Int} (h1 : a.shot ≤ hr) (h2 : b.shot ≤ hr) (hf : foulsC X a b hr = true) : foulsC F a' b' hr = true := by
  unfold foulsC at hf ⊢
  rw [Bool.and_eq_true] at hf ⊢
  have hg := h.gap
  have e1 : spSub (apart_eF X a b hr) (apart_eF F a' b' hr) := by
    rw [apart_eG, apart_eG, ← ha.east, ← hb.east, ← ha.shot, ← hb.shot]
    exact apart_sub h.elen h.east _ _ ha.se hb.se h1 h2
  have e2 : spSub (apart_nF X a b hr) (apart_nF F a' b' hr) := by
    rw [apart_nG, apart_nG, ← ha.north, ← hb.north, ← ha.shot, ← hb.shot]
    exact apart_sub h.nlen h.north _ _ ha.sn hb.sn h1 h2
  have l1 : long_eF a = long_eF a' := by unfold long_eF; rw [ha.along, ha.long]
  have l2 : long_eF b = long_eF b' := by unfold long_eF; rw [hb.along, hb.long]
  have l3 : long_nF a = long_nF a' := by unfold long_nF; rw [ha.along, ha.long]
  have l4 : long_nF b = long_nF b' := by unfold long_nF; rw [hb.along, hb.long]
  exact ⟨meetS_sub hf.1 e1 (by unfold spSub near_eF; simp only; omega), meetS_sub hf.2 e2 (by unfold spSub near_nF; simp only; omega)⟩
/-- Each fouling of a fleet is one of another fleet in the same hour. -/
def FoulsToo (X F : FleetD) : Prop := ∀ t ∈ trips X, foulCt X t = true → ∃ t' ∈ trips F, t'.1 = t.1 ∧ foulCt F t' = true
theorem fouls_too {X F : FleetD} (hX : FleetOk X) (h : FleetSub X F) (f : Nat → Nat) (hf : ∀ i j, i < j → f i < f j) (hn : ∀ i (h1 : i < X.nets.length), ∃ h2 : f i < F.nets.length, NetSub X.nets[i] F.nets[f i]) : FoulsToo X F := by
  intro t ht hc
  obtain ⟨m1, m2, m3, m4⟩ := trips_mem ht
  obtain ⟨a, b, e1, e2, e3, e4, oa, ob, g1, g2, hm, hl⟩ := trip_ok hX ht
  obtain ⟨i1, rfl⟩ := List.getElem?_eq_some_iff.1 e1
  obtain ⟨i2, rfl⟩ := List.getElem?_eq_some_iff.1 e2
  obtain ⟨j1, s1⟩ := hn _ i1
  obtain ⟨j2, s2⟩ := hn _ i2
  refine ⟨(t.1, f t.2.1, f t.2.2), trips_in (by rw [← h.elen]; exact m1) (hf _ _ m2) j2 ?_, rfl, ?_⟩
  · unfold lieG lieB
    rw [Bool.and_eq_true]
    simp only
    rw [getD_of j1, getD_of j2]
    rw [← s1.shot, ← s1.haul, ← s2.shot, ← s2.haul]
    exact ⟨inB_of g1, inB_of g2⟩
  · unfold foulCt at hc ⊢
    rw [e3, e4] at hc
    simp only
    rw [getD_of j1, getD_of j2]
    exact fouls_sub h s1 s2 g1.1 g2.1 hc
theorem fouls_first {X F : FleetD} (h : FoulsToo X F) {b : Nat × Nat × Nat} (hb : (trips X).find? (foulCt X) = some b) : ∃ a, (trips F).find? (foulCt F) = some a ∧ a.1 ≤ b.1 := by
  obtain ⟨h1, h2⟩ := find_mem hb
  obtain ⟨t', k1, k2, k3⟩ := h b h1 h2
  obtain ⟨a, q1, _, _, q4⟩ := find_first k1 k3
  exact ⟨a, q1, by omega⟩
/-- The four ways in which a fleet can be less. -/
def lessF (F : FleetD) (w : Int) (h k : Nat) (n : Int) : FleetD :=
  if w = 0 then { F with east := F.east.set h ⟨chosenI (F.east.getD h ⟨0, 0⟩).lo (F.east.getD h ⟨0, 0⟩).hi n, (F.east.getD h ⟨0, 0⟩).hi⟩ }
  else if w = 1 then { F with gap := chosenI 0 F.gap n }
  else if w = 2 then { F with nets := F.nets.set k { F.nets.getD k netZ with sn := ⟨(F.nets.getD k netZ).sn.lo, chosenI (F.nets.getD k netZ).sn.lo (F.nets.getD k netZ).sn.hi n⟩ } }
  else if 1 < F.nets.length then { F with nets := F.nets.take k ++ F.nets.drop (k + 1) }
  else F
theorem less_ok {F : FleetD} (hF : FleetOk F) (w : Int) {h k : Nat} (hh : h < F.east.length) (hk : k < F.nets.length) (n : Int) : FleetOk (lessF F w h k n) ∧ FoulsToo (lessF F w h k n) F := by
  unfold lessF
  split
  · have eg : F.east.getD h ⟨0, 0⟩ = F.east[h] := getD_of hh
    have ho := hF.easto _ (List.getElem_mem hh)
    have hi := hF.east _ (List.getElem_mem hh)
    have hc := chosenI_ok n ho
    rw [eg]
    have ok : FleetOk { F with east := F.east.set h ⟨chosenI F.east[h].lo F.east[h].hi n, F.east[h].hi⟩ } := {
      hours := by simp only [List.length_set]; exact hF.hours
      same := by simp only [List.length_set]; exact hF.same
      east := fun s hs => by
        rcases List.mem_or_eq_of_mem_set hs with hs | rfl
        · exact hF.east s hs
        · unfold spIn at hi ⊢; simp only; omega
      north := hF.north
      easto := fun s hs => by
        rcases List.mem_or_eq_of_mem_set hs with hs | rfl
        · exact hF.easto s hs
        · exact hc.2
      northo := hF.northo
      gap := hF.gap
      count := hF.count
      nets := fun m hm => by simp only [List.length_set]; exact hF.nets m hm }
    refine ⟨ok, fouls_too ok ⟨by simp, rfl, fun i h1 h2 => ?_, fun i _ _ => spSub_refl _, Int.le_refl _⟩ id (fun _ _ h => h) fun i h1 => ⟨h1, NetSub.refl _⟩⟩
    simp only [List.getElem_set]
    split
    · next e => subst e; exact ⟨hc.1, Int.le_refl _⟩
    · exact spSub_refl _
  split
  · have hg := hF.gap
    have hc := chosenI_ok n hg.1
    have ok : FleetOk { F with gap := chosenI 0 F.gap n } := {
      hours := hF.hours, same := hF.same, east := hF.east, north := hF.north, easto := hF.easto, northo := hF.northo, count := hF.count, nets := hF.nets
      gap := ⟨hc.1, by have := hc.2; simp only; omega⟩ }
    exact ⟨ok, fouls_too ok ⟨rfl, rfl, fun i _ _ => spSub_refl _, fun i _ _ => spSub_refl _, hc.2⟩ id (fun _ _ h => h) fun i h1 => ⟨h1, NetSub.refl _⟩⟩
  split
  · have eg : F.nets.getD k netZ = F.nets[k] := getD_of hk
    have on := hF.nets _ (List.getElem_mem hk)
    have hc := chosenI_ok n on.sno
    rw [eg]
    generalize hm : F.nets[k] = m at on hc ⊢
    have os : NetOk { m with sn := ⟨m.sn.lo, chosenI m.sn.lo m.sn.hi n⟩ } F.east.length := {
      east := on.east, north := on.north, long := on.long, along := on.along, shot := on.shot, haul := on.haul, se := on.se, seo := on.seo
      sn := by have := on.sn; unfold spIn at this ⊢; simp only; omega
      sno := hc.1 }
    have ok : FleetOk { F with nets := F.nets.set k { m with sn := ⟨m.sn.lo, chosenI m.sn.lo m.sn.hi n⟩ } } := {
      hours := hF.hours, same := hF.same, east := hF.east, north := hF.north, easto := hF.easto, northo := hF.northo, gap := hF.gap
      count := by simp only [List.length_set]; exact hF.count
      nets := fun x hx => by
        rcases List.mem_or_eq_of_mem_set hx with hx | rfl
        · exact hF.nets x hx
        · exact os }
    refine ⟨ok, fouls_too ok ⟨rfl, rfl, fun i _ _ => spSub_refl _, fun i _ _ => spSub_refl _, Int.le_refl _⟩ id (fun _ _ h => h) fun i h1 => ?_⟩
    have h2 : i < F.nets.length := by simpa using h1
    refine ⟨h2, ?_⟩
    simp only [List.getElem_set, id]
    split
    · next e => subst e; rw [hm]; exact ⟨rfl, rfl, rfl, rfl, rfl, rfl, spSub_refl _, ⟨Int.le_refl _, hc.2⟩⟩
    · exact NetSub.refl _
  split
  · next hl =>
    have len : (F.nets.take k ++ F.nets.drop (k + 1)).length = F.nets.length - 1 := by simp; omega
    have ok : FleetOk { F with nets := F.nets.take k ++ F.nets.drop (k + 1) } := {
      hours := hF.hours, same := hF.same, east := hF.east, north := hF.north, easto := hF.easto, northo := hF.northo, gap := hF.gap
      count := by simp only [len]; have := hF.count; omega
      nets := fun x hx => by
        rcases List.mem_append.1 hx with hx | hx
        · exact hF.nets x (List.mem_of_mem_take hx)
        · exact hF.nets x (List.mem_of_mem_drop hx) }
    refine ⟨ok, fouls_too ok ⟨rfl, rfl, fun i _ _ => spSub_refl _, fun i _ _ => spSub_refl _, Int.le_refl _⟩ (fun i => if i < k then i else i + 1) (fun i j hij => by split <;> split <;> omega) fun i h1 => ?_⟩
    have h1' : i < (F.nets.take k ++ F.nets.drop (k + 1)).length := h1
    have hb : (if i < k then i else i + 1) < F.nets.length := by rw [len] at h1'; split <;> omega
    refine ⟨hb, ?_⟩
    have : (F.nets.take k ++ F.nets.drop (k + 1))[i] = F.nets[if i < k then i else i + 1] := by
      apply Option.some.inj
      rw [← List.getElem?_eq_getElem, ← List.getElem?_eq_getElem]
      split
      · next hlt => rw [List.getElem?_append_left (by simp; omega), List.getElem?_take, if_pos hlt]
      · next hge =>
        rw [List.getElem?_append_right (by simp; omega), List.getElem?_drop]
        congr 1
        simp; omega
    show NetSub ((F.nets.take k ++ F.nets.drop (k + 1))[i]) _
    rw [this]
    exact NetSub.refl _
  · exact ⟨hF, fun t ht hc => ⟨t, ht, rfl, hc⟩⟩
theorem find_same {α : Type} {p q : α → Bool} : ∀ {l : List α}, (∀ x ∈ l, p x = q x) → l.find? p = l.find? q
  | [], _ => rfl
  | x :: l, h => by
    rw [List.find?_cons, List.find?_cons, h x (by simp), find_same fun y hy => h y (by simp [hy])]
/-- All nets moved alike. -/
def moveN (e n : Int) (m : NetD) : NetD := { m with east := m.east + e, north := m.north + n }
def moveF (F : FleetD) (e n : Int) : FleetD := { F with nets := F.nets.map (moveN e n) }
theorem move_get (F : FleetD) (e n : Int) {i : Nat} (hi : i < F.nets.length) : (moveF F e n).nets.getD i netZ = moveN e n (F.nets.getD i netZ) := by
  unfold moveF
  rw [getD_of (by simpa using hi), getD_of hi]
  simp
theorem getD_none {α : Type} {l : List α} {d : α} {i : Nat} (h : l.length ≤ i) : l.getD i d = d := by simp [List.getElem?_eq_none h]
theorem move_trips (F : FleetD) (e n : Int) : trips (moveF F e n) = trips F := by
  unfold trips
  have h1 : (moveF F e n).nets.length = F.nets.length := by simp [moveF]
  have h2 : lieG (moveF F e n) = lieG F := by
    funext h i j
    have key : ∀ i, lieB ((moveF F e n).nets.getD i netZ) h = lieB (F.nets.getD i netZ) h := fun i => by
      rcases Nat.lt_or_ge i F.nets.length with hi | hi
      · rw [move_get F e n hi]; rfl
      · rw [getD_none hi, getD_none (by rw [h1]; exact hi)]
    unfold lieG
    rw [key, key]
  rw [h1, h2]
  rfl
theorem move_fouls (F : FleetD) (e n : Int) (a b : NetD) (h : Int) : foulsC (moveF F e n) (moveN e n a) (moveN e n b) h = foulsC F a b h := by
  unfold foulsC
  have h1 : apart_eF (moveF F e n) (moveN e n a) (moveN e n b) h = apart_eF F a b h := by
    unfold apart_eF alone_eF moveN moveF
    simp only
    rw [show a.east + e - (b.east + e) = a.east - b.east by omega]
  have h2 : apart_nF (moveF F e n) (moveN e n a) (moveN e n b) h = apart_nF F a b h := by
    unfold apart_nF alone_nF moveN moveF
    simp only
    rw [show a.north + n - (b.north + n) = a.north - b.north by omega]
  rw [h1, h2]
  rfl
theorem move_can (F : FleetD) (e n : Int) : (trips (moveF F e n)).find? (foulCt (moveF F e n)) = (trips F).find? (foulCt F) := by
  rw [move_trips]
  refine find_same fun t ht => ?_
  obtain ⟨_, h2, h3, _⟩ := trips_mem ht
  unfold foulCt
  rw [move_get F e n (by omega), move_get F e n h3, move_fouls]
theorem move_where_e (T : TruthD) (e n : Int) (m : NetD) (i : Nat) (h : Int) : where_eF T (moveN e n m) i h = where_eF T m i h + e := by
  unfold where_eF moveN
  simp only
  omega
theorem move_where_n (T : TruthD) (e n : Int) (m : NetD) (i : Nat) (h : Int) : where_nF T (moveN e n m) i h = where_nF T m i h + n := by
  unfold where_nF moveN
  simp only
  omega
theorem move_lie (F : FleetD) (T : TruthD) (e n : Int) : (trips (moveF F e n)).find? (foulLt (moveF F e n) T) = (trips F).find? (foulLt F T) := by
  rw [move_trips]
  refine find_same fun t ht => ?_
  obtain ⟨_, h2, h3, _⟩ := trips_mem ht
  unfold foulLt foulsL only_eF only_nF
  rw [move_get F e n (by omega), move_get F e n h3]
  simp only [move_where_e, move_where_n]
  have q : ∀ x y z : Int, x + z - (y + z) = x - y := fun x y z => by omega
  simp only [q]
  rfl
theorem move_truth (F : FleetD) (T : TruthD) (e n : Int) : truthB (moveF F e n) T = truthB F T := by
  unfold truthB moveF
  simp only [List.map_map]
  rfl
theorem move_ok {F : FleetD} (hF : FleetOk F) {e n : Int} (h : ∀ m ∈ F.nets, (-10000 ≤ m.east + e ∧ m.east + e ≤ 10000) ∧ -10000 ≤ m.north + n ∧ m.north + n ≤ 10000) : FleetOk (moveF F e n) where
  hours := hF.hours
  same := hF.same
  east := hF.east
  north := hF.north
  easto := hF.easto
  northo := hF.northo
  gap := hF.gap
  count := by unfold moveF; simp only [List.length_map]; exact hF.count
  nets := fun x hx => by
    unfold moveF at hx
    obtain ⟨m, hm, rfl⟩ := List.mem_map.1 hx
    have o := hF.nets m hm
    exact ⟨(h m hm).1, (h m hm).2, o.long, o.along, o.shot, o.haul, o.se, o.sn, o.seo, o.sno⟩



theorem within_lo {l : List Spn} (h : ∀ s ∈ l, s.lo ≤ s.hi) : withinB (l.map (·.lo)) l = true := by
  unfold withinB
  rw [allTo_yes (good := withinGood (l.map (·.lo)) l) fun i hi => by
    rw [withinGood_eq hi (by simpa using hi)]
    exact inB_of ⟨by simp, by simpa using h _ (List.getElem_mem hi)⟩]
  simp
theorem apart_ord {l : List Spn} (hl : ∀ s ∈ l, s.lo ≤ s.hi) (a b : Int) {sa sb h : Int} {ea eb : Spn} (ha : 0 ≤ sa) (hb : 0 ≤ sb) (hh : mx sa sb ≤ h) (h1 : ea.lo ≤ ea.hi) (h2 : eb.lo ≤ eb.hi) : (apartG l a b sa sb ea eb h).lo ≤ (apartG l a b sa sb ea eb h).hi := by
  have := side_between (within_lo hl) a b ha hb hh (x := ea.lo) (y := eb.lo) ⟨Int.le_refl _, h1⟩ ⟨Int.le_refl _, h2⟩
  omega
/-- Two nets alone, one of them shot farther to the east: seen from there. -/
def farN (x a : NetD) (m : Int) : NetD := { a with east := a.east - x.east - m }
def homeN (x : NetD) : NetD := { x with east := 0 }
def shiftF (F : FleetD) (x a : NetD) (m : Int) : FleetD := { F with nets := [farN x a m, homeN x] }
theorem shift_fouls {F : FleetD} (hF : FleetOk F) {x a : NetD} (hx : NetOk x F.east.length) (ha : NetOk a F.east.length) {h : Int} (hh : mx x.shot a.shot ≤ h) (m : Int) :
    foulsC (shiftF F x a m) (farN x a m) (homeN x) h = true ↔ (meetS (apart_nF F x a h) (near_nF x a F.gap) = true ∧ (spAdd (near_eF x a F.gap) (spNeg (apart_eF F x a h))).lo ≤ m ∧ m ≤ (spAdd (near_eF x a F.gap) (spNeg (apart_eF F x a h))).hi) := by
  have oe := apart_ord hF.easto x.east a.east hx.shot.1 ha.shot.1 hh hx.seo ha.seo
  rw [← apart_eG F x a h] at oe
  have e1 : apart_eF (shiftF F x a m) (farN x a m) (homeN x) h = ⟨-(apart_eF F x a h).hi - m, -(apart_eF F x a h).lo - m⟩ := by
    have q : apart_eF F a x h = spNeg (apart_eF F x a h) := apart_back F.east x.east a.east x.shot a.shot x.se a.se h
    have r : apart_eF (shiftF F x a m) (farN x a m) (homeN x) h = ⟨(apart_eF F a x h).lo - m, (apart_eF F a x h).hi - m⟩ := by
      unfold apart_eF alone_eF shiftF farN homeN
      simp only [spAdd, spNeg, Spn.mk.injEq]
      constructor <;> omega
    rw [r, q]
    rfl
  have e2 : apart_nF (shiftF F x a m) (farN x a m) (homeN x) h = spNeg (apart_nF F x a h) := apart_back F.north x.north a.north x.shot a.shot x.sn a.sn h
  have n1 : near_eF (farN x a m) (homeN x) (shiftF F x a m).gap = ⟨-F.gap - long_eF a, F.gap + long_eF x⟩ := rfl
  have n2 : near_nF (farN x a m) (homeN x) (shiftF F x a m).gap = ⟨-F.gap - long_nF a, F.gap + long_nF x⟩ := rfl
  have g1 := hF.gap
  have g2 := long_e_ok hx.long
  have g3 := long_e_ok ha.long
  unfold foulsC
  rw [Bool.and_eq_true, e1, e2, n1, n2]
  generalize apart_eF F x a h = A at *
  generalize apart_nF F x a h = B at *
  unfold near_eF near_nF
  rw [meetS_iff, meetS_iff, meetS_iff]
  simp only [spAdd, spNeg]
  omega
theorem far_ok {F : FleetD} {x a : NetD} (ha : NetOk a F.east.length) {m : Int} (h : -10000 ≤ a.east - x.east - m ∧ a.east - x.east - m ≤ 10000) : NetOk (farN x a m) F.east.length :=
  ⟨h, ha.north, ha.long, ha.along, ha.shot, ha.haul, ha.se, ha.sn, ha.seo, ha.sno⟩
theorem home_ok {F : FleetD} {x : NetD} (hx : NetOk x F.east.length) : NetOk (homeN x) F.east.length :=
  ⟨by unfold homeN; simp only; omega, hx.north, hx.long, hx.along, hx.shot, hx.haul, hx.se, hx.sn, hx.seo, hx.sno⟩
theorem shift_ok {F : FleetD} (hF : FleetOk F) {x a : NetD} (hx : NetOk x F.east.length) (ha : NetOk a F.east.length) {m : Int} (h : -10000 ≤ a.east - x.east - m ∧ a.east - x.east - m ≤ 10000) : FleetOk (shiftF F x a m) where
  hours := hF.hours
  same := hF.same
  east := hF.east
  north := hF.north
  easto := hF.easto
  northo := hF.northo
  gap := hF.gap
  count := by unfold shiftF; simp
  nets := fun y hy => by
    unfold shiftF at hy
    simp at hy
    rcases hy with rfl | rfl
    · exact far_ok ha h
    · exact home_ok hx
/-- A shift bars the net with another one. -/
def barsAt (F : FleetD) (x a : NetD) (m : Int) (h : Nat) : Prop := h ≤ F.east.length ∧ lieB x h = true ∧ lieB a h = true ∧ meetS (apart_nF F x a h) (near_nF x a F.gap) = true ∧ (spAdd (near_eF x a F.gap) (spNeg (apart_eF F x a h))).lo ≤ m ∧ m ≤ (spAdd (near_eF x a F.gap) (spNeg (apart_eF F x a h))).hi
theorem shift_can {F : FleetD} (hF : FleetOk F) {x a : NetD} (hx : NetOk x F.east.length) (ha : NetOk a F.east.length) {m : Int} (h : -10000 ≤ a.east - x.east - m ∧ a.east - x.east - m ≤ 10000) : canE (shiftF F x a m) = 0 ↔ ∃ hr, barsAt F x a m hr := by
  have ok := shift_ok hF hx ha h
  unfold canE
  rw [fleetB_of ok, if_pos rfl]
  constructor
  · intro hc
    cases hf : (trips (shiftF F x a m)).find? (foulCt (shiftF F x a m)) with
    | none => rw [hf] at hc; cases hc
    | some t =>
      obtain ⟨h1, h2⟩ := find_mem hf
      obtain ⟨q1, q2, q3, q4⟩ := trips_mem h1
      obtain ⟨hr, i, j⟩ := t
      have q3' : j < 2 := q3
      simp only at q1 q2 q4
      obtain rfl : i = 0 := by omega
      obtain rfl : j = 1 := by omega
      unfold lieG at q4
      rw [Bool.and_eq_true] at q4
      have l1 : lieB a hr = true := q4.1
      have l2 : lieB x hr = true := q4.2
      have b1 := inB_spec l1
      have b2 := inB_spec l2
      exact ⟨hr, q1, l2, l1, (shift_fouls hF hx ha (mx_le b2.1 b1.1) m).1 h2⟩
  · rintro ⟨hr, k1, k2, k3, k4⟩
    have b1 := inB_spec k3
    have b2 := inB_spec k2
    have hf := (shift_fouls hF hx ha (mx_le b2.1 b1.1) m).2 k4
    obtain ⟨z, e, _⟩ := find_first (F := shiftF F x a m) (p := foulCt (shiftF F x a m)) (b := (hr, 0, 1)) (trips_in k1 (by simp) (by simp [shiftF]) (by unfold lieG; rw [Bool.and_eq_true]; exact ⟨k3, k2⟩)) hf
    rw [e]; rfl
theorem bar_iff {F : FleetD} {i : Nat} (hi : i < F.nets.length) (m : Int) : (∃ s ∈ barAll F i, s.lo ≤ m ∧ m ≤ s.hi) ↔ ∃ k, k < F.nets.length ∧ k ≠ i ∧ ∃ hr, barsAt F (F.nets.getD i netZ) (F.nets.getD k netZ) m hr := by
  unfold barAll
  constructor
  · rintro ⟨s, hs, hm⟩
    rw [List.mem_filterMap] at hs
    obtain ⟨t, ht, hp⟩ := hs
    obtain ⟨h1, h2, h3, h4⟩ := trips_mem ht
    obtain ⟨hr, a, b⟩ := t
    simp only at h1 h2 h3 h4
    unfold lieG at h4
    rw [Bool.and_eq_true] at h4
    unfold barPick at hp
    split at hp
    · next hb =>
      cases hp
      unfold withFirst at hb hm
      by_cases e : (b : Int) = i
      · rw [if_pos e] at hb hm
        obtain rfl : b = i := by omega
        unfold barB at hb
        rw [Bool.and_eq_true] at hb
        exact ⟨a, by omega, by omega, hr, h1, h4.2, h4.1, hb.2, hm⟩
      · rw [if_neg e] at hb hm
        unfold barB at hb
        rw [Bool.and_eq_true] at hb
        have e2 : (a : Int) = i := eq_of_beq hb.1
        obtain rfl : a = i := by omega
        exact ⟨b, h3, by omega, hr, h1, h4.1, h4.2, hb.2, hm⟩
    · cases hp
  · rintro ⟨k, hk, hne, hr, h1, h2, h3, h4, h5⟩
    rcases Nat.lt_or_ge i k with hlt | hge
    · refine ⟨_, List.mem_filterMap.2 ⟨(hr, i, k), trips_in h1 hlt hk (by unfold lieG; rw [Bool.and_eq_true]; exact ⟨h2, h3⟩), ?_⟩, h5⟩
      unfold barPick withFirst
      rw [if_neg (show ¬ (((hr, i, k) : Nat × Nat × Nat).2.2 : Int) = i by simp only; omega)]
      unfold barB
      rw [if_pos (by rw [Bool.and_eq_true]; exact ⟨beq_self_eq_true _, h4⟩)]
      rfl
    · refine ⟨_, List.mem_filterMap.2 ⟨(hr, k, i), trips_in h1 (by simp only; omega) hi (by unfold lieG; rw [Bool.and_eq_true]; exact ⟨h3, h2⟩), ?_⟩, h5⟩
      unfold barPick withFirst
      rw [if_pos (show (((hr, k, i) : Nat × Nat × Nat).2.2 : Int) = i from rfl)]
      unfold barB
      rw [if_pos (by rw [Bool.and_eq_true]; exact ⟨beq_self_eq_true _, h4⟩)]
      rfl
/-- What the law's fouls finds among the first k nets. -/
def foulsTo (F : FleetD) (net : Nat) (m : Int) : Nat → Option (Bool × Bool)
  | 0 => none
  | k + 1 => match foulsTo F net m k with
    | some r => some r
    | none => if k = net then none else if inB ((F.nets.getD k netZ).east - (F.nets.getD net netZ).east - m) (-10000) 10000 then (if canE (shiftF F (F.nets.getD net netZ) (F.nets.getD k netZ) m) = 0 then some (true, true) else none) else some (false, false)
def foulsR (F : FleetD) (net : Nat) (m : Int) : Bool × Bool := (foulsTo F net m F.nets.length).getD (false, true)
theorem foulsTo_none {F : FleetD} {net : Nat} {m : Int} : ∀ {n : Nat}, foulsTo F net m n = none → ∀ k, k < n → k ≠ net → inB ((F.nets.getD k netZ).east - (F.nets.getD net netZ).east - m) (-10000) 10000 = true ∧ canE (shiftF F (F.nets.getD net netZ) (F.nets.getD k netZ) m) ≠ 0
  | 0, _, k, hk, _ => absurd hk (by omega)
  | n + 1, h, k, hk, hne => by
    unfold foulsTo at h
    split at h
    · cases h
    · next h0 =>
      rcases Nat.lt_or_ge k n with hlt | hge
      · exact foulsTo_none h0 k hlt hne
      · obtain rfl : k = n := by omega
        rw [if_neg hne] at h
        split at h
        · next hb =>
          split at h
          · cases h
          · next hc => exact ⟨hb, hc⟩
        · cases h
theorem foulsTo_some {F : FleetD} {net : Nat} {m : Int} : ∀ {n : Nat} {r : Bool × Bool}, foulsTo F net m n = some r → (r = (false, false)) ∨ (r = (true, true) ∧ ∃ k, k < n ∧ k ≠ net ∧ inB ((F.nets.getD k netZ).east - (F.nets.getD net netZ).east - m) (-10000) 10000 = true ∧ canE (shiftF F (F.nets.getD net netZ) (F.nets.getD k netZ) m) = 0)
  | 0, _, h => by cases h
  | n + 1, r, h => by
    unfold foulsTo at h
    split at h
    · next r' h0 =>
      cases h
      rcases foulsTo_some h0 with e | ⟨e, k, q1, q2⟩
      · exact .inl e
      · exact .inr ⟨e, k, by omega, q2⟩
    · split at h
      · cases h
      · next hne =>
        split at h
        · next hb =>
          split at h
          · next hc => cases h; exact .inr ⟨rfl, n, by omega, hne, hb, hc⟩
          · cases h
        · cases h; exact .inl rfl
theorem shift_free {F : FleetD} (hF : FleetOk F) {i : Nat} (hi : i < F.nets.length) {m : Int} (h : ∀ s ∈ barAll F i, ¬ (s.lo ≤ m ∧ m ≤ s.hi)) : foulsR F i m = (false, false) ∨ foulsR F i m = (false, true) := by
  unfold foulsR
  cases hf : foulsTo F i m F.nets.length with
  | none => exact .inr rfl
  | some r =>
    rcases foulsTo_some hf with e | ⟨e, k, q1, q2, q3, q4⟩
    · rw [e]; exact .inl rfl
    · exfalso
      have oi := hF.nets _ (List.getElem_mem hi)
      have ok := hF.nets _ (List.getElem_mem q1)
      rw [← getD_of (d := netZ) hi] at oi
      rw [← getD_of (d := netZ) q1] at ok
      have := (shift_can hF oi ok (inB_spec q3)).1 q4
      obtain ⟨s, hs, hm⟩ := (bar_iff hi m).2 ⟨k, q1, q2, this⟩
      exact h s hs hm
theorem shift_bars {F : FleetD} (hF : FleetOk F) {i : Nat} (hi : i < F.nets.length) {m : Int} (h : ∃ s ∈ barAll F i, s.lo ≤ m ∧ m ≤ s.hi) : foulsR F i m = (false, false) ∨ foulsR F i m = (true, true) := by
  unfold foulsR
  cases hf : foulsTo F i m F.nets.length with
  | some r =>
    rcases foulsTo_some hf with e | ⟨e, _⟩
    · rw [e]; exact .inl rfl
    · rw [e]; exact .inr rfl
  | none =>
    exfalso
    obtain ⟨k, q1, q2, q3⟩ := (bar_iff hi m).1 h
    obtain ⟨r1, r2⟩ := foulsTo_none hf k q1 q2
    have oi := hF.nets _ (List.getElem_mem hi)
    have ok := hF.nets _ (List.getElem_mem q1)
    rw [← getD_of (d := netZ) hi] at oi
    rw [← getD_of (d := netZ) q1] at ok
    exact r2 ((shift_can hF oi ok (inB_spec r1)).2 q3)

end Go.Proofs.Ytmjelgonhpgmbaa
