/- The reference: how far two nets are apart on one side. -/
import Derived.Test.YtmjelgonhpgmbaaGreatSH
import Derived.Test.YtmjelgonhpgmbaaGreatMS
set_option linter.unusedSimpArgs false
set_option linter.unusedVariables false
namespace Go.Proofs.YtmjelgonhpgmbaaGreat
open Go Go.RowKit Go.Shelf

def nAt (sa sb : Int) (j : Nat) : Int := (if sa ≤ j then 1 else 0) - (if sb ≤ j then 1 else 0)
def rTo (l : List Spn) (sa sb : Int) : Nat → Spn
  | 0 => ⟨0, 0⟩
  | j + 1 => spAdd (rTo l sa sb j) (tmSp (nAt sa sb j) (l.getD j ⟨0, 0⟩))
theorem nAt_in (sa sb : Int) (j : Nat) : -1 ≤ nAt sa sb j ∧ nAt sa sb j ≤ 1 := by
  unfold nAt; split <;> split <;> omega
theorem tm1_in {n M : Int} {s : Spn} (hM : 0 ≤ M) (hn : -1 ≤ n ∧ n ≤ 1) (hs : spIn M s) : spIn M (tmSp n s) := by
  unfold spIn tmSp at *
  have : n = -1 ∨ n = 0 ∨ n = 1 := by omega
  rcases this with rfl | rfl | rfl <;> simp <;> omega
theorem getD_in {l : List Spn} {M : Int} (hM : 0 ≤ M) (h : ∀ s ∈ l, spIn M s) (j : Nat) : spIn M (l.getD j ⟨0, 0⟩) := by
  by_cases hj : j < l.length
  · rw [getD_of hj]; exact h _ (List.getElem_mem hj)
  · rw [show l.getD j ⟨0, 0⟩ = (⟨0, 0⟩ : Spn) by simp [List.getElem?_eq_none (Nat.le_of_not_lt hj)]]; unfold spIn; simp; omega
theorem rTo_in {l : List Spn} (h : ∀ s ∈ l, spIn 200 s) (sa sb : Int) : ∀ j : Nat, spIn (200 * j) (rTo l sa sb j)
  | 0 => by unfold spIn rTo; simp
  | j + 1 => by
    have := spAdd_in (rTo_in h sa sb j) (tm1_in (by omega) (nAt_in sa sb j) (getD_in (by omega) h j))
    unfold rTo
    rw [Int.natCast_add, Int.mul_add]
    simpa using this
def segSp (l : List Spn) (s e : Nat) : Spn := sumSp ((l.drop s).take (e - s))
theorem seg_empty (l : List Spn) {s e : Nat} (h : e ≤ s) : segSp l s e = ⟨0, 0⟩ := by
  unfold segSp
  rw [Nat.sub_eq_zero_of_le h]; simp [sumSp, sumLo, sumHi]
theorem seg_succ (l : List Spn) {s e : Nat} (h : s ≤ e) (he : e < l.length) : segSp l s (e + 1) = spAdd (segSp l s e) (l.getD e ⟨0, 0⟩) := by
  unfold segSp
  rw [show e + 1 - s = (e - s) + 1 by omega]
  have hl : e - s < (l.drop s).length := by simp; omega
  have e3 : s + (e - s) = e := by omega
  unfold sumSp spAdd
  rw [sumLo_snoc _ _ hl, sumHi_snoc _ _ hl, getD_of he]
  simp [e3]
theorem rTo_seg {l : List Spn} (sa sb : Nat) : ∀ j : Nat, j ≤ l.length → rTo l sa sb j = spAdd (segSp l sa (min j (max sa sb))) (spNeg (segSp l sb (min j (max sa sb))))
  | 0, _ => by
    rw [seg_empty l (by omega), seg_empty l (by omega)]; rfl
  | j + 1, hj => by
    have ih := rTo_seg (l := l) sa sb j (by omega)
    unfold rTo
    rw [ih]
    by_cases h1 : sa ≤ j <;> by_cases h2 : sb ≤ j
    · have e1 : min (j + 1) (max sa sb) = max sa sb := by omega
      have e2 : min j (max sa sb) = max sa sb := by omega
      have hn : nAt sa sb j = 0 := by unfold nAt; rw [if_pos (by omega), if_pos (by omega)]; rfl
      rw [e1, e2, hn]; simp [tmSp, spAdd]
    · have e1 : min (j + 1) (max sa sb) = j + 1 := by omega
      have e2 : min j (max sa sb) = j := by omega
      have hn : nAt sa sb j = 1 := by unfold nAt; rw [if_pos (by omega), if_neg (by omega)]; rfl
      rw [e1, e2, hn, seg_succ l h1 (by omega), seg_empty l (s := sb) (e := j) (by omega), seg_empty l (s := sb) (e := j + 1) (by omega)]
      simp [tmSp, spAdd, spNeg]
    · have e1 : min (j + 1) (max sa sb) = j + 1 := by omega
      have e2 : min j (max sa sb) = j := by omega
      have hn : nAt sa sb j = -1 := by unfold nAt; rw [if_neg (by omega), if_pos (by omega)]; rfl
      rw [e1, e2, hn, seg_succ l h2 (by omega), seg_empty l (s := sa) (e := j) (by omega), seg_empty l (s := sa) (e := j + 1) (by omega)]
      simp [tmSp, spAdd, spNeg]
      omega
    · have e1 : min (j + 1) (max sa sb) = j + 1 := by omega
      have e2 : min j (max sa sb) = j := by omega
      have hn : nAt sa sb j = 0 := by unfold nAt; rw [if_neg (by omega), if_neg (by omega)]; rfl
      rw [e1, e2, hn, seg_empty l (s := sa) (e := j) (by omega), seg_empty l (s := sa) (e := j + 1) (by omega), seg_empty l (s := sb) (e := j) (by omega), seg_empty l (s := sb) (e := j + 1) (by omega)]
      simp [tmSp, spAdd, spNeg]
/-- What the reference reckons. -/
def apR (l : List Spn) (sa sb fr : Int) (ea eb : Spn) (h : Nat) : Spn := spAdd (spAdd ⟨fr, fr⟩ (rTo l sa sb h)) (spAdd (tmSp (h - sa) ea) (tmSp (sb - h) eb))
theorem apR_eq {l : List Spn} {a b : Int} {sa sb : Int} {ea eb : Spn} {h : Nat} (h0 : 0 ≤ sa) (h1 : 0 ≤ sb) (h2 : sa ≤ h) (h3 : sb ≤ h) (h4 : h ≤ l.length) : apR l sa sb (a - b) ea eb h = apartG l a b sa sb ea eb h := by
  obtain ⟨p, rfl⟩ : ∃ p : Nat, sa = p := ⟨sa.toNat, by omega⟩
  obtain ⟨q, rfl⟩ : ∃ q : Nat, sb = q := ⟨sb.toNat, by omega⟩
  have e0 : min h (max p q) = max p q := by omega
  have em : (mx (p : Int) q).toNat = max p q := by unfold mx; split <;> omega
  have em2 : (mx (q : Int) p).toNat = max p q := by unfold mx; split <;> omega
  unfold apR apartG
  rw [rTo_seg p q h h4, e0, em, em2, Int.toNat_natCast, Int.toNat_natCast]
  unfold segSp
  generalize sumSp ((l.drop p).take (max p q - p)) = A
  generalize sumSp ((l.drop q).take (max p q - q)) = B
  have t1 : tmSp ((h : Int) - p) ea = spMul (h - p) ea := by unfold tmSp spMul; rw [if_neg (by omega), Int.mul_comm ea.lo, Int.mul_comm ea.hi]
  have t2 : tmSp ((q : Int) - h) eb = spNeg (spMul (h - q) eb) := by
    unfold tmSp spMul spNeg
    have e1 : ∀ x : Int, x * ((q : Int) - h) = -(((h : Int) - q) * x) := fun x => by rw [Int.mul_comm, ← Int.neg_mul]; congr 1; omega
    split
    · rw [e1, e1]
    · have : (q : Int) - h = 0 := by omega
      have : (h : Int) - q = 0 := by omega
      simp [*]
  rw [t1, t2]
  simp only [spAdd, spNeg, Spn.mk.injEq]
  omega

set_option maxRecDepth 100000 in
set_option maxHeartbeats 8000000 in
theorem apart_z (l : List Spn) (hl : ∀ s ∈ l, spIn 200 s) (hll : l.length ≤ 24) (x y : NetD) (fr : Int) (hfr : -100000 ≤ fr ∧ fr ≤ 100000) (ea eb : Spn) (hea : spIn 50 ea) (heb : spIn 50 eb) (h : Nat) (hh : h ≤ l.length) (hx : 0 ≤ x.shot ∧ x.shot ≤ h) (hy : 0 ≤ y.shot ∧ y.shot ≤ h) (v : Value) (w : World) (hv : SpansAt w v l) :
    Cal 79 #[v, .agg #[.int .i64 x.east, .int .i64 x.north, .int .i64 x.long, .int .i64 x.along, .int .i64 x.shot, .int .i64 x.haul, .int .i64 x.se.lo, .int .i64 x.se.hi, .int .i64 x.sn.lo, .int .i64 x.sn.hi], .agg #[.int .i64 y.east, .int .i64 y.north, .int .i64 y.long, .int .i64 y.along, .int .i64 y.shot, .int .i64 y.haul, .int .i64 y.se.lo, .int .i64 y.se.hi, .int .i64 y.sn.lo, .int .i64 y.sn.hi], .int .i64 fr, .agg #[.int .i64 ea.lo, .int .i64 ea.hi], .agg #[.int .i64 eb.lo, .int .i64 eb.hi], .int .i64 (h : Int)] w fun e w' => e = .returned (.agg #[.int .i64 (apR l x.shot y.shot fr ea eb h).lo, .int .i64 (apR l x.shot y.shot fr ea eb h).hi]) ∧ Ext w w' := by
  obtain ⟨va, vc, rfl, hvl, hvc⟩ := hv
  have HV := hid hvc
  clear hvc
  gi_enter Tryz.func79, Tryz.ntmps79
  gi_upto_region 1 with fail
  have hW : Ext w (((((w.alloc (.cells #[.int .i64 x.east, .int .i64 x.north, .int .i64 x.long, .int .i64 x.along, .int .i64 x.shot, .int .i64 x.haul, .int .i64 x.se.lo, .int .i64 x.se.hi, .int .i64 x.sn.lo, .int .i64 x.sn.hi] 63)).alloc (.cells #[.int .i64 y.east, .int .i64 y.north, .int .i64 y.long, .int .i64 y.along, .int .i64 y.shot, .int .i64 y.haul, .int .i64 y.se.lo, .int .i64 y.se.hi, .int .i64 y.sn.lo, .int .i64 y.sn.hi] 63)).alloc (.cells #[.int .i64 ea.lo, .int .i64 ea.hi] 44)).alloc (.cells #[.int .i64 eb.lo, .int .i64 eb.hi] 44)).alloc (.cells #[.int .i64 0, .int .i64 0] 44)) := (((((Ext.refl _).alloc _).alloc _).alloc _).alloc _).alloc _
  have hB0 : (((((w.alloc (.cells #[.int .i64 x.east, .int .i64 x.north, .int .i64 x.long, .int .i64 x.along, .int .i64 x.shot, .int .i64 x.haul, .int .i64 x.se.lo, .int .i64 x.se.hi, .int .i64 x.sn.lo, .int .i64 x.sn.hi] 63)).alloc (.cells #[.int .i64 y.east, .int .i64 y.north, .int .i64 y.long, .int .i64 y.along, .int .i64 y.shot, .int .i64 y.haul, .int .i64 y.se.lo, .int .i64 y.se.hi, .int .i64 y.sn.lo, .int .i64 y.sn.hi] 63)).alloc (.cells #[.int .i64 ea.lo, .int .i64 ea.hi] 44)).alloc (.cells #[.int .i64 eb.lo, .int .i64 eb.hi] 44)).alloc (.cells #[.int .i64 0, .int .i64 0] 44)).heap[w.heap.size]? = some (.cells #[.int .i64 x.east, .int .i64 x.north, .int .i64 x.long, .int .i64 x.along, .int .i64 x.shot, .int .i64 x.haul, .int .i64 x.se.lo, .int .i64 x.se.hi, .int .i64 x.sn.lo, .int .i64 x.sn.hi] 63 (0, 0)) := by
    have h := Ext.new (w := w) (o := .cells #[.int .i64 x.east, .int .i64 x.north, .int .i64 x.long, .int .i64 x.along, .int .i64 x.shot, .int .i64 x.haul, .int .i64 x.se.lo, .int .i64 x.se.hi, .int .i64 x.sn.lo, .int .i64 x.sn.hi] 63) (Ext.refl _)
    try simp only [World.size_alloc] at h
    exact (((((Ext.refl _).alloc _).alloc _).alloc _).alloc _).block h
  have hB1 : (((((w.alloc (.cells #[.int .i64 x.east, .int .i64 x.north, .int .i64 x.long, .int .i64 x.along, .int .i64 x.shot, .int .i64 x.haul, .int .i64 x.se.lo, .int .i64 x.se.hi, .int .i64 x.sn.lo, .int .i64 x.sn.hi] 63)).alloc (.cells #[.int .i64 y.east, .int .i64 y.north, .int .i64 y.long, .int .i64 y.along, .int .i64 y.shot, .int .i64 y.haul, .int .i64 y.se.lo, .int .i64 y.se.hi, .int .i64 y.sn.lo, .int .i64 y.sn.hi] 63)).alloc (.cells #[.int .i64 ea.lo, .int .i64 ea.hi] 44)).alloc (.cells #[.int .i64 eb.lo, .int .i64 eb.hi] 44)).alloc (.cells #[.int .i64 0, .int .i64 0] 44)).heap[w.heap.size + 1]? = some (.cells #[.int .i64 y.east, .int .i64 y.north, .int .i64 y.long, .int .i64 y.along, .int .i64 y.shot, .int .i64 y.haul, .int .i64 y.se.lo, .int .i64 y.se.hi, .int .i64 y.sn.lo, .int .i64 y.sn.hi] 63 (0, 0)) := by
    have h := Ext.new (w := (w.alloc (.cells #[.int .i64 x.east, .int .i64 x.north, .int .i64 x.long, .int .i64 x.along, .int .i64 x.shot, .int .i64 x.haul, .int .i64 x.se.lo, .int .i64 x.se.hi, .int .i64 x.sn.lo, .int .i64 x.sn.hi] 63))) (o := .cells #[.int .i64 y.east, .int .i64 y.north, .int .i64 y.long, .int .i64 y.along, .int .i64 y.shot, .int .i64 y.haul, .int .i64 y.se.lo, .int .i64 y.se.hi, .int .i64 y.sn.lo, .int .i64 y.sn.hi] 63) (Ext.refl _)
    try simp only [World.size_alloc] at h
    exact ((((Ext.refl _).alloc _).alloc _).alloc _).block h
  have hB2 : (((((w.alloc (.cells #[.int .i64 x.east, .int .i64 x.north, .int .i64 x.long, .int .i64 x.along, .int .i64 x.shot, .int .i64 x.haul, .int .i64 x.se.lo, .int .i64 x.se.hi, .int .i64 x.sn.lo, .int .i64 x.sn.hi] 63)).alloc (.cells #[.int .i64 y.east, .int .i64 y.north, .int .i64 y.long, .int .i64 y.along, .int .i64 y.shot, .int .i64 y.haul, .int .i64 y.se.lo, .int .i64 y.se.hi, .int .i64 y.sn.lo, .int .i64 y.sn.hi] 63)).alloc (.cells #[.int .i64 ea.lo, .int .i64 ea.hi] 44)).alloc (.cells #[.int .i64 eb.lo, .int .i64 eb.hi] 44)).alloc (.cells #[.int .i64 0, .int .i64 0] 44)).heap[w.heap.size + 1 + 1]? = some (.cells #[.int .i64 ea.lo, .int .i64 ea.hi] 44 (0, 0)) := by
    have h := Ext.new (w := ((w.alloc (.cells #[.int .i64 x.east, .int .i64 x.north, .int .i64 x.long, .int .i64 x.along, .int .i64 x.shot, .int .i64 x.haul, .int .i64 x.se.lo, .int .i64 x.se.hi, .int .i64 x.sn.lo, .int .i64 x.sn.hi] 63)).alloc (.cells #[.int .i64 y.east, .int .i64 y.north, .int .i64 y.long, .int .i64 y.along, .int .i64 y.shot, .int .i64 y.haul, .int .i64 y.se.lo, .int .i64 y.se.hi, .int .i64 y.sn.lo, .int .i64 y.sn.hi] 63))) (o := .cells #[.int .i64 ea.lo, .int .i64 ea.hi] 44) (Ext.refl _)
    try simp only [World.size_alloc] at h
    exact (((Ext.refl _).alloc _).alloc _).block h
  have hB3 : (((((w.alloc (.cells #[.int .i64 x.east, .int .i64 x.north, .int .i64 x.long, .int .i64 x.along, .int .i64 x.shot, .int .i64 x.haul, .int .i64 x.se.lo, .int .i64 x.se.hi, .int .i64 x.sn.lo, .int .i64 x.sn.hi] 63)).alloc (.cells #[.int .i64 y.east, .int .i64 y.north, .int .i64 y.long, .int .i64 y.along, .int .i64 y.shot, .int .i64 y.haul, .int .i64 y.se.lo, .int .i64 y.se.hi, .int .i64 y.sn.lo, .int .i64 y.sn.hi] 63)).alloc (.cells #[.int .i64 ea.lo, .int .i64 ea.hi] 44)).alloc (.cells #[.int .i64 eb.lo, .int .i64 eb.hi] 44)).alloc (.cells #[.int .i64 0, .int .i64 0] 44)).heap[w.heap.size + 1 + 1 + 1]? = some (.cells #[.int .i64 eb.lo, .int .i64 eb.hi] 44 (0, 0)) := by
    have h := Ext.new (w := (((w.alloc (.cells #[.int .i64 x.east, .int .i64 x.north, .int .i64 x.long, .int .i64 x.along, .int .i64 x.shot, .int .i64 x.haul, .int .i64 x.se.lo, .int .i64 x.se.hi, .int .i64 x.sn.lo, .int .i64 x.sn.hi] 63)).alloc (.cells #[.int .i64 y.east, .int .i64 y.north, .int .i64 y.long, .int .i64 y.along, .int .i64 y.shot, .int .i64 y.haul, .int .i64 y.se.lo, .int .i64 y.se.hi, .int .i64 y.sn.lo, .int .i64 y.sn.hi] 63)).alloc (.cells #[.int .i64 ea.lo, .int .i64 ea.hi] 44))) (o := .cells #[.int .i64 eb.lo, .int .i64 eb.hi] 44) (Ext.refl _)
    try simp only [World.size_alloc] at h
    exact ((Ext.refl _).alloc _).block h
  have hB4 : (((((w.alloc (.cells #[.int .i64 x.east, .int .i64 x.north, .int .i64 x.long, .int .i64 x.along, .int .i64 x.shot, .int .i64 x.haul, .int .i64 x.se.lo, .int .i64 x.se.hi, .int .i64 x.sn.lo, .int .i64 x.sn.hi] 63)).alloc (.cells #[.int .i64 y.east, .int .i64 y.north, .int .i64 y.long, .int .i64 y.along, .int .i64 y.shot, .int .i64 y.haul, .int .i64 y.se.lo, .int .i64 y.se.hi, .int .i64 y.sn.lo, .int .i64 y.sn.hi] 63)).alloc (.cells #[.int .i64 ea.lo, .int .i64 ea.hi] 44)).alloc (.cells #[.int .i64 eb.lo, .int .i64 eb.hi] 44)).alloc (.cells #[.int .i64 0, .int .i64 0] 44)).heap[w.heap.size + 1 + 1 + 1 + 1]? = some (.cells #[.int .i64 0, .int .i64 0] 44 (0, 0)) := by
    have h := Ext.new (w := ((((w.alloc (.cells #[.int .i64 x.east, .int .i64 x.north, .int .i64 x.long, .int .i64 x.along, .int .i64 x.shot, .int .i64 x.haul, .int .i64 x.se.lo, .int .i64 x.se.hi, .int .i64 x.sn.lo, .int .i64 x.sn.hi] 63)).alloc (.cells #[.int .i64 y.east, .int .i64 y.north, .int .i64 y.long, .int .i64 y.along, .int .i64 y.shot, .int .i64 y.haul, .int .i64 y.se.lo, .int .i64 y.se.hi, .int .i64 y.sn.lo, .int .i64 y.sn.hi] 63)).alloc (.cells #[.int .i64 ea.lo, .int .i64 ea.hi] 44)).alloc (.cells #[.int .i64 eb.lo, .int .i64 eb.hi] 44))) (o := .cells #[.int .i64 0, .int .i64 0] 44) (Ext.refl _)
    try simp only [World.size_alloc] at h
    exact (Ext.refl _).block h
  have hZ : (((((w.alloc (.cells #[.int .i64 x.east, .int .i64 x.north, .int .i64 x.long, .int .i64 x.along, .int .i64 x.shot, .int .i64 x.haul, .int .i64 x.se.lo, .int .i64 x.se.hi, .int .i64 x.sn.lo, .int .i64 x.sn.hi] 63)).alloc (.cells #[.int .i64 y.east, .int .i64 y.north, .int .i64 y.long, .int .i64 y.along, .int .i64 y.shot, .int .i64 y.haul, .int .i64 y.se.lo, .int .i64 y.se.hi, .int .i64 y.sn.lo, .int .i64 y.sn.hi] 63)).alloc (.cells #[.int .i64 ea.lo, .int .i64 ea.hi] 44)).alloc (.cells #[.int .i64 eb.lo, .int .i64 eb.hi] 44)).alloc (.cells #[.int .i64 0, .int .i64 0] 44)).heap.size = w.heap.size + 5 := by simp only [World.size_alloc]
  generalize (((((w.alloc (.cells #[.int .i64 x.east, .int .i64 x.north, .int .i64 x.long, .int .i64 x.along, .int .i64 x.shot, .int .i64 x.haul, .int .i64 x.se.lo, .int .i64 x.se.hi, .int .i64 x.sn.lo, .int .i64 x.sn.hi] 63)).alloc (.cells #[.int .i64 y.east, .int .i64 y.north, .int .i64 y.long, .int .i64 y.along, .int .i64 y.shot, .int .i64 y.haul, .int .i64 y.se.lo, .int .i64 y.se.hi, .int .i64 y.sn.lo, .int .i64 y.sn.hi] 63)).alloc (.cells #[.int .i64 ea.lo, .int .i64 ea.hi] 44)).alloc (.cells #[.int .i64 eb.lo, .int .i64 eb.hi] 44)).alloc (.cells #[.int .i64 0, .int .i64 0] 44)) = W at *
  have HX := hid hW
  have HZ := hid hZ
  have HB0 := hid hB0
  have HB1 := hid hB1
  have HB2 := hid hB2
  have HB3 := hid hB3
  have HB4 := hid hB4
  have c0 := cell_of hB0
  have c1 := cell_of hB1
  have c2 := cell_of hB2
  have c3 := cell_of hB3
  have c4 := cell_of hB4
  clear hW hZ hB0 hB1 hB2 hB3 hB4
  gi_upto_region 2 with (refine wpIn_store_fresh (fun _ => trivial) 44 (.tmp 15) (.tmp 20) rfl (W := W) (c' := #[.int .i64 fr, .int .i64 fr]) rfl rfl rfl size44 rfl (by kernel_rfl) ?_)
  have hx2 : Ext W (W.alloc (.cells #[.int .i64 fr, .int .i64 fr] 44)) := (Ext.refl _).alloc _
  have e0 : (W.alloc (.cells #[.int .i64 fr, .int .i64 fr] 44)).heap[W.heap.size]? = some (.cells #[.int .i64 fr, .int .i64 fr] 44 (0, 0)) := Ext.new (Ext.refl _)
  clear c0 c1 c2 c3 c4
  generalize W.alloc (.cells #[.int .i64 fr, .int .i64 fr] 44) = W2 at *
  have HK := hid (And.intro (HX.out.trans hx2) (And.intro e0 (And.intro (hx2.block HB0.out) (And.intro (hx2.block HB1.out) (And.intro (hx2.block HB2.out) (And.intro (hx2.block HB3.out) (hx2.block HB4.out)))))))
  clear hx2 e0
  gi_wp2_with fail
  gi_loopw [16] (fun j wr => ∃ k : Nat, k ≤ h ∧ j = .int .i64 k ∧ Hid (Ext w wr ∧ wr.heap[W.heap.size]? = some (.cells #[.int .i64 (spAdd ⟨fr, fr⟩ (rTo l x.shot y.shot k)).lo, .int .i64 (spAdd ⟨fr, fr⟩ (rTo l x.shot y.shot k)).hi] 44 (0, 0)) ∧ wr.heap[w.heap.size]? = some (.cells #[.int .i64 x.east, .int .i64 x.north, .int .i64 x.long, .int .i64 x.along, .int .i64 x.shot, .int .i64 x.haul, .int .i64 x.se.lo, .int .i64 x.se.hi, .int .i64 x.sn.lo, .int .i64 x.sn.hi] 63 (0, 0)) ∧ wr.heap[w.heap.size + 1]? = some (.cells #[.int .i64 y.east, .int .i64 y.north, .int .i64 y.long, .int .i64 y.along, .int .i64 y.shot, .int .i64 y.haul, .int .i64 y.se.lo, .int .i64 y.se.hi, .int .i64 y.sn.lo, .int .i64 y.sn.hi] 63 (0, 0)) ∧ wr.heap[w.heap.size + 1 + 1]? = some (.cells #[.int .i64 ea.lo, .int .i64 ea.hi] 44 (0, 0)) ∧ wr.heap[w.heap.size + 1 + 1 + 1]? = some (.cells #[.int .i64 eb.lo, .int .i64 eb.hi] 44 (0, 0)) ∧ wr.heap[w.heap.size + 1 + 1 + 1 + 1]? = some (.cells #[.int .i64 0, .int .i64 0] 44 (0, 0)))) (fun j _ => h - (intOf j).toNat)
  case atStart => exact ⟨0, Nat.zero_le _, rfl, HK.out.1, by simpa [spAdd, rTo] using HK.out.2.1, HK.out.2.2⟩
  case round =>
    obtain ⟨k, hk, rfl, HR⟩ := hrel
    by_cases hlt : k < h
    · obtain ⟨b, off, rfl, hb, d0, d1⟩ := HV.out k (by omega)
      have HD := hid (fun (u : World) (hu : Ext w u) => And.intro ((hu.cell (p := ⟨b, _, none⟩) hb).trans d0) ((hu.cell (p := ⟨b, _, none⟩) hb).trans d1))
      have HS : Hid (∀ n, nAt x.shot y.shot k = n → spAdd ⟨fr, fr⟩ (rTo l x.shot y.shot (k + 1)) = spAdd (spAdd ⟨fr, fr⟩ (rTo l x.shot y.shot k)) (tmSp n l[k])) := fun n hn => by
        show _ = _
        rw [rTo, hn, getD_of (by omega)]
        simp [spAdd]; omega
      have hsl := hl _ (List.getElem_mem (h := (by omega : k < l.length)))
      have hrk := rTo_in hl x.shot y.shot k
      have hsk : spIn 1000000000 (spAdd ⟨fr, fr⟩ (rTo l x.shot y.shot k)) := spIn_le (spAdd_in (M := 100000) (N := 200 * k) (by unfold spIn; simp; omega) hrk) (by omega)
      have hki : (k : Int) < h := by omega
      have hkl : (k : Int) < l.length := by omega
      have HNV : Hid (nAt x.shot y.shot k = (if x.shot ≤ (k : Int) then 1 else 0) - (if y.shot ≤ (k : Int) then 1 else 0)) := rfl
      clear d0 d1 hrk
      generalize l[k] = m at *
      obtain ⟨m1, m2⟩ := m
      simp only at HD
      generalize spAdd ⟨fr, fr⟩ (rTo l x.shot y.shot k) = sk at *
      obtain ⟨s1, s2⟩ := sk
      have c0 := cell_of HR.out.2.2.1
      have c1 := cell_of HR.out.2.2.2.1
      by_cases pa : x.shot ≤ (k : Int)
      · by_cases pb : y.shot ≤ (k : Int)
        · have hsa : x.shot ≤ (k : Int) := pa
          have hsb : y.shot ≤ (k : Int) := pb
          have hn : nAt x.shot y.shot k = 0 := by rw [HNV.out]; simp [hsa, hsb]
          have HS := hid (HS.out 0 hn)
          have hti := tm1_in (n := 0) (by omega) (by omega) hsl
          have HT := hid (fun u => times_z m1 m2 0 (by omega) (spIn_le hsl (by omega)) u)
          have HP := hid (fun u => plus_z s1 s2 (tmSp 0 ⟨m1, m2⟩).lo (tmSp 0 ⟨m1, m2⟩).hi hsk (spIn_le hti (by omega)) u)
          clear hn hti HNV
          generalize tmSp 0 ⟨m1, m2⟩ = tm at *
          gi_upto_region 10 with fail
          refine quiet_wide 8 (by kernel_rfl) (by kernel_rfl) ?_
          simp only [List.take_succ_cons, List.take_zero, List.drop_succ_cons, List.drop_zero]
          have q0 := fun e : Later wr => cell_of (Ext.block e.grown HR.out.2.1)
          have q1 := fun e : Later wr => (HD.out e.val (HR.out.1.trans e.grown)).1
          have q2 := fun e : Later wr => (HD.out e.val (HR.out.1.trans e.grown)).2
          repeat (any_goals (first | go_big_quiet_step ((first | (go_at_call 98; with_reducible exact Cal.quiet (HT.out _)) | (go_at_call 97; with_reducible exact Cal.quiet (HP.out _)))) | quiet_step ((first | (go_at_call 98; with_reducible exact Cal.quiet (HT.out _)) | (go_at_call 97; with_reducible exact Cal.quiet (HP.out _))))))
          refine wpQuiet_nil ?_
          rintro w5 ⟨⟨w5q, hx5⟩, hew5⟩
          obtain rfl : w5 = w5q := hew5
          have hx5 : Ext wr w5 := hx5
          clear q0 q1 q2
          have P := hid (put2 (hx5.block HR.out.2.1) (HR.out.1.trans hx5) HX.out.size (.int .i64 (s1 + tm.lo)) (.int .i64 (s2 + tm.hi)))
          have f0 := free_of (hx5.block HR.out.2.1)
          have cg := cell_of (hx5.block HR.out.2.1)
          have hz := HZ.out
          have HPB := hid (And.intro (P.out.2.2 _ _ (by omega) (hx5.block HR.out.2.2.1)) (And.intro (P.out.2.2 _ _ (by omega) (hx5.block HR.out.2.2.2.1)) (And.intro (P.out.2.2 _ _ (by omega) (hx5.block HR.out.2.2.2.2.1)) (And.intro (P.out.2.2 _ _ (by omega) (hx5.block HR.out.2.2.2.2.2.1)) (P.out.2.2 _ _ (by omega) (hx5.block HR.out.2.2.2.2.2.2))))))
          clear hz
          gi_upto_region 4 with fail
          have P2 := hid P.out
          generalize (w5.setCell ⟨W.heap.size, 0, none⟩ (.int .i64 (s1 + tm.lo))).setCell ⟨W.heap.size, 1, none⟩ (.int .i64 (s2 + tm.hi)) = W7 at *
          clear f0 cg c0 c1
          gi_wp2_with fail
          go_roundw
          case rel => exact ⟨k + 1, by omega, by go_num, P2.out.1, by rw [HS.out]; exact P2.out.2.1, HPB.out⟩
          case measure => simp [intOf]; omega
        · have hsa : x.shot ≤ (k : Int) := pa
          have hsb : ¬ y.shot ≤ (k : Int) := pb
          have hn : nAt x.shot y.shot k = 1 := by rw [HNV.out]; simp [hsa, hsb]
          have HS := hid (HS.out 1 hn)
          have hti := tm1_in (n := 1) (by omega) (by omega) hsl
          have HT := hid (fun u => times_z m1 m2 1 (by omega) (spIn_le hsl (by omega)) u)
          have HP := hid (fun u => plus_z s1 s2 (tmSp 1 ⟨m1, m2⟩).lo (tmSp 1 ⟨m1, m2⟩).hi hsk (spIn_le hti (by omega)) u)
          clear hn hti HNV
          generalize tmSp 1 ⟨m1, m2⟩ = tm at *
          gi_upto_region 10 with fail
          refine quiet_wide 8 (by kernel_rfl) (by kernel_rfl) ?_
          simp only [List.take_succ_cons, List.take_zero, List.drop_succ_cons, List.drop_zero]
          have q0 := fun e : Later wr => cell_of (Ext.block e.grown HR.out.2.1)
          have q1 := fun e : Later wr => (HD.out e.val (HR.out.1.trans e.grown)).1
          have q2 := fun e : Later wr => (HD.out e.val (HR.out.1.trans e.grown)).2
          repeat (any_goals (first | go_big_quiet_step ((first | (go_at_call 98; with_reducible exact Cal.quiet (HT.out _)) | (go_at_call 97; with_reducible exact Cal.quiet (HP.out _)))) | quiet_step ((first | (go_at_call 98; with_reducible exact Cal.quiet (HT.out _)) | (go_at_call 97; with_reducible exact Cal.quiet (HP.out _))))))
          refine wpQuiet_nil ?_
          rintro w5 ⟨⟨w5q, hx5⟩, hew5⟩
          obtain rfl : w5 = w5q := hew5
          have hx5 : Ext wr w5 := hx5
          clear q0 q1 q2
          have P := hid (put2 (hx5.block HR.out.2.1) (HR.out.1.trans hx5) HX.out.size (.int .i64 (s1 + tm.lo)) (.int .i64 (s2 + tm.hi)))
          have f0 := free_of (hx5.block HR.out.2.1)
          have cg := cell_of (hx5.block HR.out.2.1)
          have hz := HZ.out
          have HPB := hid (And.intro (P.out.2.2 _ _ (by omega) (hx5.block HR.out.2.2.1)) (And.intro (P.out.2.2 _ _ (by omega) (hx5.block HR.out.2.2.2.1)) (And.intro (P.out.2.2 _ _ (by omega) (hx5.block HR.out.2.2.2.2.1)) (And.intro (P.out.2.2 _ _ (by omega) (hx5.block HR.out.2.2.2.2.2.1)) (P.out.2.2 _ _ (by omega) (hx5.block HR.out.2.2.2.2.2.2))))))
          clear hz
          gi_upto_region 4 with fail
          have P2 := hid P.out
          generalize (w5.setCell ⟨W.heap.size, 0, none⟩ (.int .i64 (s1 + tm.lo))).setCell ⟨W.heap.size, 1, none⟩ (.int .i64 (s2 + tm.hi)) = W7 at *
          clear f0 cg c0 c1
          gi_wp2_with fail
          go_roundw
          case rel => exact ⟨k + 1, by omega, by go_num, P2.out.1, by rw [HS.out]; exact P2.out.2.1, HPB.out⟩
          case measure => simp [intOf]; omega
      · by_cases pb : y.shot ≤ (k : Int)
        · have hsa : ¬ x.shot ≤ (k : Int) := pa
          have hsb : y.shot ≤ (k : Int) := pb
          have hn : nAt x.shot y.shot k = (-1) := by rw [HNV.out]; simp [hsa, hsb]
          have HS := hid (HS.out (-1) hn)
          have hti := tm1_in (n := (-1)) (by omega) (by omega) hsl
          have HT := hid (fun u => times_z m1 m2 (-1) (by omega) (spIn_le hsl (by omega)) u)
          have HP := hid (fun u => plus_z s1 s2 (tmSp (-1) ⟨m1, m2⟩).lo (tmSp (-1) ⟨m1, m2⟩).hi hsk (spIn_le hti (by omega)) u)
          clear hn hti HNV
          generalize tmSp (-1) ⟨m1, m2⟩ = tm at *
          gi_upto_region 10 with fail
          refine quiet_wide 8 (by kernel_rfl) (by kernel_rfl) ?_
          simp only [List.take_succ_cons, List.take_zero, List.drop_succ_cons, List.drop_zero]
          have q0 := fun e : Later wr => cell_of (Ext.block e.grown HR.out.2.1)
          have q1 := fun e : Later wr => (HD.out e.val (HR.out.1.trans e.grown)).1
          have q2 := fun e : Later wr => (HD.out e.val (HR.out.1.trans e.grown)).2
          repeat (any_goals (first | go_big_quiet_step ((first | (go_at_call 98; with_reducible exact Cal.quiet (HT.out _)) | (go_at_call 97; with_reducible exact Cal.quiet (HP.out _)))) | quiet_step ((first | (go_at_call 98; with_reducible exact Cal.quiet (HT.out _)) | (go_at_call 97; with_reducible exact Cal.quiet (HP.out _))))))
          refine wpQuiet_nil ?_
          rintro w5 ⟨⟨w5q, hx5⟩, hew5⟩
          obtain rfl : w5 = w5q := hew5
          have hx5 : Ext wr w5 := hx5
          clear q0 q1 q2
          have P := hid (put2 (hx5.block HR.out.2.1) (HR.out.1.trans hx5) HX.out.size (.int .i64 (s1 + tm.lo)) (.int .i64 (s2 + tm.hi)))
          have f0 := free_of (hx5.block HR.out.2.1)
          have cg := cell_of (hx5.block HR.out.2.1)
          have hz := HZ.out
          have HPB := hid (And.intro (P.out.2.2 _ _ (by omega) (hx5.block HR.out.2.2.1)) (And.intro (P.out.2.2 _ _ (by omega) (hx5.block HR.out.2.2.2.1)) (And.intro (P.out.2.2 _ _ (by omega) (hx5.block HR.out.2.2.2.2.1)) (And.intro (P.out.2.2 _ _ (by omega) (hx5.block HR.out.2.2.2.2.2.1)) (P.out.2.2 _ _ (by omega) (hx5.block HR.out.2.2.2.2.2.2))))))
          clear hz
          gi_upto_region 4 with fail
          have P2 := hid P.out
          generalize (w5.setCell ⟨W.heap.size, 0, none⟩ (.int .i64 (s1 + tm.lo))).setCell ⟨W.heap.size, 1, none⟩ (.int .i64 (s2 + tm.hi)) = W7 at *
          clear f0 cg c0 c1
          gi_wp2_with fail
          go_roundw
          case rel => exact ⟨k + 1, by omega, by go_num, P2.out.1, by rw [HS.out]; exact P2.out.2.1, HPB.out⟩
          case measure => simp [intOf]; omega
        · have hsa : ¬ x.shot ≤ (k : Int) := pa
          have hsb : ¬ y.shot ≤ (k : Int) := pb
          have hn : nAt x.shot y.shot k = 0 := by rw [HNV.out]; simp [hsa, hsb]
          have HS := hid (HS.out 0 hn)
          have hti := tm1_in (n := 0) (by omega) (by omega) hsl
          have HT := hid (fun u => times_z m1 m2 0 (by omega) (spIn_le hsl (by omega)) u)
          have HP := hid (fun u => plus_z s1 s2 (tmSp 0 ⟨m1, m2⟩).lo (tmSp 0 ⟨m1, m2⟩).hi hsk (spIn_le hti (by omega)) u)
          clear hn hti HNV
          generalize tmSp 0 ⟨m1, m2⟩ = tm at *
          gi_upto_region 10 with fail
          refine quiet_wide 8 (by kernel_rfl) (by kernel_rfl) ?_
          simp only [List.take_succ_cons, List.take_zero, List.drop_succ_cons, List.drop_zero]
          have q0 := fun e : Later wr => cell_of (Ext.block e.grown HR.out.2.1)
          have q1 := fun e : Later wr => (HD.out e.val (HR.out.1.trans e.grown)).1
          have q2 := fun e : Later wr => (HD.out e.val (HR.out.1.trans e.grown)).2
          repeat (any_goals (first | go_big_quiet_step ((first | (go_at_call 98; with_reducible exact Cal.quiet (HT.out _)) | (go_at_call 97; with_reducible exact Cal.quiet (HP.out _)))) | quiet_step ((first | (go_at_call 98; with_reducible exact Cal.quiet (HT.out _)) | (go_at_call 97; with_reducible exact Cal.quiet (HP.out _))))))
          refine wpQuiet_nil ?_
          rintro w5 ⟨⟨w5q, hx5⟩, hew5⟩
          obtain rfl : w5 = w5q := hew5
          have hx5 : Ext wr w5 := hx5
          clear q0 q1 q2
          have P := hid (put2 (hx5.block HR.out.2.1) (HR.out.1.trans hx5) HX.out.size (.int .i64 (s1 + tm.lo)) (.int .i64 (s2 + tm.hi)))
          have f0 := free_of (hx5.block HR.out.2.1)
          have cg := cell_of (hx5.block HR.out.2.1)
          have hz := HZ.out
          have HPB := hid (And.intro (P.out.2.2 _ _ (by omega) (hx5.block HR.out.2.2.1)) (And.intro (P.out.2.2 _ _ (by omega) (hx5.block HR.out.2.2.2.1)) (And.intro (P.out.2.2 _ _ (by omega) (hx5.block HR.out.2.2.2.2.1)) (And.intro (P.out.2.2 _ _ (by omega) (hx5.block HR.out.2.2.2.2.2.1)) (P.out.2.2 _ _ (by omega) (hx5.block HR.out.2.2.2.2.2.2))))))
          clear hz
          gi_upto_region 4 with fail
          have P2 := hid P.out
          generalize (w5.setCell ⟨W.heap.size, 0, none⟩ (.int .i64 (s1 + tm.lo))).setCell ⟨W.heap.size, 1, none⟩ (.int .i64 (s2 + tm.hi)) = W7 at *
          clear f0 cg c0 c1
          gi_wp2_with fail
          go_roundw
          case rel => exact ⟨k + 1, by omega, by go_num, P2.out.1, by rw [HS.out]; exact P2.out.2.1, HPB.out⟩
          case measure => simp [intOf]; omega

    · obtain rfl : k = h := by omega
      have hki : ¬ (k : Int) < k := by omega
      have c0 := cell_of HR.out.2.2.1
      have c1 := cell_of HR.out.2.2.2.1
      have w1 : wrap64 ((k : Int) - x.shot) = k - x.shot := by unfold wrap64; omega
      have w2 : wrap64 (y.shot - (k : Int)) = y.shot - k := by unfold wrap64; omega
      have i1 := mul_in (a := ea.lo) (n := k - x.shot) (by have := hea.1; omega) (by omega)
      have i2 := mul_in (a := ea.hi) (n := k - x.shot) (by have := hea.2; omega) (by omega)
      have i3 := mul_in (a := eb.lo) (n := y.shot - k) (by have := heb.1; omega) (by omega)
      have i4 := mul_in (a := eb.hi) (n := y.shot - k) (by have := heb.2; omega) (by omega)
      have j1 : spIn 100000 (tmSp (k - x.shot) ea) := by unfold tmSp spIn; split <;> simp only <;> omega
      have j2 : spIn 100000 (tmSp (y.shot - k) eb) := by unfold tmSp spIn; split <;> simp only <;> omega
      have hrk := rTo_in hl x.shot y.shot k
      have hsk : spIn 1000000000 (spAdd ⟨fr, fr⟩ (rTo l x.shot y.shot k)) := spIn_le (spAdd_in (M := 100000) (N := 200 * k) (by unfold spIn; simp; omega) hrk) (by omega)
      have HT1 := hid (fun u => times_z ea.lo ea.hi (k - x.shot) (by omega) (spIn_le hea (by omega)) u)
      have HT2 := hid (fun u => times_z eb.lo eb.hi (y.shot - k) (by omega) (spIn_le heb (by omega)) u)
      have HP1 := hid (fun u => plus_z (tmSp (k - x.shot) ea).lo (tmSp (k - x.shot) ea).hi (tmSp (y.shot - k) eb).lo (tmSp (y.shot - k) eb).hi (spIn_le j1 (by omega)) (spIn_le j2 (by omega)) u)
      have HP2 := hid (fun u => plus_z (spAdd ⟨fr, fr⟩ (rTo l x.shot y.shot k)).lo (spAdd ⟨fr, fr⟩ (rTo l x.shot y.shot k)).hi (spAdd (tmSp (k - x.shot) ea) (tmSp (y.shot - k) eb)).lo (spAdd (tmSp (k - x.shot) ea) (tmSp (y.shot - k) eb)).hi hsk (spIn_le (spAdd_in j1 j2) (by omega)) u)
      have HRES : Hid (apR l x.shot y.shot fr ea eb k = spAdd (spAdd ⟨fr, fr⟩ (rTo l x.shot y.shot k)) (spAdd (tmSp (k - x.shot) ea) (tmSp (y.shot - k) eb))) := rfl
      clear i1 i2 i3 i4 j1 j2 hrk hsk
      have HR1 := hid HR.out.2.1
      generalize hR : spAdd ⟨fr, fr⟩ (rTo l x.shot y.shot k) = sk at *
      generalize hT1 : tmSp (k - x.shot) ea = t1 at *
      generalize hT2 : tmSp (y.shot - k) eb = t2 at *
      have HE := hid (And.intro hR (And.intro hT1 hT2))
      simp only [spAdd] at HP2
      clear hR hT1 hT2
      gi_upto_region 11 with fail
      clear c0 c1
      refine quiet_wide 15 (by kernel_rfl) (by kernel_rfl) ?_
      simp only [List.take_succ_cons, List.take_zero, List.drop_succ_cons, List.drop_zero]
      have q0 := fun e : Later wr => cell_of (Ext.block e.grown HR1.out)
      have q1 := fun e : Later wr => cell_of (Ext.block e.grown HR.out.2.2.1)
      have q2 := fun e : Later wr => cell_of (Ext.block e.grown HR.out.2.2.2.1)
      have q3 := fun e : Later wr => cell_of (Ext.block e.grown HR.out.2.2.2.2.1)
      have q4 := fun e : Later wr => cell_of (Ext.block e.grown HR.out.2.2.2.2.2.1)
      repeat (any_goals (first | go_big_quiet_step ((first | (go_at_call 98; with_reducible exact Cal.quiet (HT1.out _)) | (go_at_call 98; with_reducible exact Cal.quiet (HT2.out _)) | (go_at_call 97; with_reducible exact Cal.quiet (HP1.out _)) | (go_at_call 97; with_reducible exact Cal.quiet (HP2.out _)))) | quiet_step ((first | (go_at_call 98; with_reducible exact Cal.quiet (HT1.out _)) | (go_at_call 98; with_reducible exact Cal.quiet (HT2.out _)) | (go_at_call 97; with_reducible exact Cal.quiet (HP1.out _)) | (go_at_call 97; with_reducible exact Cal.quiet (HP2.out _))))))
      refine wpQuiet_nil ?_
      rintro w5 ⟨⟨w5q, hx5⟩, hew5⟩
      obtain rfl : w5 = w5q := hew5
      have hx5 : Ext wr w5 := hx5
      clear q0 q1 q2 q3 q4
      have P := hid (put2 (hx5.block HR.out.2.2.2.2.2.2) (HR.out.1.trans hx5) (by omega) (.int .i64 (sk.lo + (t1.lo + t2.lo))) (.int .i64 (sk.hi + (t1.hi + t2.hi))))
      have f0 := free_of (hx5.block HR.out.2.2.2.2.2.2)
      have cg := cell_of (hx5.block HR.out.2.2.2.2.2.2)
      gi_wp2_with fail
      clear cg
      have cB := cell_of P.out.2.1
      refine bodyPost_ret (v := .agg #[.int .i64 (sk.lo + (t1.lo + t2.lo)), .int .i64 (sk.hi + (t1.hi + t2.hi))]) (by simp [results, Tryz.results79, go_sem, cB]) rfl ⟨by rw [HRES.out]; first | done | rfl, P.out.1⟩

end Go.Proofs.YtmjelgonhpgmbaaGreat
