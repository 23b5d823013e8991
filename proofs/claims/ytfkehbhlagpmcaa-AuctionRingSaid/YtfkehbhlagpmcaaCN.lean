/- Arrays of eight numbers; what is so of each buyer. -/
import Derived.Test.YtfkehbhlagpmcaaCM
set_option linter.unusedSimpArgs false
set_option linter.unusedVariables false
namespace Go.Proofs.Ytfkehbhlagpmcaa
open Go Go.RowKit Go.Shelf
open Au
def a8 (F : Nat → Int) : Array Value := #[.int .i64 (F 0), .int .i64 (F 1), .int .i64 (F 2), .int .i64 (F 3), .int .i64 (F 4), .int .i64 (F 5), .int .i64 (F 6), .int .i64 (F 7)]
theorem a8_get (F : Nat → Int) {k : Nat} (h : k < 8) : (a8 F)[k]? = some (.int .i64 (F k)) := by
  match k, h with
  | 0, _ => rfl
  | 1, _ => rfl
  | 2, _ => rfl
  | 3, _ => rfl
  | 4, _ => rfl
  | 5, _ => rfl
  | 6, _ => rfl
  | 7, _ => rfl
theorem a8_set (F : Nat → Int) {k : Nat} (h : k < 8) (x : Int) : (a8 F).setIfInBounds k (.int .i64 x) = a8 (fun i => if i = k then x else F i) := by
  match k, h with
  | 0, _ => rfl
  | 1, _ => rfl
  | 2, _ => rfl
  | 3, _ => rfl
  | 4, _ => rfl
  | 5, _ => rfl
  | 6, _ => rfl
  | 7, _ => rfl
theorem a8_congr {F G : Nat → Int} (h : ∀ k, k < 8 → F k = G k) : a8 F = a8 G := by
  unfold a8
  rw [h 0 (by omega), h 1 (by omega), h 2 (by omega), h 3 (by omega), h 4 (by omega), h 5 (by omega), h 6 (by omega), h 7 (by omega)]
theorem a8_inj {F G : Nat → Int} (h : a8 F = a8 G) {k : Nat} (hk : k < 8) : F k = G k := by
  have h1 := a8_get F hk
  have h2 := a8_get G hk
  rw [h, h2] at h1
  generalize F k = x at *
  generalize G k = y at *
  cases h1
  rfl
abbrev fill8 (u : World) (g : Nat) (F : Nat → Int) : World :=
  (((((((u.setCell ⟨g, 0, none⟩ (.int .i64 (F 0))).setCell ⟨g, 1, none⟩ (.int .i64 (F 1))).setCell ⟨g, 2, none⟩ (.int .i64 (F 2))).setCell ⟨g, 3, none⟩ (.int .i64 (F 3))).setCell ⟨g, 4, none⟩ (.int .i64 (F 4))).setCell ⟨g, 5, none⟩ (.int .i64 (F 5))).setCell ⟨g, 6, none⟩ (.int .i64 (F 6))).setCell ⟨g, 7, none⟩ (.int .i64 (F 7))
theorem fill8_same {u : World} {g : Nat} {T : TypeId} {G : Nat → Int} (hb : u.heap[g]? = some (.cells (a8 G) T (0, 0))) (F : Nat → Int) : (fill8 u g F).heap[g]? = some (.cells (a8 F) T (0, 0)) := by
  have := set_same (set_same (set_same (set_same (set_same (set_same (set_same (set_same hb 0 (.int .i64 (F 0))) 1 (.int .i64 (F 1))) 2 (.int .i64 (F 2))) 3 (.int .i64 (F 3))) 4 (.int .i64 (F 4))) 5 (.int .i64 (F 5))) 6 (.int .i64 (F 6))) 7 (.int .i64 (F 7))
  simp only [a8, List.setIfInBounds_toArray, List.set_cons_succ, List.set_cons_zero] at this
  exact this
theorem fill8_other {u : World} {g k : Nat} (h : k ≠ g) (F : Nat → Int) : (fill8 u g F).heap[k]? = u.heap[k]? := by
  rw [set_other h, set_other h, set_other h, set_other h, set_other h, set_other h, set_other h, set_other h]
theorem fill8_ext {w u : World} (h : Ext w u) {g : Nat} (hg : w.heap.size ≤ g) (F : Nat → Int) : Ext w (fill8 u g F) :=
  (((((((h.set hg _ _).set hg _ _).set hg _ _).set hg _ _).set hg _ _).set hg _ _).set hg _ _).set hg _ _
/-- Of the first n: what F says, of the others nothing. -/
def padF (n : Nat) (F : Nat → Int) (i : Nat) : Int := if i < n then F i else 0
theorem padF_zero (F : Nat → Int) : a8 (padF 0 F) = a8 (fun _ => 0) := a8_congr fun k _ => by unfold padF; rw [if_neg (by omega)]
theorem padF_succ (n : Nat) (F : Nat → Int) : a8 (fun i => if i = n then F n else padF n F i) = a8 (padF (n + 1) F) := a8_congr fun k _ => by
  unfold padF
  by_cases h : k = n
  · subst h; rw [if_pos rfl, if_pos (by omega)]
  · rw [if_neg h]
    by_cases h2 : k < n
    · rw [if_pos h2, if_pos (by omega)]
    · rw [if_neg h2, if_neg (by omega)]
def zero8 : Nat → Int := fun _ => 0
set_option maxRecDepth 100000 in
set_option maxHeartbeats 4000000 in
theorem each_gets (v : Value) (s : Sal) (F : Nat → Int) (w : World) (hv : ∃ a cap, v = .slice a s.offers.length cap) (hn : s.offers.length ≤ 8)
    (hF : ∀ i, i < s.offers.length → ∀ u, Ext w u → Cal 70 #[saleW s v, .int .i64 (i : Int)] u fun e w' => e = .returned (.int .i64 (F i)) ∧ Ext u w') :
    Cal 69 #[saleW s v, .func (.func 70) #[saleW s v] #[]] w fun e w' => e = .returned (.agg (a8 (padF s.offers.length F))) ∧ Ext w w' := by
  have HF := hid hF
  obtain ⟨a, cap, rfl⟩ := hv
  clear hF
  unfold saleW at *
  generalize s.offers.length = n at *
  gi_enter Try.func69, Try.ntmps69
  gi_upto_region 3 with fail
  have HX0 := hid (show Ext w (((w.alloc (.cells #[.int .i64 s.crans, .int .i64 s.least, .slice a n cap, fnV 68] 71)).alloc (.cells #[.int .i64 0, .int .i64 0, .int .i64 0, .int .i64 0, .int .i64 0, .int .i64 0, .int .i64 0, .int .i64 0] 90)).alloc (.cells #[.int .i64 0, .int .i64 0, .int .i64 0, .int .i64 0, .int .i64 0, .int .i64 0, .int .i64 0, .int .i64 0] 90)) from (((Ext.refl _).alloc _).alloc _).alloc _)
  have HB4 : Hid ((((w.alloc (.cells #[.int .i64 s.crans, .int .i64 s.least, .slice a n cap, fnV 68] 71)).alloc (.cells #[.int .i64 0, .int .i64 0, .int .i64 0, .int .i64 0, .int .i64 0, .int .i64 0, .int .i64 0, .int .i64 0] 90)).alloc (.cells #[.int .i64 0, .int .i64 0, .int .i64 0, .int .i64 0, .int .i64 0, .int .i64 0, .int .i64 0, .int .i64 0] 90)).heap[w.heap.size + 1]? = some (.cells #[.int .i64 0, .int .i64 0, .int .i64 0, .int .i64 0, .int .i64 0, .int .i64 0, .int .i64 0, .int .i64 0] 90 (0, 0))) := hid three_mid
  have HB5 : Hid ((((w.alloc (.cells #[.int .i64 s.crans, .int .i64 s.least, .slice a n cap, fnV 68] 71)).alloc (.cells #[.int .i64 0, .int .i64 0, .int .i64 0, .int .i64 0, .int .i64 0, .int .i64 0, .int .i64 0, .int .i64 0] 90)).alloc (.cells #[.int .i64 0, .int .i64 0, .int .i64 0, .int .i64 0, .int .i64 0, .int .i64 0, .int .i64 0, .int .i64 0] 90)).heap[w.heap.size + 1 + 1]? = some (.cells (a8 (padF 0 F)) 90 (0, 0))) := hid (by rw [padF_zero]; exact three_top)
  generalize ((w.alloc (.cells #[.int .i64 s.crans, .int .i64 s.least, .slice a n cap, fnV 68] 71)).alloc (.cells #[.int .i64 0, .int .i64 0, .int .i64 0, .int .i64 0, .int .i64 0, .int .i64 0, .int .i64 0, .int .i64 0] 90)).alloc (.cells #[.int .i64 0, .int .i64 0, .int .i64 0, .int .i64 0, .int .i64 0, .int .i64 0, .int .i64 0, .int .i64 0] 90) = W at *
  gi_loopw [11] (fun i wr => ∃ k : Nat, k ≤ n ∧ i = .int .i64 k ∧ Hid (Ext w wr ∧ wr.heap[w.heap.size + 1]? = some (.cells #[.int .i64 0, .int .i64 0, .int .i64 0, .int .i64 0, .int .i64 0, .int .i64 0, .int .i64 0, .int .i64 0] 90 (0, 0)) ∧ wr.heap[w.heap.size + 1 + 1]? = some (.cells (a8 (padF k F)) 90 (0, 0)))) (fun i _ => n - (intOf i).toNat)
  case atStart => exact ⟨0, Nat.zero_le _, rfl, hid ⟨HX0.out, HB4.out, HB5.out⟩⟩
  case round =>
    obtain ⟨k, hk, rfl, HI⟩ := hrel
    clear HX0 HB4 HB5
    by_cases hlt : k < n
    · have hk8 : k < 8 := by omega
      gi_wp2_with (gi_at_call 70; ((with_reducible refine (HF.out k hlt _ HI.out.1).mono ?_); rintro e w1 ⟨rfl, hx1⟩; have HX := hid (HI.out.1.trans hx1); have HB4 := hid (hx1.block HI.out.2.1); have hb5 := hx1.block HI.out.2.2; have HB5 := hid hb5; have ck := cell_of hb5 k; rw [a8_get _ hk8] at ck; have fk := free_of hb5; clear hb5 hx1))
      have e5 := set_same HB5.out k (.int .i64 (F k))
      rw [a8_set _ hk8, padF_succ] at e5
      have e4 := HB4.out
      rw [← set_other (w := w1) (g := w.heap.size + 1 + 1) (k := w.heap.size + 1) (by omega) k (.int .i64 (F k))] at e4
      have HI2 := hid (And.intro (HX.out.set (b := w.heap.size + 1 + 1) (by omega) k (.int .i64 (F k))) (And.intro e4 e5))
      clear e4 e5 HI ck fk
      go_roundw
      case rel => exact ⟨k + 1, by omega, by go_num, HI2⟩
      case measure => simp [intOf]; omega
    · obtain rfl : k = n := by omega
      have c4 := cell_of HI.out.2.1
      have f4 := free_of HI.out.2.1
      have c5 := cell_of HI.out.2.2
      unfold a8 at c5
      gi_wp2
      have e4 := fill8_same (G := zero8) HI.out.2.1 (padF k F)
      have hx := fill8_ext HI.out.1 (g := w.heap.size + 1) (by omega) (padF k F)
      have HX := hid hx
      have ce := cell_of e4
      unfold a8 at ce
      clear e4 hx c4 f4 c5 HI
      refine bodyPost_ret (v := .agg (a8 (padF k F))) (by simp [results, Try.results69, go_sem, ce, a8]) rfl ⟨rfl, HX.out⟩
set_option maxRecDepth 100000 in
set_option maxHeartbeats 4000000 in
theorem each_pays (v : Value) (s : Sal) (F : Nat → Int) (w : World) (hv : ∃ a cap, v = .slice a s.offers.length cap) (hn : s.offers.length ≤ 8)
    (hF : ∀ i, i < s.offers.length → ∀ u, Ext w u → Cal 71 #[saleW s v, .int .i64 (i : Int)] u fun e w' => e = .returned (.int .i64 (F i)) ∧ Ext u w') :
    Cal 69 #[saleW s v, .func (.func 71) #[saleW s v] #[]] w fun e w' => e = .returned (.agg (a8 (padF s.offers.length F))) ∧ Ext w w' := by
  have HF := hid hF
  obtain ⟨a, cap, rfl⟩ := hv
  clear hF
  unfold saleW at *
  generalize s.offers.length = n at *
  gi_enter Try.func69, Try.ntmps69
  gi_upto_region 3 with fail
  have HX0 := hid (show Ext w (((w.alloc (.cells #[.int .i64 s.crans, .int .i64 s.least, .slice a n cap, fnV 68] 71)).alloc (.cells #[.int .i64 0, .int .i64 0, .int .i64 0, .int .i64 0, .int .i64 0, .int .i64 0, .int .i64 0, .int .i64 0] 90)).alloc (.cells #[.int .i64 0, .int .i64 0, .int .i64 0, .int .i64 0, .int .i64 0, .int .i64 0, .int .i64 0, .int .i64 0] 90)) from (((Ext.refl _).alloc _).alloc _).alloc _)
  have HB4 : Hid ((((w.alloc (.cells #[.int .i64 s.crans, .int .i64 s.least, .slice a n cap, fnV 68] 71)).alloc (.cells #[.int .i64 0, .int .i64 0, .int .i64 0, .int .i64 0, .int .i64 0, .int .i64 0, .int .i64 0, .int .i64 0] 90)).alloc (.cells #[.int .i64 0, .int .i64 0, .int .i64 0, .int .i64 0, .int .i64 0, .int .i64 0, .int .i64 0, .int .i64 0] 90)).heap[w.heap.size + 1]? = some (.cells #[.int .i64 0, .int .i64 0, .int .i64 0, .int .i64 0, .int .i64 0, .int .i64 0, .int .i64 0, .int .i64 0] 90 (0, 0))) := hid three_mid
  have HB5 : Hid ((((w.alloc (.cells #[.int .i64 s.crans, .int .i64 s.least, .slice a n cap, fnV 68] 71)).alloc (.cells #[.int .i64 0, .int .i64 0, .int .i64 0, .int .i64 0, .int .i64 0, .int .i64 0, .int .i64 0, .int .i64 0] 90)).alloc (.cells #[.int .i64 0, .int .i64 0, .int .i64 0, .int .i64 0, .int .i64 0, .int .i64 0, .int .i64 0, .int .i64 0] 90)).heap[w.heap.size + 1 + 1]? = some (.cells (a8 (padF 0 F)) 90 (0, 0))) := hid (by rw [padF_zero]; exact three_top)
  generalize ((w.alloc (.cells #[.int .i64 s.crans, .int .i64 s.least, .slice a n cap, fnV 68] 71)).alloc (.cells #[.int .i64 0, .int .i64 0, .int .i64 0, .int .i64 0, .int .i64 0, .int .i64 0, .int .i64 0, .int .i64 0] 90)).alloc (.cells #[.int .i64 0, .int .i64 0, .int .i64 0, .int .i64 0, .int .i64 0, .int .i64 0, .int .i64 0, .int .i64 0] 90) = W at *
  gi_loopw [11] (fun i wr => ∃ k : Nat, k ≤ n ∧ i = .int .i64 k ∧ Hid (Ext w wr ∧ wr.heap[w.heap.size + 1]? = some (.cells #[.int .i64 0, .int .i64 0, .int .i64 0, .int .i64 0, .int .i64 0, .int .i64 0, .int .i64 0, .int .i64 0] 90 (0, 0)) ∧ wr.heap[w.heap.size + 1 + 1]? = some (.cells (a8 (padF k F)) 90 (0, 0)))) (fun i _ => n - (intOf i).toNat)
  case atStart => exact ⟨0, Nat.zero_le _, rfl, hid ⟨HX0.out, HB4.out, HB5.out⟩⟩
  case round =>
    obtain ⟨k, hk, rfl, HI⟩ := hrel
    clear HX0 HB4 HB5
    by_cases hlt : k < n
    · have hk8 : k < 8 := by omega
      gi_wp2_with (gi_at_call 71; ((with_reducible refine (HF.out k hlt _ HI.out.1).mono ?_); rintro e w1 ⟨rfl, hx1⟩; have HX := hid (HI.out.1.trans hx1); have HB4 := hid (hx1.block HI.out.2.1); have hb5 := hx1.block HI.out.2.2; have HB5 := hid hb5; have ck := cell_of hb5 k; rw [a8_get _ hk8] at ck; have fk := free_of hb5; clear hb5 hx1))
      have e5 := set_same HB5.out k (.int .i64 (F k))
      rw [a8_set _ hk8, padF_succ] at e5
      have e4 := HB4.out
      rw [← set_other (w := w1) (g := w.heap.size + 1 + 1) (k := w.heap.size + 1) (by omega) k (.int .i64 (F k))] at e4
      have HI2 := hid (And.intro (HX.out.set (b := w.heap.size + 1 + 1) (by omega) k (.int .i64 (F k))) (And.intro e4 e5))
      clear e4 e5 HI ck fk
      go_roundw
      case rel => exact ⟨k + 1, by omega, by go_num, HI2⟩
      case measure => simp [intOf]; omega
    · obtain rfl : k = n := by omega
      have c4 := cell_of HI.out.2.1
      have f4 := free_of HI.out.2.1
      have c5 := cell_of HI.out.2.2
      unfold a8 at c5
      gi_wp2
      have e4 := fill8_same (G := zero8) HI.out.2.1 (padF k F)
      have hx := fill8_ext HI.out.1 (g := w.heap.size + 1) (by omega) (padF k F)
      have HX := hid hx
      have ce := cell_of e4
      unfold a8 at ce
      clear e4 hx c4 f4 c5 HI
      refine bodyPost_ret (v := .agg (a8 (padF k F))) (by simp [results, Try.results69, go_sem, ce, a8]) rfl ⟨rfl, HX.out⟩

end Go.Proofs.Ytfkehbhlagpmcaa
