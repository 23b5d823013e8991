/- A sale in memory: whether it is valid. -/
import Derived.Test.YtfkehbhlagpmcaaCA
import Derived.Test.YtfkehbhlagpmcaaMe
import Derived.Laws.EntriesVeiled
set_option linter.unusedSimpArgs false
set_option linter.unusedVariables false
namespace Go.Proofs.Ytfkehbhlagpmcaa
open Go Go.RowKit Go.Shelf
open Au
/-- Lists of numbers in memory. -/
def ListsAt (w : World) (v : Value) (ls : List (List Int)) : Prop :=
  ∃ a cap, v = .slice a ls.length cap ∧ (ls.length ≤ cap ∧ ls.length ≤ 1000000000000000) ∧ ∀ i (h : i < ls.length), ∃ b off u, a = some ⟨b, off, none⟩ ∧ b < w.heap.size ∧ w.cell? ⟨b, off + i, none⟩ = some u ∧ IntsAt w u ls[i]
theorem ListsAt.mono {w w' : World} {v : Value} {ls : List (List Int)} (h : ListsAt w v ls) (hx : Ext w w') : ListsAt w' v ls := by
  obtain ⟨a, cap, hv, hl, hc⟩ := h
  refine ⟨a, cap, hv, hl, fun i hi => ?_⟩
  obtain ⟨b, off, u, ha, hb, h0, h1⟩ := hc i hi
  exact ⟨b, off, u, ha, Nat.lt_of_lt_of_le hb hx.size, by rw [hx.cell (p := ⟨b, _, none⟩) hb]; exact h0, h1.mono hx⟩
/-- A sale as an argument, and as a valid one. -/
def saleV (s : Sal) (v : Value) : Value := .agg #[.int .i64 s.crans, .int .i64 s.least, v]
def saleW (s : Sal) (v : Value) : Value := .agg #[.int .i64 s.crans, .int .i64 s.least, v, fnV 68]
/-- Whether it is valid. -/
def saleB (s : Sal) : Bool := inB s.crans 0 40 && (inB s.least 0 10000 && (inB (s.offers.length : Int) 1 8 && allTo (fun i => fallB (s.of i)) s.offers.length))
theorem sale_ok {s : Sal} (h : saleB s = true) : Ok s := by
  unfold saleB at h
  rw [Bool.and_eq_true, Bool.and_eq_true, Bool.and_eq_true] at h
  obtain ⟨h1, h2, h3, h4⟩ := h
  have h3 := inB_spec h3
  refine ⟨inB_spec h1, inB_spec h2, by omega, fun i => ?_⟩
  by_cases hi : i < s.offers.length
  · unfold allTo at h4
    rw [List.all_eq_true] at h4
    exact fall_ok (h4 i (List.mem_range.2 hi))
  · rw [of_out (by omega)]; exact Fall.nil
theorem sale_iff {s : Sal} : saleB s = true ↔ Ok s := by
  constructor
  · exact sale_ok
  · intro h
    have h1 := h.crans
    have h2 := h.least
    have h3 := h.n
    unfold saleB
    rw [allTo_yes fun i _ => fall_iff.2 (h.fall i)]
    simp [inB, h1, h2]; omega
theorem of_get {s : Sal} {i : Nat} (h : i < s.offers.length) : s.of i = s.offers[i] := getD_of h
set_option maxHeartbeats 2000000 in
theorem isSale_any (s : Sal) (v : Value) (w : World) (hv : ListsAt w v s.offers) :
    Cal 67 #[saleV s v] w fun e w' => e = .returned (.bool (saleB s)) ∧ Ext w w' := by
  obtain ⟨a, cap, rfl, ⟨hcap, hlen⟩, hc⟩ := hv
  have HC := hid hc
  clear hc
  unfold saleV
  cases h1 : inB s.crans 0 40 with
  | false =>
    have HE : Hid (saleB s = false) := hid (by unfold saleB; rw [h1]; rfl)
    have HI := hid h1
    clear h1
    gi_enter Try.func67, Try.ntmps67
    gi_wp2_with (gi_at_call 60; ((with_reducible refine (isIn_b _ _ _ false _ HI.out).mono ?_); rintro e w1 ⟨rfl, rfl⟩))
    go_ret
    exact ⟨by rw [HE.out]; rfl, (Ext.refl _).alloc _⟩
  | true =>
  cases h2 : inB s.least 0 10000 with
  | false =>
    have HE : Hid (saleB s = false) := hid (by unfold saleB; rw [h1, h2]; rfl)
    have HI := hid h1
    have HJ := hid h2
    clear h1 h2
    gi_enter Try.func67, Try.ntmps67
    gi_wp2_with (first | (gi_at_call 60; ((with_reducible refine (isIn_b _ _ _ true _ HI.out).mono ?_); rintro e w1 ⟨rfl, rfl⟩)) | (gi_at_call 60; ((with_reducible refine (isIn_b _ _ _ false _ HJ.out).mono ?_); rintro e w1 ⟨rfl, rfl⟩)))
    go_ret
    exact ⟨by rw [HE.out]; rfl, (Ext.refl _).alloc _⟩
  | true =>
  cases h3 : inB (s.offers.length : Int) 1 8 with
  | false =>
    have HE : Hid (saleB s = false) := hid (by unfold saleB; rw [h1, h2, h3]; rfl)
    have HI := hid h1
    have HJ := hid h2
    have HK := hid h3
    clear h1 h2 h3
    gi_enter Try.func67, Try.ntmps67
    gi_wp2_with (first | (gi_at_call 60; ((with_reducible refine (isIn_b _ _ _ true _ HI.out).mono ?_); rintro e w1 ⟨rfl, rfl⟩)) | (gi_at_call 60; ((with_reducible refine (isIn_b _ _ _ true _ HJ.out).mono ?_); rintro e w1 ⟨rfl, rfl⟩)) | (gi_at_call 60; ((with_reducible refine (isIn_b _ _ _ false _ HK.out).mono ?_); rintro e w1 ⟨rfl, rfl⟩)))
    go_ret
    exact ⟨by rw [HE.out]; rfl, (Ext.refl _).alloc _⟩
  | true =>
    have HE : Hid (saleB s = allTo (fun i => fallB (s.of i)) s.offers.length) := hid (by unfold saleB; rw [h1, h2, h3]; rfl)
    have HI := hid h1
    have HJ := hid h2
    have HK := hid h3
    clear h1 h2 h3
    gi_enter Try.func67, Try.ntmps67
    gi_wp2_with (first | (gi_at_call 60; ((with_reducible refine (isIn_b _ _ _ true _ HI.out).mono ?_); rintro e w1 ⟨rfl, rfl⟩)) | (gi_at_call 60; ((with_reducible refine (isIn_b _ _ _ true _ HJ.out).mono ?_); rintro e w1 ⟨rfl, rfl⟩)) | (gi_at_call 60; ((with_reducible refine (isIn_b _ _ _ true _ HK.out).mono ?_); rintro e w1 ⟨rfl, rfl⟩)))
    have HX := hid (show Ext w (w.alloc (.cells #[.int .i64 s.crans, .int .i64 s.least, .slice a s.offers.length cap] 24)) from (Ext.refl _).alloc _)
    generalize w.alloc (.cells #[.int .i64 s.crans, .int .i64 s.least, .slice a s.offers.length cap] 24) = W at *
    gi_loop [4, 25, 26, 27, 28, 29, 30, 31, 32] (fun u4 i u26 u27 u28 u29 u30 u31 u32 => ∃ k : Nat, k ≤ s.offers.length ∧ i = .int .i64 k ∧ Hid (∀ j, j < k → fallB (s.of j) = true)) (fun _ i _ _ _ _ _ _ _ => s.offers.length - (intOf i).toNat)
    case atStart => exact ⟨0, Nat.zero_le _, rfl, fun _ h => absurd h (by omega)⟩
    case round =>
      obtain ⟨k, hk, rfl, HG⟩ := hrel
      by_cases hlt : k < s.offers.length
      · obtain ⟨b, off, u, rfl, hbb, hck, hu⟩ := HC.out k hlt
        rw [← HX.out.cell (p := ⟨b, _, none⟩) hbb] at hck
        have HO := hid (of_get hlt)
        have HU := hid (hu.mono HX.out)
        obtain ⟨a', cap', rfl, ⟨hcap', hlen'⟩, _⟩ := hu
        generalize s.offers[k] = l at *
        cases hin : fallB l with
        | true =>
          have HV := hid (upTo_succ HG.out (by rw [HO.out]; exact hin))
          have HA := hid (arePrices_any _ l W HU.out)
          rw [hin] at HA
          clear hin HG
          gi_wp2_with (gi_at_call 54; ((with_reducible refine (HA.out).mono ?_); rintro e w1 ⟨rfl, rfl⟩))
          go_round
          case rel => exact ⟨k + 1, by omega, by go_num, HV⟩
          case measure => simp [intOf]; omega
        | false =>
          have HF : Hid (saleB s = false) := hid (by rw [HE.out]; exact allTo_no hlt (by rw [HO.out]; exact hin))
          have HA := hid (arePrices_any _ l W HU.out)
          rw [hin] at HA
          clear hin HG
          gi_wp2_with (gi_at_call 54; ((with_reducible refine (HA.out).mono ?_); rintro e w1 ⟨rfl, rfl⟩))
          go_ret
          exact ⟨by rw [HF.out]; rfl, HX.out⟩
      · obtain rfl : k = s.offers.length := by omega
        have HT : Hid (saleB s = true) := hid (by rw [HE.out]; exact allTo_yes HG.out)
        clear HG
        gi_wp2
        go_ret
        exact ⟨by rw [HT.out]; rfl, HX.out⟩
set_option maxHeartbeats 2000000 in
theorem newSale_bad (s : Sal) (v : Value) (w : World) (hv : ListsAt w v s.offers) (h : saleB s = false) :
    Cal 47 #[saleV s v] w fun e w' => e = .returned (.tuple #[.agg #[.int .i64 0, .int .i64 0, .slice none 0 0, .nilFunc], .int .i64 40]) ∧ Ext w w' := by
  have HA := hid (fun (u : World) (hu : Ext w u) => isSale_any s v u (hv.mono hu))
  rw [h] at HA
  obtain ⟨a, cap, rfl, ⟨hcap, hlen⟩, _⟩ := hv
  unfold saleV at *
  clear h
  gi_enter Try.func47, Try.ntmps47
  gi_wp2_with (gi_at_call 67; ((with_reducible refine (HA.out _ (((Ext.refl _).alloc _).alloc _)).mono ?_); rintro e w1 ⟨rfl, hx1⟩; have HX := hid hx1; have h1 := hx1.block two_new; have h2 := hx1.block (Ext.new (Ext.refl _)); rw [World.size_alloc] at h2; have c1 := cell_of h1; have c2 := cell_of h2; have f2 := free_of h2; have H2 := hid h2; clear h1 h2 hx1))
  have e1 := set_same H2.out 0 (.int .i64 0)
  have e2 := set_same e1 1 (.int .i64 0)
  have e3 := set_same e2 2 (.slice none 0 0)
  have e4 := set_same e3 3 (.nilFunc)
  have hE := (((((Ext.refl w).alloc _).alloc _).trans HX.out).set (b := w.heap.size + 1) (by omega) 0 (.int .i64 0)).set (b := w.heap.size + 1) (by omega) 1 (.int .i64 0)
  have hE := (hE.set (b := w.heap.size + 1) (by omega) 2 (.slice none 0 0)).set (b := w.heap.size + 1) (by omega) 3 (.nilFunc)
  simp only [List.setIfInBounds_toArray, List.set_cons_succ, List.set_cons_zero] at e4
  have c4 := cell_of e4
  have HE := hid hE
  clear e1 e2 e3 e4 hE c1 c2 f2 HX
  generalize (((w1.setCell ⟨w.heap.size + 1, 0, none⟩ (.int .i64 0)).setCell ⟨w.heap.size + 1, 1, none⟩ (.int .i64 0)).setCell ⟨w.heap.size + 1, 2, none⟩ (.slice none 0 0)).setCell ⟨w.heap.size + 1, 3, none⟩ (.nilFunc) = W' at *
  refine bodyPost_ret (v := .tuple #[.agg #[.int .i64 0, .int .i64 0, .slice none 0 0, .nilFunc], .int .i64 40]) (by simp [results, Try.results47, go_sem, c4]) rfl ⟨rfl, HE.out⟩
set_option maxHeartbeats 2000000 in
theorem newSale_ok (s : Sal) (v : Value) (w : World) (hv : ListsAt w v s.offers) (h : saleB s = true) :
    Cal 47 #[saleV s v] w fun e w' => e = .returned (.tuple #[saleW s v, .int .i64 0]) ∧ Ext w w' := by
  have HA := hid (fun (u : World) (hu : Ext w u) => isSale_any s v u (hv.mono hu))
  rw [h] at HA
  obtain ⟨a, cap, rfl, ⟨hcap, hlen⟩, _⟩ := hv
  unfold saleV saleW at *
  clear h
  gi_enter Try.func47, Try.ntmps47
  gi_wp2_with (gi_at_call 67; ((with_reducible refine (HA.out _ (((Ext.refl _).alloc _).alloc _)).mono ?_); rintro e w1 ⟨rfl, hx1⟩; have HX := hid hx1; have h1 := hx1.block two_new; have h2 := hx1.block (Ext.new (Ext.refl _)); rw [World.size_alloc] at h2; have c1 := cell_of h1; have c2 := cell_of h2; have f2 := free_of h2; have H2 := hid h2; clear h1 h2 hx1))
  have e1 := set_same H2.out 0 (.int .i64 s.crans)
  have e2 := set_same e1 1 (.int .i64 s.least)
  have e3 := set_same e2 2 (.slice a s.offers.length cap)
  have e4 := set_same e3 3 (fnV 68)
  have hE := (((((Ext.refl w).alloc _).alloc _).trans HX.out).set (b := w.heap.size + 1) (by omega) 0 (.int .i64 s.crans)).set (b := w.heap.size + 1) (by omega) 1 (.int .i64 s.least)
  have hE := (hE.set (b := w.heap.size + 1) (by omega) 2 (.slice a s.offers.length cap)).set (b := w.heap.size + 1) (by omega) 3 (fnV 68)
  simp only [List.setIfInBounds_toArray, List.set_cons_succ, List.set_cons_zero] at e4
  have c4 := cell_of e4
  have HE := hid hE
  clear e1 e2 e3 e4 hE c1 c2 f2 HX
  generalize (((w1.setCell ⟨w.heap.size + 1, 0, none⟩ (.int .i64 s.crans)).setCell ⟨w.heap.size + 1, 1, none⟩ (.int .i64 s.least)).setCell ⟨w.heap.size + 1, 2, none⟩ (.slice a s.offers.length cap)).setCell ⟨w.heap.size + 1, 3, none⟩ (fnV 68) = W' at *
  refine bodyPost_ret (v := .tuple #[.agg #[.int .i64 s.crans, .int .i64 s.least, .slice a s.offers.length cap, fnV 68], .int .i64 0]) (by simp [results, Try.results47, go_sem, c4]) rfl ⟨rfl, HE.out⟩
set_option maxHeartbeats 400000 in
theorem has_any (s : Sal) (v : Value) (b : Int) (w : World) (hv : ∃ a cap, v = .slice a s.offers.length cap) (h : s.offers.length ≤ 1000000) :
    Cal 53 #[saleW s v, .int .i64 b] w fun e w' => e = .returned (.bool (inB b 0 ((s.offers.length : Int) - 1))) ∧ Ext w w' := by
  obtain ⟨a, cap, rfl⟩ := hv
  unfold saleW
  generalize s.offers.length = n at *
  have hw : IntKind.i64.wrap ((n : Int) - 1) = (n : Int) - 1 := by rw [IntKind.wrap_i64]; omega
  gi_enter Try.func53, Try.ntmps53
  gi_wp2_with (gi_at_call 60; ((with_reducible refine (isIn_any _ _ _ _).mono ?_); rintro e w1 ⟨rfl, rfl⟩))
  go_ret
  exact ⟨rfl, (Ext.refl _).alloc _⟩

end Go.Proofs.Ytfkehbhlagpmcaa
