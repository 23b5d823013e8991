/- The bids of a sale, one after the other. -/
import Derived.Test.YtfkehbhlagpmcaaCC
import Derived.Test.YtfkehbhlagpmcaaHI
set_option linter.unusedSimpArgs false
set_option linter.unusedVariables false
namespace Go.Proofs.Ytfkehbhlagpmcaa
open Go Go.RowKit Go.Shelf
open Au
theorem bidsTo_add (s : Sal) (i : Nat) (hi : i < s.offers.length) : ∀ m j, i + m = j → j ≤ s.offers.length → (bidsTo s i).length ≤ (bidsTo s j).length
  | 0, j, h, _ => by obtain rfl : i = j := by omega
                     exact Nat.le_refl _
  | m + 1, j, h, hj => by
    obtain ⟨j, rfl⟩ : ∃ k, j = k + 1 := ⟨i + m, by omega⟩
    have := bidsTo_add s i hi m j (by omega) (by omega)
    rw [bidsTo_succ, List.length_append]; omega
theorem bids_cut (s : Sal) {i : Nat} (hi : i ≤ s.offers.length) : ∃ r, bids s = bidsTo s i ++ r := by
  unfold bids
  generalize hn : s.offers.length = n at hi
  clear hn
  induction n with
  | zero => obtain rfl : i = 0 := by omega
            exact ⟨[], by simp⟩
  | succ n ih =>
    by_cases h : i = n + 1
    · subst h; exact ⟨[], by simp⟩
    · obtain ⟨r, hr⟩ := ih (by omega)
      exact ⟨r ++ bids1 s.least n (s.of n) (s.of n).length, by rw [bidsTo_succ, hr, List.append_assoc]⟩
theorem bids1_cut (c : Int) (i : Nat) (l : List Int) {k n : Nat} (hk : k ≤ n) : ∃ r, bids1 c i l n = bids1 c i l k ++ r := by
  induction n with
  | zero => obtain rfl : k = 0 := by omega
            exact ⟨[], by simp⟩
  | succ n ih =>
    by_cases h : k = n + 1
    · subst h; exact ⟨[], by simp⟩
    · obtain ⟨r, hr⟩ := ih (by omega)
      exact ⟨_, by rw [bids1_succ, hr, List.append_assoc]⟩
/-- How many bids come before one. -/
def seen (s : Sal) (i k : Nat) : Nat := (bidsTo s i).length + (bids1 s.least i (s.of i) k).length
theorem bids_seen (s : Sal) {i k : Nat} (hi : i < s.offers.length) (hk : k < (s.of i).length) (hl : s.least ≤ (s.of i).getD k 0) :
    ∃ h : seen s i k < (bids s).length, (bids s)[seen s i k] = mk s i k ∧ seen s i (k + 1) = seen s i k + 1 := by
  obtain ⟨r, hr⟩ := bids_cut s (i := i + 1) (by omega)
  obtain ⟨q, hq⟩ := bids1_cut s.least i (s.of i) (k := k + 1) (n := (s.of i).length) (by omega)
  rw [bidsTo_succ, hq, bids1_succ, if_pos hl] at hr
  have he : bids s = (bidsTo s i ++ bids1 s.least i (s.of i) k) ++ (mk s i k :: (q ++ r)) := by rw [hr]; simp [mk]
  have hlen : seen s i k = (bidsTo s i ++ bids1 s.least i (s.of i) k).length := by unfold seen; simp
  refine ⟨by rw [he, hlen]; simp, ?_, by unfold seen; rw [bids1_succ, if_pos hl]; simp; omega⟩
  have : (bids s)[seen s i k]? = some (mk s i k) := by rw [he, hlen, List.getElem?_append_right (Nat.le_refl _)]; simp
  exact (List.getElem?_eq_some_iff.1 this).2
theorem seen_not (s : Sal) {i k : Nat} (hl : ¬ s.least ≤ (s.of i).getD k 0) : seen s i (k + 1) = seen s i k := by unfold seen; rw [bids1_succ, if_neg hl]; simp
theorem seen_zero (s : Sal) (i : Nat) : seen s i 0 = (bidsTo s i).length := by unfold seen; rw [bids1_zero]; rfl
theorem seen_all (s : Sal) (i : Nat) : seen s i (s.of i).length = (bidsTo s (i + 1)).length := by unfold seen; rw [bidsTo_succ]; simp
set_option maxRecDepth 100000 in
set_option maxHeartbeats 4000000 in
theorem bids_iter (v : Value) (s : Sal) (w0 : World) (hv : ListsAt w0 v s.offers) (hl40 : ∀ i, (s.of i).length ≤ 1000) :
    IterP (fun t => t = 71) 89 #[saleW s v] #[] ((bids s).map fun b => #[bidV b]) (fun W => Ext w0 W) := by
  intro l0 J Jx W hFt hJ hJx hY h0
  show CallsIn Fence.wide 0 Try.prog 89 #[saleW s v, .func (.yield l0) #[] #[]] W _
  have HFt := hid hFt
  have HJ := hid hJ
  have HJx := hid hJx
  have HY := hid hY
  obtain ⟨a, cap, rfl, ⟨hcap, hlen⟩, hc⟩ := hv
  have HC := hid hc
  have HLM : Hid (((bids s).map fun b => #[bidV b]).length = (bids s).length) := hid (by simp)
  have hxb : Ext W (W.alloc (.cells #[.int .i64 s.crans, .int .i64 s.least, .slice a s.offers.length cap, fnV 68] 71)) := (Ext.refl _).alloc _
  have HB : Hid ((W.alloc (.cells #[.int .i64 s.crans, .int .i64 s.least, .slice a s.offers.length cap, fnV 68] 71)).heap[W.heap.size]? = some (.cells #[.int .i64 s.crans, .int .i64 s.least, .slice a s.offers.length cap, fnV 68] 71 (0, 0))) := hid (Ext.new (Ext.refl _))
  have H0 := hid (hJ _ _ _ h0 hxb)
  have HL := hid hl40
  clear hFt hJ hJx hY h0 hxb hc hl40
  unfold saleW
  gi_enter Try.func89, Try.ntmps89
  gi_wp2_with fail
  generalize W.alloc (.cells #[.int .i64 s.crans, .int .i64 s.least, .slice a s.offers.length cap, fnV 68] 71) = W1 at *
  have c0 := cell_of HB.out
  gi_upto_region 2 with fail
  clear c0
  gi_loopw [11] (fun i wr => ∃ k : Nat, k ≤ s.offers.length ∧ i = .int .i64 k ∧ Hid (J (bidsTo s k).length wr ∧ wr.heap[W.heap.size]? = some (.cells #[.int .i64 s.crans, .int .i64 s.least, .slice a s.offers.length cap, fnV 68] 71 (0, 0)))) (fun i _ => s.offers.length - (intOf i).toNat)
  case atStart => exact ⟨0, Nat.zero_le _, rfl, hid ⟨H0.out, HB.out⟩⟩
  case round =>
    obtain ⟨k, hk, rfl, HI⟩ := hrel
    clear H0 HB
    by_cases hlt : k < s.offers.length
    · have hki : (k : Int) < (s.offers.length : Int) := by omega
      obtain ⟨b, off, u, rfl, hbb, hck, hu⟩ := HC.out k hlt
      have HO := hid (of_get hlt)
      have hxr := HFt.out _ _ HI.out.1
      rw [← hxr.cell (p := ⟨b, _, none⟩) hbb] at hck
      rw [← HO.out] at hu
      have hlk := HL.out k
      obtain ⟨a2, cap2, rfl, ⟨hcap2, hlen2⟩, hc2⟩ := hu
      have HC2 := hid hc2
      have HS0 := hid (seen_zero s k)
      have HSA := hid (seen_all s k)
      have HLT := hid hlt
      have cb := cell_of HI.out.2
      clear hc2 hxr
      gi_upto_region 5 with fail
      clear cb hck
      obtain ⟨wo, rfl⟩ : ∃ wo, wo = wr := ⟨wr, rfl⟩
      gi_loopw [21] (fun i wr => ∃ j : Nat, j ≤ (s.of k).length ∧ i = .int .i64 j ∧ Hid (J (seen s k j) wr ∧ wr.heap[W.heap.size]? = some (.cells #[.int .i64 s.crans, .int .i64 s.least, .slice (some ⟨b, off, none⟩) s.offers.length cap, fnV 68] 71 (0, 0)))) (fun i _ => (s.of k).length - (intOf i).toNat)
      case atStart => exact ⟨0, Nat.zero_le _, rfl, hid ⟨by rw [HS0.out]; exact HI.out.1, HI.out.2⟩⟩
      case round =>
        obtain ⟨j, hj, rfl, HI2⟩ := hrel
        clear HI
        by_cases hlt2 : j < (s.of k).length
        · have hji : (j : Int) < ((s.of k).length : Int) := by omega
          obtain ⟨b2, off2, rfl, hbb2, hck2⟩ := HC2.out j hlt2
          have hxr := HFt.out _ _ HI2.out.1
          rw [← hxr.cell (p := ⟨b2, _, none⟩) hbb2] at hck2
          have HD := hid (getD_of (d := (0 : Int)) hlt2)
          have cb := cell_of HI2.out.2
          by_cases hge : s.least ≤ (s.of k)[j]
          · obtain ⟨hx1, hx2, hx3⟩ := bids_seen s HLT.out hlt2 (by rw [HD.out]; exact hge)
            have HEL := hid (show ((bids s).map fun b => #[bidV b])[seen s k j]'(by rw [HLM.out]; exact hx1) = #[.agg #[.int .i64 (k : Int), .int .i64 (j : Int), .int .i64 (s.of k)[j]]] by rw [List.getElem_map, hx2]; unfold bidV mk; rw [HD.out])
            have HX1 := hid hx1
            have HX3 := hid hx3
            clear hx2 hx3 hxr HD
            generalize (s.of k)[j] = x at *
            gi_wp2_with fail
            obtain ⟨fn, tm, asg, bd, hy, hR⟩ := HY.out (seen s k j) (by rw [HLM.out]; exact HX1.out) wr HI2.out.1
            rw [HEL.out] at hy
            have HR := hid hR
            clear hR
            rw [hy, Oper.uponIn_round]
            clear hy cb hck2
            refine ⟨fun h => (by cases h), HR.out.mono ?_⟩
            rintro e W' ⟨hkt, ⟨rfl, hJ'⟩ | ⟨rfl, hJx'⟩⟩
            · have HN := hid (And.intro hJ' (hkt _ _ 71 rfl HI2.out.2))
              rw [← HX3.out] at HN
              clear hJ' hkt
              gi_wp2
              go_roundw
              case rel => exact ⟨j + 1, by omega, by go_num, HN⟩
              case measure => simp [intOf]; omega
            · have HX' := hid hJx'
              clear hJx' hkt
              gi_wp2
              exact bodyPost_ret (v := .tuple #[]) (by simp [results, Try.results89, go_sem]) rfl ⟨⟨_, rfl⟩, .inr ⟨seen s k j, by rw [HLM.out]; exact HX1.out, HX'.out⟩⟩
          · have HSN := hid (seen_not s (i := k) (k := j) (by rw [HD.out]; exact hge))
            have hge2 : ¬ (s.of k)[j] ≥ s.least := hge
            clear HD hxr
            generalize (s.of k)[j] = x at *
            gi_wp2
            go_roundw
            case rel => exact ⟨j + 1, by omega, by go_num, by rw [HSN.out]; exact HI2⟩
            case measure => simp [intOf]; omega
        · obtain rfl : j = (s.of k).length := by omega
          gi_wp2
          go_roundw
          case rel => exact ⟨k + 1, by omega, by go_num, by rw [← HSA.out]; exact HI2⟩
          case measure => simp [intOf]; omega
    · obtain rfl : k = s.offers.length := by omega
      gi_wp2_with fail
      go_end0
      exact ⟨⟨_, rfl⟩, .inl (by rw [HLM.out]; exact HI.out.1)⟩

end Go.Proofs.Ytfkehbhlagpmcaa
