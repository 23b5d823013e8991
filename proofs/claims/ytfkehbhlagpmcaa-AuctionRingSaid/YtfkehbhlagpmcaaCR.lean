/- The clock falls. -/
import Derived.Test.YtfkehbhlagpmcaaCQ
import Derived.Test.YtfkehbhlagpmcaaRQ
set_option linter.unusedSimpArgs false
set_option linter.unusedVariables false
namespace Go.Proofs.Ytfkehbhlagpmcaa
open Go Go.RowKit Go.Shelf
open Au
/-- What is taken behind the first k prices. -/
def tk (s : Sal) (o : List Nat) (k : Nat) (b : Nat) : Int := ((clk s o k).t b : Int)
def clkN (s : Sal) : Nat := (10001 - s.least).toNat
def clkE (s : Sal) (o : List Nat) : List (Array Value) := (List.range (clkN s)).map fun (k : Nat) => #[.int .i64 (10000 - (k : Int)), .agg (a8 (tk s o (k + 1)))]
theorem tk_zero (s : Sal) (o : List Nat) : a8 (tk s o 0) = a8 zero8 := a8_congr fun _ _ => rfl
/-- A price's call, up to some callers. -/
def ckJ (s : Sal) (o : List Nat) (k j : Nat) : Ck := (clk s o k).call s (10000 - (k : Int)) (o.take j)
theorem ckJ_zero (s : Sal) (o : List Nat) (k : Nat) : ckJ s o k 0 = clk s o k := by unfold ckJ Ck.call; rw [List.take_zero]; rfl
theorem ckJ_succ (s : Sal) (o : List Nat) (k j : Nat) (h : j < o.length) : ckJ s o k (j + 1) = (ckJ s o k j).take (dem s (10000 - (k : Int)) o[j]) o[j] := by
  unfold ckJ Ck.call; rw [List.take_succ_eq_append_getElem h, List.foldl_append]; rfl
theorem ckJ_all (s : Sal) (o : List Nat) (k : Nat) : ckJ s o k o.length = clk s o (k + 1) := by unfold ckJ; rw [List.take_length]; rfl
theorem ckJ_le {s : Sal} (ho : Ok s) {o : List Nat} (hr : Order s.offers.length o) (k j : Nat) : (∀ b, (ckJ s o k j).t b ≤ dem s (10000 - (k : Int)) b) ∧ (ckJ s o k j).left ≤ 40 := by
  have h1 := clk_at ho hr k
  have h2 := call_spec s (10000 - (k : Int)) (o.take j) (clk s o k) (hr.nd.sublist (List.take_sublist _ _)) (fun b hb => (hr.mem b).1 (List.mem_of_mem_take hb)) (fun b => Nat.le_trans (h1.le b) (dem_mono s (by omega) b))
  refine ⟨fun b => (h2.2.1 b).2, ?_⟩
  have h3 := h2.1
  have h4 := h1.all
  have := ho.crans
  unfold ckJ
  omega
/-- What a buyer has taken, besides the others. -/
def ckX (c : Ck) (b x i : Nat) : Int := if i = b then ((c.t b + x : Nat) : Int) else (c.t i : Int)
theorem ckX_zero (c : Ck) (b : Nat) : a8 (ckX c b 0) = a8 (fun i => (c.t i : Int)) := a8_congr fun i _ => by
  unfold ckX
  by_cases h : i = b
  · subst h; rw [if_pos rfl]; simp
  · rw [if_neg h]
theorem ckX_succ (c : Ck) (b x : Nat) : a8 (fun i => if i = b then ((c.t b + x : Nat) : Int) + 1 else ckX c b x i) = a8 (ckX c b (x + 1)) := a8_congr fun i _ => by
  unfold ckX
  by_cases h : i = b
  · subst h; rw [if_pos rfl, if_pos rfl]; omega
  · rw [if_neg h, if_neg h, if_neg h]
theorem ckX_take (c : Ck) (d b : Nat) : a8 (ckX c b (min c.left (d - c.t b))) = a8 (fun i => ((c.take d b).t i : Int)) := a8_congr fun i _ => by
  unfold ckX Ck.take
  by_cases h : i = b
  · subst h; simp
  · simp [h]
theorem clkE_length (s : Sal) (o : List Nat) : (clkE s o).length = clkN s := by unfold clkE; simp
theorem clkE_get (s : Sal) (o : List Nat) {k : Nat} (h : k < clkN s) : (clkE s o)[k]'(by rw [clkE_length]; exact h) = #[.int .i64 (10000 - (k : Int)), .agg (a8 (tk s o (k + 1)))] := by unfold clkE; simp
set_option maxRecDepth 100000 in
set_option maxHeartbeats 8000000 in
theorem clock_iter (v ov : Value) (s : Sal) (o : List Nat) (bx : Nat) (w0 : World) (hv : ListsAt w0 v s.offers) (hov : IntsAt w0 ov (o.map fun i : Nat => (i : Int))) (ho : Ok s) (hr : Order s.offers.length o) :
    IterR 92 #[] #[.pointer (some ⟨bx, 0, none⟩)] (clkE s o) (fun W => Ext w0 W ∧ W.heap[bx]? = some (.cells #[.int .i64 s.crans, .int .i64 s.least, v, fnV 68, ov] 84 (0, 0))) := by
  intro l0 J Jx W hFt hJ hJx hY h0
  show CallsIn Fence.wide 0 Try.prog 92 #[.func (.yield l0) #[] #[], .pointer (some ⟨bx, 0, none⟩)] W _
  have HJ := hid hJ
  have HJx := hid hJx
  have HY := hid hY
  have HLE := hid (ckJ_le ho hr)
  have HMM := hid (fun (i : Nat) (h : i ∈ o) => (hr.mem i).1 h)
  have HDI := hid (fun (p : Int) (i k : Nat) (h : k < (s.of i).length) => dem_iff (i := i) (k := k) ho p h)
  have HDL := hid (fun (p : Int) (i : Nat) => dem_le s p i)
  have HL4 := hid (fun (i : Nat) => (ho.fall i).len)
  have hcr := ho.crans
  have hle := ho.least
  have hn := ho.n
  obtain ⟨a, cap, rfl, ⟨hcap, hlen⟩, hc⟩ := hv
  obtain ⟨ao, co, rfl, ⟨hco, hlo⟩, hco2⟩ := hov
  have HC := hid hc
  simp only [List.length_map] at hco hlo hFt
  have HFt := hid hFt
  have HCO : Hid (∀ i (h : i < o.length), ∃ b off, ao = some ⟨b, off, none⟩ ∧ b < w0.heap.size ∧ w0.cell? ⟨b, off + i, none⟩ = some (.int .i64 (o[i] : Int))) := hid fun i hi => by
    obtain ⟨b, off, h1, h2, h3⟩ := hco2 i (by simpa using hi)
    exact ⟨b, off, h1, h2, by rw [h3]; simp⟩
  have HLM := hid (clkE_length s o)
  have HGE := hid (fun (k : Nat) (h : k < clkN s) => clkE_get s o h)
  have hcn : clkN s = (10001 - s.least).toNat := rfl
  have H00 := hid h0
  have HC0 : Hid (((clk s o 0).left : Int) = s.crans) := hid (by show (s.crans.toNat : Int) = _; omega)
  have hwx := (HFt.out _ _ H00.out).2
  clear hFt hJ hJx hY h0 hc hco2 ho hr
  have H3 : Hid ((W.alloc (.cells #[.int .i64 0, .int .i64 0, .int .i64 0, .int .i64 0, .int .i64 0, .int .i64 0, .int .i64 0, .int .i64 0] 90)).heap[W.heap.size]? = some (.cells (a8 (tk s o 0)) 90 (0, 0))) := hid (by rw [tk_zero]; exact Ext.new (Ext.refl _))
  have H0 : Hid (J 0 (W.alloc (.cells #[.int .i64 0, .int .i64 0, .int .i64 0, .int .i64 0, .int .i64 0, .int .i64 0, .int .i64 0, .int .i64 0] 90))) := hid (HJ.out _ _ _ H00.out ((Ext.refl _).alloc _))
  have cb := cell_of hwx
  have hlb := lt_of_block hwx
  clear hwx
  gi_enter Try.func92, Try.ntmps92
  gi_upto_region 3 with fail
  clear cb hlb H00
  generalize W.alloc (.cells #[.int .i64 0, .int .i64 0, .int .i64 0, .int .i64 0, .int .i64 0, .int .i64 0, .int .i64 0, .int .i64 0] 90) = W1 at *
  gi_loopw [4, 5] (fun lf pr wr => ∃ k : Nat, k ≤ clkN s ∧ pr = .int .i64 (10000 - (k : Int)) ∧ lf = .int .i64 ((clk s o k).left : Int) ∧ Hid (J k wr ∧ wr.heap[W.heap.size]? = some (.cells (a8 (tk s o k)) 90 (0, 0)))) (fun _ pr _ => clkN s - (10000 - intOf pr).toNat)
  case atStart => exact ⟨0, Nat.zero_le _, by simp, by rw [HC0.out], hid ⟨H0.out, H3.out⟩⟩
  case round =>
    obtain ⟨k, hk, rfl, rfl, HI⟩ := hrel
    clear H0 H3
    have hwx := (HFt.out _ _ HI.out.1).1
    have HBX := hid (HFt.out _ _ HI.out.1).2
    have cb := cell_of HBX.out
    by_cases hlt : k < clkN s
    · have hge : s.least ≤ 10000 - (k : Int) := by omega
      gi_wp2_with fail
      rw [wpIn_wide]
      refine wp_scope_straight ?_
      rw [← wpIn_wide (n := 0)]
      gi_wp2_with fail
      rw [wpIn_wide]
      refine wp_label ?_
      have hlb := lt_of_block HBX.out
      gi_upto_region 6 with fail
      clear cb hlb hge
      have HCZ := hid (ckJ_zero s o k)
      have HCA := hid (ckJ_all s o k)
      obtain ⟨wo, rfl⟩ : ∃ wo, wo = wr := ⟨wr, rfl⟩
      gi_loopw [4, 24] (fun lf i wr => ∃ j : Nat, j ≤ o.length ∧ i = .int .i64 j ∧ lf = .int .i64 ((ckJ s o k j).left : Int) ∧ Hid (J k wr ∧ wr.heap[W.heap.size]? = some (.cells (a8 fun i => ((ckJ s o k j).t i : Int)) 90 (0, 0)))) (fun _ i _ => o.length - (intOf i).toNat)
      case atStart => exact ⟨0, Nat.zero_le _, rfl, by rw [HCZ.out], hid ⟨HI.out.1, by rw [HCZ.out]; exact HI.out.2⟩⟩
      case round =>
        obtain ⟨j, hj, rfl, rfl, HI2⟩ := hrel
        clear HI hwx HBX
        have hwx := (HFt.out _ _ HI2.out.1).1
        by_cases hltj : j < o.length
        · obtain ⟨bo, offo, rfl, hbbo, hcko⟩ := HCO.out j hltj
          rw [← hwx.cell (p := ⟨bo, _, none⟩) hbbo] at hcko
          have hbn := HMM.out _ (List.getElem_mem hltj)
          have HSU := hid (ckJ_succ s o k j hltj)
          generalize o[j] = b at *
          obtain ⟨b1, off1, u, rfl, hbb1, hck1, hu⟩ := HC.out b hbn
          have HOF := hid (of_get hbn)
          rw [← HOF.out] at hu
          obtain ⟨a2, cap2, rfl, ⟨hcap2, hlen2⟩, hc2⟩ := hu
          have HC2 := hid hc2
          have HK1 := hid hck1
          have hdc := (HLE.out k j).1 b
          have hl40 := (HLE.out k j).2
          have hdl := HDL.out (10000 - (k : Int)) b
          have HDD := hid (fun (y : Nat) (h : y < (s.of b).length) => HDI.out (10000 - (k : Int)) b y h)
          generalize hcc : ckJ s o k j = c at *
          generalize hdd : dem s (10000 - (k : Int)) b = d at *
          have hb8 : b < 8 := by omega
          have hb9 : (b : Int) < 8 := by omega
          have hbi : (b : Int) < (s.offers.length : Int) := by omega
          clear hc2 hck1 hcc hdd
          gi_upto_region 8 with fail
          clear hcko
          obtain ⟨wo2, rfl⟩ : ∃ wo, wo = wr := ⟨wr, rfl⟩
          gi_loopw [4] (fun lf wr => ∃ x : Nat, x ≤ min c.left (d - c.t b) ∧ lf = .int .i64 ((c.left - x : Nat) : Int) ∧ Hid (J k wr ∧ wr.heap[W.heap.size]? = some (.cells (a8 (ckX c b x)) 90 (0, 0)))) (fun lf _ => (intOf lf).toNat)
          case atStart => exact ⟨0, Nat.zero_le _, rfl, hid ⟨HI2.out.1, by rw [ckX_zero]; exact HI2.out.2⟩⟩
          case round =>
            obtain ⟨x, hx, rfl, HI3⟩ := hrel
            clear HI2 hwx
            have hwx := (HFt.out _ _ HI3.out.1).1
            have HBX := hid (HFt.out _ _ HI3.out.1).2
            have HWX := hid hwx
            have HB3 := hid HI3.out.2
            have hxx : ckX c b x b = ((c.t b + x : Nat) : Int) := by unfold ckX; rw [if_pos rfl]
            have HXX := hid hxx
            by_cases hlx : x < c.left
            · have hlf : (0 : Int) < ((c.left - x : Nat) : Int) := by omega
              have hyc : c.t b + x ≤ cap2 := by omega
              have HBO := hid (show b1 < w0.heap.size from hbb1)
              have HSW := hid (Nat.le_of_lt (lt_of_block HB3.out))
              obtain ⟨y, hy⟩ : ∃ y, y = c.t b + x := ⟨_, rfl⟩
              rw [← hy] at HXX hyc
              have HYD := hid hy
              have hyd2 : y ≤ d := by omega
              have hyle : y ≤ (s.of b).length := by omega
              clear hxx hy
              gi_upto_region 10 with fail
              by_cases hyd : y < d
              · have hyl : y < (s.of b).length := by omega
                obtain ⟨b2, off2, rfl, hbb2, hck2⟩ := HC2.out y hyl
                have hvp := (HDD.out y hyl).1 hyd
                rw [getD_of hyl] at hvp
                have HVC : Hid (∀ u, Ext w0 u → u.cell? ⟨b2, off2 + y, none⟩ = some (.int .i64 (s.of b)[y])) := hid fun u hu => by rw [hu.cell (p := ⟨b2, _, none⟩) hbb2]; exact hck2
                generalize (s.of b)[y] = vv at *
                have hne : ¬ cap2 = y := by omega
                refine lex_wide 12 [] (by kernel_rfl) (by kernel_rfl) nStab_nil ?_
                simp only [List.take_succ_cons, List.take_zero, List.drop_succ_cons, List.drop_zero]
                apply lex_fun (rfl : psAt _ _ = none)
                · intro x u hR hf
                  clear hR hf
                  go_simp
                  first | exact ⟨rfl, Ext.refl _⟩ | rfl
                simp only [Act.put, List.setIfInBounds_toArray, List.set_cons_succ, List.set_cons_zero]
                apply lex_fun (rfl : psAt _ _ = none)
                · intro x u hR hf
                  clear hR hf
                  go_simp
                  first | exact ⟨rfl, Ext.refl _⟩ | rfl
                simp only [Act.put, List.setIfInBounds_toArray, List.set_cons_succ, List.set_cons_zero]
                apply lex_fun (rfl : psAt _ _ = none)
                · intro x u hR hf
                  clear hR hf
                  go_simp
                  first | exact ⟨rfl, Ext.refl _⟩ | rfl
                simp only [Act.put, List.setIfInBounds_toArray, List.set_cons_succ, List.set_cons_zero]
                apply lex_fun (rfl : psAt _ _ = none)
                · intro x u hR hf
                  have c0 := cell_of (hR.block HBX.out)
                  clear hR hf
                  go_simp
                  first | exact ⟨rfl, Ext.refl _⟩ | rfl
                simp only [Act.put, List.setIfInBounds_toArray, List.set_cons_succ, List.set_cons_zero]
                apply lex_fun (rfl : psAt _ _ = none)
                · intro x u hR hf
                  clear hR hf
                  go_simp
                  first | exact ⟨rfl, Ext.refl _⟩ | rfl
                simp only [Act.put, List.setIfInBounds_toArray, List.set_cons_succ, List.set_cons_zero]
                apply lex_fun (rfl : psAt _ _ = none)
                · intro x u hR hf
                  clear hR hf
                  go_simp
                  first | exact ⟨rfl, Ext.refl _⟩ | rfl
                simp only [Act.put, List.setIfInBounds_toArray, List.set_cons_succ, List.set_cons_zero]
                apply lex_fun (rfl : psAt _ _ = none)
                · intro x u hR hf
                  have hco6 := HK1.out
                  rw [← (HWX.out.trans hR).cell (p := ⟨b1, _, none⟩) HBO.out] at hco6
                  clear hR hf
                  go_simp
                  first | exact ⟨rfl, Ext.refl _⟩ | rfl
                simp only [Act.put, List.setIfInBounds_toArray, List.set_cons_succ, List.set_cons_zero]
                apply lex_fun (rfl : psAt _ _ = none)
                · intro x u hR hf
                  clear hR hf
                  go_simp
                  first | exact ⟨rfl, Ext.refl _⟩ | rfl
                simp only [Act.put, List.setIfInBounds_toArray, List.set_cons_succ, List.set_cons_zero]
                apply lex_fun (rfl : psAt _ _ = none)
                · intro x u hR hf
                  clear hR hf
                  go_simp
                  first | exact ⟨rfl, Ext.refl _⟩ | rfl
                simp only [Act.put, List.setIfInBounds_toArray, List.set_cons_succ, List.set_cons_zero]
                apply lex_fun (rfl : psAt _ _ = none)
                · intro x u hR hf
                  have ck := cell_of (hR.block HB3.out) b
                  rw [a8_get _ hb8, HXX.out] at ck
                  clear hR hf
                  go_simp
                  first | exact ⟨rfl, Ext.refl _⟩ | rfl
                simp only [Act.put, List.setIfInBounds_toArray, List.set_cons_succ, List.set_cons_zero]
                apply lex_fun (rfl : psAt _ _ = none)
                · intro x u hR hf
                  clear hR hf
                  go_simp
                  first | exact ⟨rfl, Ext.refl _⟩ | rfl
                simp only [Act.put, List.setIfInBounds_toArray, List.set_cons_succ, List.set_cons_zero]
                apply lex_fun (rfl : psAt _ _ = none)
                · intro x u hR hf
                  clear hR hf
                  go_simp
                  first | exact ⟨rfl, Ext.refl _⟩ | rfl
                simp only [Act.put, List.setIfInBounds_toArray, List.set_cons_succ, List.set_cons_zero]
                refine lex_nil fun x9 w6 hE hfacts => ?_
                clear hfacts x9
                have HE := hid hE
                clear hE
                have hv6 := HVC.out w6 (HWX.out.trans HE.out)
                have hb6 := HE.out.block HB3.out
                have ck := cell_of hb6 b
                rw [a8_get _ hb8, HXX.out] at ck
                have fk := free_of hb6
                have HB6 := hid hb6
                have hvp2 : ¬ vv < 10000 - (k : Int) := by omega
                have hyl2 : ¬ (s.of b).length - y = 0 := by omega
                have hyl3 : 0 < (s.of b).length - y := by omega
                have hw1 : IntKind.i64.wrap ((y : Int) + 1) = (y : Int) + 1 := by rw [IntKind.wrap_i64]; omega
                have hw2 : IntKind.i64.wrap (((c.left - x : Nat) : Int) - 1) = ((c.left - x : Nat) : Int) - 1 := by rw [IntKind.wrap_i64]; omega
                clear hb6 hck2
                gi_wp2
                have e6 := set_same HB6.out b (.int .i64 ((y : Int) + 1))
                rw [a8_set _ hb8] at e6
                have HE6 := hid e6
                have HSX := hid (ckX_succ c b x)
                rw [← HYD.out] at HSX
                rw [HSX.out] at HE6
                have HJ6 := hid (HJ.out _ _ _ HI3.out.1 ((HE.out.mono HSW.out).setCell (p := ⟨W.heap.size, b, none⟩) (Nat.le_refl _) (.int .i64 ((y : Int) + 1))))
                clear e6 ck fk hv6
                go_roundw
                case rel => exact ⟨x + 1, by have := HYD.out; omega, by congr 1; omega, hid ⟨HJ6.out, HE6.out⟩⟩
                case measure => simp [intOf]; omega
              · by_cases hyl : y < (s.of b).length
                · obtain ⟨b2, off2, rfl, hbb2, hck2⟩ := HC2.out y hyl
                  have hvp : ¬ (10000 - (k : Int)) ≤ (s.of b).getD y 0 := fun h => hyd ((HDD.out y hyl).2 h)
                  rw [getD_of hyl] at hvp
                  have HVC : Hid (∀ u, Ext w0 u → u.cell? ⟨b2, off2 + y, none⟩ = some (.int .i64 (s.of b)[y])) := hid fun u hu => by rw [hu.cell (p := ⟨b2, _, none⟩) hbb2]; exact hck2
                  generalize (s.of b)[y] = vv at *
                  have hne : ¬ cap2 = y := by omega
                  refine lex_wide 12 [] (by kernel_rfl) (by kernel_rfl) nStab_nil ?_
                  simp only [List.take_succ_cons, List.take_zero, List.drop_succ_cons, List.drop_zero]
                  apply lex_fun (rfl : psAt _ _ = none)
                  · intro x u hR hf
                    clear hR hf
                    go_simp
                    first | exact ⟨rfl, Ext.refl _⟩ | rfl
                  simp only [Act.put, List.setIfInBounds_toArray, List.set_cons_succ, List.set_cons_zero]
                  apply lex_fun (rfl : psAt _ _ = none)
                  · intro x u hR hf
                    clear hR hf
                    go_simp
                    first | exact ⟨rfl, Ext.refl _⟩ | rfl
                  simp only [Act.put, List.setIfInBounds_toArray, List.set_cons_succ, List.set_cons_zero]
                  apply lex_fun (rfl : psAt _ _ = none)
                  · intro x u hR hf
                    clear hR hf
                    go_simp
                    first | exact ⟨rfl, Ext.refl _⟩ | rfl
                  simp only [Act.put, List.setIfInBounds_toArray, List.set_cons_succ, List.set_cons_zero]
                  apply lex_fun (rfl : psAt _ _ = none)
                  · intro x u hR hf
                    have c0 := cell_of (hR.block HBX.out)
                    clear hR hf
                    go_simp
                    first | exact ⟨rfl, Ext.refl _⟩ | rfl
                  simp only [Act.put, List.setIfInBounds_toArray, List.set_cons_succ, List.set_cons_zero]
                  apply lex_fun (rfl : psAt _ _ = none)
                  · intro x u hR hf
                    clear hR hf
                    go_simp
                    first | exact ⟨rfl, Ext.refl _⟩ | rfl
                  simp only [Act.put, List.setIfInBounds_toArray, List.set_cons_succ, List.set_cons_zero]
                  apply lex_fun (rfl : psAt _ _ = none)
                  · intro x u hR hf
                    clear hR hf
                    go_simp
                    first | exact ⟨rfl, Ext.refl _⟩ | rfl
                  simp only [Act.put, List.setIfInBounds_toArray, List.set_cons_succ, List.set_cons_zero]
                  apply lex_fun (rfl : psAt _ _ = none)
                  · intro x u hR hf
                    have hco6 := HK1.out
                    rw [← (HWX.out.trans hR).cell (p := ⟨b1, _, none⟩) HBO.out] at hco6
                    clear hR hf
                    go_simp
                    first | exact ⟨rfl, Ext.refl _⟩ | rfl
                  simp only [Act.put, List.setIfInBounds_toArray, List.set_cons_succ, List.set_cons_zero]
                  apply lex_fun (rfl : psAt _ _ = none)
                  · intro x u hR hf
                    clear hR hf
                    go_simp
                    first | exact ⟨rfl, Ext.refl _⟩ | rfl
                  simp only [Act.put, List.setIfInBounds_toArray, List.set_cons_succ, List.set_cons_zero]
                  apply lex_fun (rfl : psAt _ _ = none)
                  · intro x u hR hf
                    clear hR hf
                    go_simp
                    first | exact ⟨rfl, Ext.refl _⟩ | rfl
                  simp only [Act.put, List.setIfInBounds_toArray, List.set_cons_succ, List.set_cons_zero]
                  apply lex_fun (rfl : psAt _ _ = none)
                  · intro x u hR hf
                    have ck := cell_of (hR.block HB3.out) b
                    rw [a8_get _ hb8, HXX.out] at ck
                    clear hR hf
                    go_simp
                    first | exact ⟨rfl, Ext.refl _⟩ | rfl
                  simp only [Act.put, List.setIfInBounds_toArray, List.set_cons_succ, List.set_cons_zero]
                  apply lex_fun (rfl : psAt _ _ = none)
                  · intro x u hR hf
                    clear hR hf
                    go_simp
                    first | exact ⟨rfl, Ext.refl _⟩ | rfl
                  simp only [Act.put, List.setIfInBounds_toArray, List.set_cons_succ, List.set_cons_zero]
                  apply lex_fun (rfl : psAt _ _ = none)
                  · intro x u hR hf
                    clear hR hf
                    go_simp
                    first | exact ⟨rfl, Ext.refl _⟩ | rfl
                  simp only [Act.put, List.setIfInBounds_toArray, List.set_cons_succ, List.set_cons_zero]
                  refine lex_nil fun x9 w6 hE hfacts => ?_
                  clear hfacts x9
                  have HE := hid hE
                  clear hE
                  have hv6 := HVC.out w6 (HWX.out.trans HE.out)
                  have hvp2 : vv < 10000 - (k : Int) := by omega
                  have hyl2 : ¬ (s.of b).length - y = 0 := by omega
                  have hyl3 : 0 < (s.of b).length - y := by omega
                  clear hck2
                  gi_wp2
                  have HXM : Hid (x = min c.left (d - c.t b)) := hid (by have := HYD.out; omega)
                  go_roundw
                  case rel => exact ⟨j + 1, by omega, by go_num, by rw [HSU.out]; show Value.int .i64 ((c.left - x : Nat) : Int) = Value.int .i64 ((c.left - min c.left (d - c.t b) : Nat) : Int); rw [← HXM.out], hid ⟨HJ.out _ _ _ HI3.out.1 (HE.out.mono HSW.out), by rw [HSU.out, ← ckX_take, ← HXM.out]; exact (HE.out.block HI3.out.2)⟩⟩
                  case measure => simp [intOf]; omega
                · have hyl2 : (s.of b).length - y = 0 := by omega
                  refine lex_wide 12 [] (by kernel_rfl) (by kernel_rfl) nStab_nil ?_
                  simp only [List.take_succ_cons, List.take_zero, List.drop_succ_cons, List.drop_zero]
                  apply lex_fun (rfl : psAt _ _ = none)
                  · intro x u hR hf
                    clear hR hf
                    go_simp
                    first | exact ⟨rfl, Ext.refl _⟩ | rfl
                  simp only [Act.put, List.setIfInBounds_toArray, List.set_cons_succ, List.set_cons_zero]
                  apply lex_fun (rfl : psAt _ _ = none)
                  · intro x u hR hf
                    clear hR hf
                    go_simp
                    first | exact ⟨rfl, Ext.refl _⟩ | rfl
                  simp only [Act.put, List.setIfInBounds_toArray, List.set_cons_succ, List.set_cons_zero]
                  apply lex_fun (rfl : psAt _ _ = none)
                  · intro x u hR hf
                    clear hR hf
                    go_simp
                    first | exact ⟨rfl, Ext.refl _⟩ | rfl
                  simp only [Act.put, List.setIfInBounds_toArray, List.set_cons_succ, List.set_cons_zero]
                  apply lex_fun (rfl : psAt _ _ = none)
                  · intro x u hR hf
                    have c0 := cell_of (hR.block HBX.out)
                    clear hR hf
                    go_simp
                    first | exact ⟨rfl, Ext.refl _⟩ | rfl
                  simp only [Act.put, List.setIfInBounds_toArray, List.set_cons_succ, List.set_cons_zero]
                  apply lex_fun (rfl : psAt _ _ = none)
                  · intro x u hR hf
                    clear hR hf
                    go_simp
                    first | exact ⟨rfl, Ext.refl _⟩ | rfl
                  simp only [Act.put, List.setIfInBounds_toArray, List.set_cons_succ, List.set_cons_zero]
                  apply lex_fun (rfl : psAt _ _ = none)
                  · intro x u hR hf
                    clear hR hf
                    go_simp
                    first | exact ⟨rfl, Ext.refl _⟩ | rfl
                  simp only [Act.put, List.setIfInBounds_toArray, List.set_cons_succ, List.set_cons_zero]
                  apply lex_fun (rfl : psAt _ _ = none)
                  · intro x u hR hf
                    have hco6 := HK1.out
                    rw [← (HWX.out.trans hR).cell (p := ⟨b1, _, none⟩) HBO.out] at hco6
                    clear hR hf
                    go_simp
                    first | exact ⟨rfl, Ext.refl _⟩ | rfl
                  simp only [Act.put, List.setIfInBounds_toArray, List.set_cons_succ, List.set_cons_zero]
                  apply lex_fun (rfl : psAt _ _ = none)
                  · intro x u hR hf
                    clear hR hf
                    go_simp
                    first | exact ⟨rfl, Ext.refl _⟩ | rfl
                  simp only [Act.put, List.setIfInBounds_toArray, List.set_cons_succ, List.set_cons_zero]
                  apply lex_fun (rfl : psAt _ _ = none)
                  · intro x u hR hf
                    clear hR hf
                    go_simp
                    first | exact ⟨rfl, Ext.refl _⟩ | rfl
                  simp only [Act.put, List.setIfInBounds_toArray, List.set_cons_succ, List.set_cons_zero]
                  apply lex_fun (rfl : psAt _ _ = none)
                  · intro x u hR hf
                    have ck := cell_of (hR.block HB3.out) b
                    rw [a8_get _ hb8, HXX.out] at ck
                    clear hR hf
                    go_simp
                    first | exact ⟨rfl, Ext.refl _⟩ | rfl
                  simp only [Act.put, List.setIfInBounds_toArray, List.set_cons_succ, List.set_cons_zero]
                  apply lex_fun (rfl : psAt _ _ = none)
                  · intro x u hR hf
                    clear hR hf
                    go_simp
                    first | exact ⟨rfl, Ext.refl _⟩ | rfl
                  simp only [Act.put, List.setIfInBounds_toArray, List.set_cons_succ, List.set_cons_zero]
                  apply lex_fun (rfl : psAt _ _ = none)
                  · intro x u hR hf
                    clear hR hf
                    go_simp
                    first | exact ⟨rfl, Ext.refl _⟩ | rfl
                  simp only [Act.put, List.setIfInBounds_toArray, List.set_cons_succ, List.set_cons_zero]
                  refine lex_nil fun x9 w6 hE hfacts => ?_
                  clear hfacts x9
                  have HE := hid hE
                  clear hE
                  gi_wp2
                  have HXM : Hid (x = min c.left (d - c.t b)) := hid (by have := HYD.out; omega)
                  go_roundw
                  case rel => exact ⟨j + 1, by omega, by go_num, by rw [HSU.out]; show Value.int .i64 ((c.left - x : Nat) : Int) = Value.int .i64 ((c.left - min c.left (d - c.t b) : Nat) : Int); rw [← HXM.out], hid ⟨HJ.out _ _ _ HI3.out.1 (HE.out.mono HSW.out), by rw [HSU.out, ← ckX_take, ← HXM.out]; exact (HE.out.block HI3.out.2)⟩⟩
                  case measure => simp [intOf]; omega
            · have hlf : ¬ (0 : Int) < ((c.left - x : Nat) : Int) := by omega
              have hlf2 : ¬ 0 < c.left - x := by omega
              have HYD : Hid (c.left ≤ x) := hid (by omega)
              gi_wp2
              have HXM : Hid (x = min c.left (d - c.t b)) := hid (by have := HYD.out; omega)
              go_roundw
              case rel => exact ⟨j + 1, by omega, by go_num, by rw [HSU.out]; show Value.int .i64 ((c.left - x : Nat) : Int) = Value.int .i64 ((c.left - min c.left (d - c.t b) : Nat) : Int); rw [← HXM.out], hid ⟨HI3.out.1, by rw [HSU.out, ← ckX_take, ← HXM.out]; exact HI3.out.2⟩⟩
              case measure => simp [intOf]; omega
        · obtain rfl : j = o.length := by omega
          rw [HCA.out] at HI2
          have hb3 := HI2.out.2
          have HB3 := hid hb3
          have c3 := cell_of hb3
          unfold a8 at c3
          obtain ⟨fn, tm, asg, bd, hy, hR⟩ := HY.out k (by rw [HLM.out]; exact hlt) wr HI2.out.1
          rw [HGE.out k hlt] at hy
          unfold a8 tk at hy
          have HR := hid hR
          clear hR hb3 hwx
          gi_wp2_with fail
          clear hy c3
          refine HR.out.mono ?_
          rintro e W' ⟨hkt, ⟨rfl, hJ'⟩ | ⟨rfl, hJx'⟩⟩
          · have HN := hid (And.intro hJ' (hkt _ _ _ (Nat.le_refl _) HB3.out))
            clear hJ' hkt
            have hw2 : IntKind.i64.wrap ((10000 - (k : Int)) - 1) = 10000 - (k : Int) - 1 := by rw [IntKind.wrap_i64]; omega
            gi_wp2
            refine noGoto_end ?_
            gi_wp2
            refine ⟨⟨k + 1, by omega, by congr 1; omega, by rw [← HCA.out], HN⟩, ?_⟩
            simp [intOf]; omega
          · have HX' := hid hJx'
            clear hJx' hkt
            gi_wp2
            refine noGoto_ret ?_
            gi_wp2
            exact bodyPost_ret (v := .tuple #[]) (by simp [results, Try.results92, go_sem]) rfl ⟨⟨_, rfl⟩, .inr ⟨k, by rw [HLM.out]; exact hlt, HX'.out⟩⟩
    · have hge : ¬ s.least ≤ 10000 - (k : Int) := by omega
      obtain rfl : k = clkN s := by omega
      gi_wp2_with fail
      go_end0
      exact ⟨⟨_, rfl⟩, .inl (by rw [HLM.out]; exact HI.out.1)⟩

end Go.Proofs.Ytfkehbhlagpmcaa
