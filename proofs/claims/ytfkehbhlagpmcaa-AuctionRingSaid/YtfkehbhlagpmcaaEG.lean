/- The law AuctionRing. -/
import Derived.Test.YtfkehbhlagpmcaaEF
set_option linter.unusedSimpArgs false
set_option linter.unusedVariables false
namespace Go.Proofs.Ytfkehbhlagpmcaa
open Go Go.RowKit Go.Shelf
open Au
theorem Sell_all (v : Value) (s : Sal) (w : World) (hv : ListsAt w v s.offers) (hb : saleB s = true) (hn : 0 < s.offers.length) :
    Cal 15 #[saleV s v] w fun e w' => ∃ bd od cap, e = .returned (.tuple #[.slice (some ⟨bd, od, none⟩) s.offers.length cap, .int .i64 0]) ∧ Ext w w' ∧ Hid (s.offers.length ≤ cap ∧ bd < w'.heap.size ∧ ∀ k, k < s.offers.length → w'.cell? ⟨bd, od + k * 2, none⟩ = some (.int .i64 (gets s k : Int)) ∧ w'.cell? ⟨bd, od + k * 2 + 1, none⟩ = some (.int .i64 (pays s k))) := by
  refine (Sell_ok v s w hv hb).mono fun e w' ⟨r, h1, h2, h3, _⟩ => ?_
  obtain ⟨a, cap, rfl, hl, hc⟩ := h3
  obtain ⟨bd, od, rfl, hbd, c0, c1⟩ := hc 0 (by rw [sellL_len]; exact hn)
  rw [sellL_len] at h1 hl
  refine ⟨bd, od, cap, h1, h2, by omega, hbd, fun k hk => ?_⟩
  obtain ⟨b', o', e', _, d0, d1⟩ := hc k (by rw [sellL_len]; exact hk)
  cases e'
  rw [sellL_at s hk] at d0 d1
  exact ⟨d0, d1⟩
def sumG (s : Sal) (m : List Nat) : Nat := (m.map fun i => gets s i).sum
def sumOwn (s : Sal) (m : List Nat) : Int := (m.map fun i => Au.own s i).sum
theorem sumG_snoc (s : Sal) (m : List Nat) (k : Nat) : sumG s (m ++ [k]) = sumG s m + gets s k := by simp [sumG]
theorem sumOwn_snoc (s : Sal) (m : List Nat) (k : Nat) : sumOwn s (m ++ [k]) = sumOwn s m + Au.own s k := by simp [sumOwn]
def sumV (s : Sal) (r : List (Nat × Nat)) : Int := (r.map fun p => valF (s.of p.1) p.2 0).sum
set_option maxRecDepth 100000 in
set_option maxHeartbeats 8000000 in
theorem AuctionRing_any (s : Sal) (v : Value) (kk : Int) (wv : Value) (wl : List Int) (w : World) (hv : ListsAt w v s.offers) (hwv : IntsAt w wv wl) :
    Cal 9 #[saleV s v, .int .i64 kk, wv] w fun e w' => e = .returned (.bool true) ∧ Ext w w' := by
  have HS := hid (fun (u : World) (hu : Ext w u) => sound_any v s u (hv.mono hu))
  cases hb : saleB s with
  | false =>
    rw [hb] at HS
    obtain ⟨a, cap, rfl, ⟨hcap, hlen⟩, _⟩ := hv
    unfold saleV at *
    clear hb
    gi_enter Try.func9, Try.ntmps9
    gi_wp2_with (first | (gi_at_call 34; ((with_reducible refine (HS.out _ ((Ext.refl _).alloc _)).mono ?_); rintro e w1 ⟨rfl, hx1⟩; have HX1 := hid (((Ext.refl w).alloc _).trans hx1); clear hx1)) | (gi_at_call 22; ((with_reducible refine (works_any _).mono ?_); rintro e w2 ⟨rfl, hx2⟩)))
    go_ret
    exact ⟨rfl, HX1.out.trans hx2⟩
  | true =>
    rw [hb] at HS
    have ho := sale_ok hb
    have hn := ho.n
    have HOK := hid ho
    have HSL := hid (fun (u : World) (hu : Ext w u) => Sell_all v s u (hv.mono hu) hb (by omega))
    have HGF := hid (fun (k : Nat) (h : k < s.offers.length) => show inB (gets s k : Int) 0 (s.offers[k].length : Int) = true ∧ gets s k ≤ 40 ∧ s.offers[k].length ≤ 40 ∧ (∀ i, i < s.offers[k].length → 0 ≤ s.offers[k].getD i 0 ∧ s.offers[k].getD i 0 ≤ 10000) ∧ valF s.offers[k] (gets s k) 0 = Au.own s k from by
      have h1 := (wn_of ho k).1
      have h2 := (ho.fall k).len
      have h3 := (ho.fall k).low
      have h4 : valF (s.of k) (gets s k) 0 = Au.own s k := by
        unfold Au.own
        exact valF_take (fun i hi => (h3 i hi).1) h1
      rw [of_get h] at h1 h2 h3 h4
      exact ⟨by unfold inB; simp; omega, by omega, h2, h3, h4⟩)
    have HOB := hid (fun k => own_bound ho k)
    obtain ⟨a, cap, rfl, ⟨hcap, hlen⟩, hc⟩ := id hv
    obtain ⟨b, off, uj, rfl, hbb, _, _⟩ := hc 0 (by omega)
    have HC := hid hc
    have HBB0 := hid hbb
    unfold saleV at *
    clear hb ho hc hv hbb
    gi_enter Try.func9, Try.ntmps9
    gi_upto_region 8 with (first | (gi_at_call 34; ((with_reducible refine (HS.out _ ((Ext.refl _).alloc _)).mono ?_); rintro e w1 ⟨rfl, hx1⟩; have HX1 := hid (((Ext.refl w).alloc _).trans hx1); have H31 := hid (hx1.block (Ext.new (Ext.refl _))); have c31 := cell_of H31.out; clear hx1)) | (gi_at_call 15; ((with_reducible refine (HSL.out _ HX1.out).mono ?_); rintro e w2 ⟨bd, od, cd, rfl, hx2, hd2⟩; have HX2 := hid (HX1.out.trans hx2); have H32 := hid (hx2.block H31.out); have c32 := cell_of H32.out; have hcd := hd2.out.1; clear hx2 c31)))
    have hG0 : Hid (sumG s [] = 0 ∧ sumOwn s [] = 0) := hid ⟨rfl, rfl⟩
    clear HSL HS HX1 H31 c32
    gi_wp2_with fail
    gi_loopw [9, 10, 11, 12] (fun t q x i wr => ∃ (k : Nat) (m : List Nat), k ≤ s.offers.length ∧ i = .int .i64 k ∧ t = .int .i64 (sumG s m : Int) ∧ q = .int .i64 (sumOwn s m) ∧ Hid (Ext w2 wr ∧ Row wr 3 1 x m.length (natsV m) ∧ (∀ g, x.ownBlock = some g → w2.heap.size ≤ g) ∧ (∀ j ∈ m, j < k) ∧ m.length ≤ k ∧ sumG s m ≤ 40 * k ∧ -(1000000000 * (k : Int)) ≤ sumOwn s m ∧ sumOwn s m ≤ 1000000000 * (k : Int))) (fun _ _ _ i _ => s.offers.length - (intOf i).toNat)
    case atStart => exact ⟨0, [], Nat.zero_le _, rfl, by rw [hG0.out.1]; rfl, by rw [hG0.out.2], hid ⟨Ext.refl _, ⟨rfl, .inl ⟨rfl, rfl⟩⟩, (fun g hg => by cases hg), (fun j hj => by cases hj), Nat.zero_le _, by rw [hG0.out.1]; omega, by rw [hG0.out.2]; omega, by rw [hG0.out.2]; omega⟩⟩
    case round =>
      obtain ⟨k, m, hk, rfl, rfl, rfl, HI⟩ := hrel
      have HX := hid HI.out.1
      have HROW := hid HI.out.2.1
      have HOWN := hid HI.out.2.2.1
      have HMM := hid HI.out.2.2.2.1
      have HNB := hid HI.out.2.2.2.2
      clear HI
      have hbb2 : b < wr.heap.size := Nat.lt_of_lt_of_le HBB0.out (HX2.out.trans HX.out).size
      have HB3 := hid (HX.out.block H32.out)
      by_cases hlt : k < s.offers.length
      · obtain ⟨b', off', uk, e, hbbk, hck, huk⟩ := HC.out k hlt
        cases e
        have huk0 := huk
        have HK0 := hid (And.intro hck hbbk)
        have HDK0 := hid (hd2.out.2.2 k hlt).1
        have HCK := hid (((HX2.out.trans HX.out).cell (p := ⟨b, _, none⟩) hbbk).trans hck)
        obtain ⟨ak, ck, rfl, ⟨hck2, hlk⟩, -⟩ := huk
        have HDK := hid ((HX.out.cell (p := ⟨bd, _, none⟩) hd2.out.2.1).trans (hd2.out.2.2 k hlt).1)
        have HBD := hid (Nat.lt_of_lt_of_le hd2.out.2.1 HX.out.size)
        have HBB := hid hbb2
        have hgf := HGF.out k hlt
        have HIN := hid hgf.1
        have HVA := hid (fun (u : World) (q : Value) (hq : IntsAt u q s.offers[k]) => value_any q s.offers[k] (gets s k) 0 u hq hgf.2.2.2.1 (by omega) (by omega))
        rw [hgf.2.2.2.2] at HVA
        have HVAL := hid (fun (u : World) (hu : Ext w u) => HVA.out u _ (huk0.mono hu))
        have HSG := hid (sumG_snoc s m k)
        have HSO := hid (sumOwn_snoc s m k)
        have hgk := hgf.2.1
        have hob := HOB.out k
        have hnb := HNB.out
        clear hck hbbk HVA huk0 hgf hbb2
        generalize s.offers[k] = lk at *
        generalize gets s k = G at *
        generalize Au.own s k = V at *
        generalize hT : sumG s m = T at *
        generalize hO : sumOwn s m = O at *
        have HTT := hid hT
        have HOO := hid hO
        clear hT hO
        have HGB := hid (And.intro hgk (And.intro hob hnb))
        clear hgk hob hnb HNB
        gi_wp2_with fail
        refine lex_wide 13 [] (by kernel_rfl) (by kernel_rfl) nStab_nil ?_
        simp only [List.take_succ_cons, List.take_zero, List.drop_succ_cons, List.drop_zero]
        apply lex_fun (rfl : psAt _ _ = none)
        · intro x u hR hf
          clear hR hf
          go_simp
          first | exact ⟨rfl, Ext.refl _⟩ | rfl
        simp only [Act.put, List.setIfInBounds_toArray, List.set_cons_succ, List.set_cons_zero]
        apply lex_fun (rfl : psAt _ _ = none)
        · intro x u hR hf
          clear hR hf
          go_simp
          first | exact ⟨rfl, Ext.refl _⟩ | rfl
        simp only [Act.put, List.setIfInBounds_toArray, List.set_cons_succ, List.set_cons_zero]
        apply lex_fun (rfl : psAt _ _ = none)
        · intro x u hR hf
          clear hR hf
          go_simp
          first | exact ⟨rfl, Ext.refl _⟩ | rfl
        simp only [Act.put, List.setIfInBounds_toArray, List.set_cons_succ, List.set_cons_zero]
        apply lex_fun (rfl : psAt _ _ = none)
        · intro x u hR hf
          clear hR hf
          go_simp
          first | exact ⟨rfl, Ext.refl _⟩ | rfl
        simp only [Act.put, List.setIfInBounds_toArray, List.set_cons_succ, List.set_cons_zero]
        apply lex_fun (rfl : psAt _ _ = none)
        · intro x u hR hf
          have c0 := HDK.out
          rw [← hR.cell (p := ⟨bd, _, none⟩) HBD.out] at c0
          clear hR hf
          go_simp
          first | exact ⟨rfl, Ext.refl _⟩ | rfl
        simp only [Act.put, List.setIfInBounds_toArray, List.set_cons_succ, List.set_cons_zero]
        apply lex_fun (rfl : psAt _ _ = none)
        · intro x u hR hf
          clear hR hf
          go_simp
          first | exact ⟨rfl, Ext.refl _⟩ | rfl
        simp only [Act.put, List.setIfInBounds_toArray, List.set_cons_succ, List.set_cons_zero]
        apply lex_fun (rfl : psAt _ _ = none)
        · intro x u hR hf
          have c0 := cell_of (hR.block HB3.out)
          clear hR hf
          go_simp
          first | exact ⟨rfl, Ext.refl _⟩ | rfl
        simp only [Act.put, List.setIfInBounds_toArray, List.set_cons_succ, List.set_cons_zero]
        apply lex_fun (rfl : psAt _ _ = none)
        · intro x u hR hf
          clear hR hf
          go_simp
          first | exact ⟨rfl, Ext.refl _⟩ | rfl
        simp only [Act.put, List.setIfInBounds_toArray, List.set_cons_succ, List.set_cons_zero]
        apply lex_fun (rfl : psAt _ _ = none)
        · intro x u hR hf
          clear hR hf
          go_simp
          first | exact ⟨rfl, Ext.refl _⟩ | rfl
        simp only [Act.put, List.setIfInBounds_toArray, List.set_cons_succ, List.set_cons_zero]
        apply lex_fun (rfl : psAt _ _ = none)
        · intro x u hR hf
          have c0 := HCK.out
          rw [← hR.cell (p := ⟨b, _, none⟩) HBB.out] at c0
          clear hR hf
          go_simp
          first | exact ⟨rfl, Ext.refl _⟩ | rfl
        simp only [Act.put, List.setIfInBounds_toArray, List.set_cons_succ, List.set_cons_zero]
        apply lex_fun (rfl : psAt _ _ = none)
        · intro x u hR hf
          clear hR hf
          go_simp
          first | exact ⟨rfl, Ext.refl _⟩ | rfl
        simp only [Act.put, List.setIfInBounds_toArray, List.set_cons_succ, List.set_cons_zero]
        refine lex_fun (v := .bool true) (rfl : psAt _ _ = none) ?_ ?_
        · intro x u hR hf
          have hcal := hid (In_b _ _ _ true u HIN.out)
          clear hR hf
          go_simp
          exact hcal.out.mono fun e w'' ⟨he, hx'⟩ => ⟨_, he, rfl, by subst hx'; exact Ext.refl _⟩
        simp only [Act.put, List.setIfInBounds_toArray, List.set_cons_succ, List.set_cons_zero]
        apply lex_fun (rfl : psAt _ _ = none)
        · intro x u hR hf
          clear hR hf
          go_simp
          first | exact ⟨rfl, Ext.refl _⟩ | rfl
        simp only [Act.put, List.setIfInBounds_toArray, List.set_cons_succ, List.set_cons_zero]
        refine lex_nil fun x9 w6 hE hfacts => ?_
        clear hfacts x9
        have HX6 := hid (HX.out.trans hE)
        have HROW6 := hid (HROW.out.mono hE)
        have hxn := (Ext.refl w6).alloc (.cells #[.int .i64 (k : Int)] 3)
        have HRA := hid (HROW6.out.mono hxn)
        have HXA := hid (HX6.out.trans hxn)
        have HNW : Hid (∀ j z, ([.int .i64 (k : Int)] : List Value)[j]? = some z → (w6.alloc (.cells #[.int .i64 (k : Int)] 3)).cell? ((⟨w6.heap.size, 0, none⟩ : Addr).add j) = some z) := fun j z hj => by rw [Addr.add_mid, Nat.zero_add, new_cell _ _ rfl]; simpa using hj
        obtain ⟨i0, hi0, hz0, hz1, hz2⟩ := info_parts info3
        have HZ := hid (And.intro hi0 (And.intro hz0 (And.intro hz1 hz2)))
        have hmax : m.length + 1 ≤ 1000000000 := by have := HGB.out.2.2.1; omega
        clear hi0 hz0 hz1 hz2 hxn hE HROW HX HCK HDK HBD HBB HB3
        have HMQ := hid (fun (x : Int) (u : World) => (mod_any x 2 u (by omega)).mono fun e w' (h : e = .returned (.int .i64 (modI x 2)) ∧ u = w') => (⟨_, h.1, h.2⟩ : ∃ q : Int, e = .returned (.int .i64 q) ∧ u = w'))
        have hwt : IntKind.i64.wrap ((T : Int) + (G : Int)) = (T : Int) + (G : Int) := by have := HGB.out; rw [IntKind.wrap_i64]; omega
        have HWO : Hid (IntKind.i64.wrap (O + V) = O + V) := hid (by have := HGB.out; rw [IntKind.wrap_i64]; omega)
        gi_wp2_with (first | (gi_at_call 36; ((with_reducible refine (HMQ.out _ _).mono ?_); rintro e w5 ⟨q, rfl, rfl⟩; rcases Bool.eq_false_or_eq_true (q == 1) with hqb | hqb)) | (refine wpIn_append_row (fun _ => trivial) rfl (.tmp 59) (.tmp 61) rfl Try.underlying35 HZ.out.1 HZ.out.2.1 HZ.out.2.2.1 HZ.out.2.2.2 (by simp [Value.cells]) (by omega) (v := u11) rfl HRA.out ⟨w6.heap.size, 0, none⟩ 1 rfl [.int .i64 (k : Int)] rfl HNW.out (fun u hu => by simp at hu; subst hu; rfl) hmax (by omega) ?_; intro v' w' hrow' hgr' how'; obtain ⟨sa', sn', sc', rfl⟩ := hrow'.isSlice; have HXN := hid (show Ext w2 w' from ext_grown HXA.out hgr' fun g hg => HOWN.out g hg); have hdk := (HXN.out.cell (p := ⟨bd, _, none⟩) hd2.out.2.1).trans HDK0.out; have hbd2 := Nat.lt_of_lt_of_le hd2.out.2.1 HXN.out.size))
        · have H3b := hid (HXN.out.block H32.out)
          have HDb := hid (And.intro hdk hbd2)
          have HKb := hid (And.intro (((HX2.out.trans HXN.out).cell (p := ⟨b, _, none⟩) HK0.out.2).trans HK0.out.1) (Nat.lt_of_lt_of_le HK0.out.2 (HX2.out.trans HXN.out).size))
          have hown' : Hid (∀ g, (Value.slice sa' sn' sc').ownBlock = some g → w2.heap.size ≤ g) := hid fun g hg => by
            rcases how' with e | e
            · exact HOWN.out g (by rw [← e]; exact hg)
            · rw [hg] at e; cases e; have := HX6.out.size; simp; omega
          have HRN := hid (show Row w' 3 1 (.slice sa' sn' sc') (m ++ [k]).length (natsV (m ++ [k])) from by rw [natsV_snoc, List.length_append]; exact hrow')
          clear hdk hbd2 hrow' hgr' how'
          refine lex_wide 13 [] (by kernel_rfl) (by kernel_rfl) nStab_nil ?_
          simp only [List.take_succ_cons, List.take_zero, List.drop_succ_cons, List.drop_zero]
          apply lex_fun (rfl : psAt _ _ = none)
          · intro x u hR hf
            clear hR hf
            go_simp
            first | exact ⟨rfl, Ext.refl _⟩ | rfl
          simp only [Act.put, List.setIfInBounds_toArray, List.set_cons_succ, List.set_cons_zero]
          apply lex_fun (rfl : psAt _ _ = none)
          · intro x u hR hf
            clear hR hf
            go_simp
            first | exact ⟨rfl, Ext.refl _⟩ | rfl
          simp only [Act.put, List.setIfInBounds_toArray, List.set_cons_succ, List.set_cons_zero]
          apply lex_fun (rfl : psAt _ _ = none)
          · intro x u hR hf
            have c0 := cell_of (hR.block H3b.out)
            clear hR hf
            go_simp
            first | exact ⟨rfl, Ext.refl _⟩ | rfl
          simp only [Act.put, List.setIfInBounds_toArray, List.set_cons_succ, List.set_cons_zero]
          apply lex_fun (rfl : psAt _ _ = none)
          · intro x u hR hf
            clear hR hf
            go_simp
            first | exact ⟨rfl, Ext.refl _⟩ | rfl
          simp only [Act.put, List.setIfInBounds_toArray, List.set_cons_succ, List.set_cons_zero]
          apply lex_fun (rfl : psAt _ _ = none)
          · intro x u hR hf
            clear hR hf
            go_simp
            first | exact ⟨rfl, Ext.refl _⟩ | rfl
          simp only [Act.put, List.setIfInBounds_toArray, List.set_cons_succ, List.set_cons_zero]
          apply lex_fun (rfl : psAt _ _ = none)
          · intro x u hR hf
            have c0 := HKb.out.1
            rw [← hR.cell (p := ⟨b, _, none⟩) HKb.out.2] at c0
            clear hR hf
            go_simp
            first | exact ⟨rfl, Ext.refl _⟩ | rfl
          simp only [Act.put, List.setIfInBounds_toArray, List.set_cons_succ, List.set_cons_zero]
          apply lex_fun (rfl : psAt _ _ = none)
          · intro x u hR hf
            clear hR hf
            go_simp
            first | exact ⟨rfl, Ext.refl _⟩ | rfl
          simp only [Act.put, List.setIfInBounds_toArray, List.set_cons_succ, List.set_cons_zero]
          apply lex_fun (rfl : psAt _ _ = none)
          · intro x u hR hf
            clear hR hf
            go_simp
            first | exact ⟨rfl, Ext.refl _⟩ | rfl
          simp only [Act.put, List.setIfInBounds_toArray, List.set_cons_succ, List.set_cons_zero]
          apply lex_fun (rfl : psAt _ _ = none)
          · intro x u hR hf
            clear hR hf
            go_simp
            first | exact ⟨rfl, Ext.refl _⟩ | rfl
          simp only [Act.put, List.setIfInBounds_toArray, List.set_cons_succ, List.set_cons_zero]
          apply lex_fun (rfl : psAt _ _ = none)
          · intro x u hR hf
            clear hR hf
            go_simp
            first | exact ⟨rfl, Ext.refl _⟩ | rfl
          simp only [Act.put, List.setIfInBounds_toArray, List.set_cons_succ, List.set_cons_zero]
          apply lex_fun (rfl : psAt _ _ = none)
          · intro x u hR hf
            have c0 := HDb.out.1
            rw [← hR.cell (p := ⟨bd, _, none⟩) HDb.out.2] at c0
            clear hR hf
            go_simp
            first | exact ⟨rfl, Ext.refl _⟩ | rfl
          simp only [Act.put, List.setIfInBounds_toArray, List.set_cons_succ, List.set_cons_zero]
          refine lex_fun (v := .int .i64 V) (rfl : psAt _ _ = none) ?_ ?_
          · intro x u hR hf
            have hcal := hid (HVAL.out u ((HX2.out.trans HXN.out).trans hR))
            clear hR hf
            go_simp
            exact hcal.out.mono fun e w'' ⟨he, hx'⟩ => ⟨_, he, rfl, by subst hx'; exact Ext.refl _⟩
          simp only [Act.put, List.setIfInBounds_toArray, List.set_cons_succ, List.set_cons_zero]
          apply lex_fun (rfl : psAt _ _ = none)
          · intro x u hR hf
            have hw := HWO.out
            clear hR hf
            go_simp
            first | exact ⟨rfl, Ext.refl _⟩ | rfl
          simp only [Act.put, List.setIfInBounds_toArray, List.set_cons_succ, List.set_cons_zero]
          refine lex_nil fun x9 w8 hE2 hfacts => ?_
          clear hfacts x9
          have HN := hid (And.intro (HXN.out.trans hE2) (And.intro (HRN.out.mono hE2) (And.intro hown'.out (And.intro (show ∀ j ∈ m ++ [k], j < k + 1 from fun j hj => by
            rcases List.mem_append.1 hj with h | h
            · have := HMM.out j h; omega
            · rw [List.mem_singleton] at h; omega) (show (m ++ [k]).length ≤ k + 1 from by rw [List.length_append, List.length_singleton]; have := HGB.out.2.2.1; omega)))))
          clear hE2
          gi_wp2
          go_roundw
          case rel => exact ⟨k + 1, m ++ [k], by omega, by go_num, by rw [HSG.out]; simp, by rw [HSO.out], hid ⟨HN.out.1, HN.out.2.1, HN.out.2.2.1, HN.out.2.2.2.1, HN.out.2.2.2.2, by rw [HSG.out]; have := HGB.out; omega, by rw [HSO.out]; have := HGB.out; omega, by rw [HSO.out]; have := HGB.out; omega⟩⟩
          case measure => simp [intOf]; omega
        · go_roundw
          case rel => exact ⟨k + 1, m, by omega, by go_num, by rw [HTT.out], by rw [HOO.out], hid ⟨HX6.out, HROW6.out, HOWN.out, fun j hj => by have := HMM.out j hj; omega, by have := HGB.out.2.2.1; omega, by rw [HTT.out]; have := HGB.out; omega, by rw [HOO.out]; have := HGB.out; omega, by rw [HOO.out]; have := HGB.out; omega⟩⟩
          case measure => simp [intOf]; omega
      · obtain rfl : k = s.offers.length := by omega
        have HG2 := hid (show ∀ i ∈ m, i < s.offers.length from HMM.out)
        have HIM := hid (ints_row (f := m) HROW.out (by have := HNB.out.1; omega))
        have hml := HNB.out.1
        have hTb := HNB.out.2.1
        generalize hT : sumG s m = T at *
        generalize hO : sumOwn s m = O at *
        have HTT := hid hT
        have HOO := hid hO
        clear hT hO HROW HOWN HNB HMM hbb2
        obtain ⟨am, cm, rfl, ⟨hcm, hlm⟩, hmc⟩ := HIM.out
        simp only [List.length_map] at hcm hlm
        have HMC : Hid (∀ i (h : i < m.length), ∃ b off, am = some ⟨b, off, none⟩ ∧ b < wr.heap.size ∧ wr.cell? ⟨b, off + i, none⟩ = some (.int .i64 (m[i] : Int))) := hid fun i hi => by
          obtain ⟨b, off, h1, h2, h3⟩ := hmc i (by simpa using hi)
          exact ⟨b, off, h1, h2, by rw [h3]; simp⟩
        clear hmc HIM
        gi_wp2_with fail
        obtain ⟨wo, hwo⟩ : ∃ wo, wo = wr := ⟨wr, rfl⟩
        subst hwo
        simp only [List.length_map]
        gi_loopw [9, 13, 14, 15] (fun t q i u15 wr => ∃ (j left : Nat) (r : List (Nat × Nat)), j ≤ m.length ∧ i = .int .i64 j ∧ t = .int .i64 (left : Int) ∧ q = .int .i64 (sumV s r) ∧ Hid (Ext wo wr ∧ r.map (·.1) = m.take j ∧ (r.map (·.2)).sum + left = T ∧ (j = m.length → m = [] ∨ left = 0) ∧ 0 ≤ sumV s r ∧ sumV s r ≤ 3300000 * (j : Int))) (fun _ _ i _ _ => m.length - (intOf i).toNat)
        case atStart => exact ⟨0, T, [], Nat.zero_le _, rfl, rfl, rfl, hid ⟨Ext.refl _, rfl, by simp, fun h => .inl (List.eq_nil_of_length_eq_zero h.symm), by simp [sumV], by simp [sumV]⟩⟩
        case round =>
          obtain ⟨j, left, r, hj, rfl, rfl, rfl, HI⟩ := hrel
          have HXo := hid HI.out.1
          have HR := hid HI.out.2
          clear HI
          by_cases hjl : j < m.length
          · obtain ⟨bm, om, e, hbm, hcm2⟩ := HMC.out j hjl
            subst e
            have hmn := HG2.out m[j] (List.getElem_mem _)
            obtain ⟨b', off', uk, e, hbbk, hck, huk⟩ := HC.out m[j] hmn
            cases e
            have huk0 := huk
            have HK0 := hid (And.intro hck hbbk)
            obtain ⟨ak, ck, rfl, ⟨hck2, hlk⟩, -⟩ := huk
            have HM0 := hid (And.intro hcm2 hbm)
            have hgf := HGF.out m[j] hmn
            have hmod := modI_ok (pickI wl j) (m := 6) (by omega)
            have HPI := hid (fun (u : World) (hu : Ext w u) => Pick_any wv wl j u (hwv.mono hu))
            have HMO := hid (fun (u : World) => mod_any (pickI wl j) 6 u (by omega))
            generalize modI (pickI wl j) 6 = P at *
            have HVF := hid (fun (x : Nat) (h : x ≤ 1000) (u : World) (q : Value) (hq : IntsAt u q s.offers[m[j]]) => value_any q s.offers[m[j]] x 0 u hq hgf.2.2.2.1 (by omega) h)
            have HVB := hid (fun (x : Nat) => valF_bd hgf.2.2.2.1 (c := 0) (by omega) x)
            have HRV := hid (show ∀ (r : List (Nat × Nat)) (x : Nat), sumV s (r ++ [(m[j], x)]) = sumV s r + valF s.offers[m[j]] x 0 from fun r x => by rw [← of_get hmn]; simp [sumV])
            have HTK := hid (show m.take (j + 1) = m.take j ++ [m[j]] from List.take_succ_eq_append_getElem hjl)
            have HVX := hid (fun (x : Nat) (h : x ≤ 1000) (u : World) (hu : Ext w u) => HVF.out x h u _ (huk0.mono hu))
            have hle : left ≤ T := by have := HR.out.2.1; omega
            have hjn : j < 8 := by omega
            clear hck hbbk huk0 hgf hcm2 HVF hbm
            generalize s.offers[m[j]] = lk at *
            generalize m[j] = mj at *
            by_cases hlast : j + 1 = m.length
            · have hjb : ((j : Int) + 1 == (m.length : Int)) = true := by rw [beq_iff_eq]; omega
              have hwj : IntKind.i64.wrap ((j : Int) + 1) = (j : Int) + 1 := by rw [IntKind.wrap_i64]; omega
              have HLA := hid hlast
              have HVY := hid (HVX.out left (by omega))
              have HYB := hid (HVB.out left)
              have HRVY := hid (HRV.out r left)
              have HXL : Hid (left ≤ left) := hid (by omega)
              have HVY := HVY.out
              generalize valF lk left 0 = Y at *
              generalize hq : sumV s r = q at *
              clear hq hlast HVX HVB HRV
              have HVY := hid HVY
              have HBD := hid (And.intro hle (And.intro hTb hjn))
              have HWY : Hid (IntKind.i64.wrap (q + Y) = q + Y) := hid (by have h1 := HR.out.2.2.2; have h2 := HYB.out; have h3 := HXL.out; rw [IntKind.wrap_i64]; omega)
              have hws : IntKind.i64.wrap ((left : Int) - (left : Int)) = (left : Int) - (left : Int) := by have h3 := HXL.out; rw [IntKind.wrap_i64]; omega
              gi_upto_region 24 with (first | (gi_at_call 37; ((with_reducible refine (HPI.out _ ((HX2.out.trans HX.out).trans HXo.out)).mono ?_); rintro e w3 ⟨rfl, hx3⟩)) | (gi_at_call 36; ((with_reducible refine (HMO.out _).mono ?_); rintro e w4 ⟨rfl, rfl⟩)))
              have HXc := hid (((HX2.out.trans HX.out).trans HXo.out).trans hx3)
              have HXp := hid (HXo.out.trans hx3)
              have H3c := hid ((HX.out.trans HXp.out).block H32.out)
              have HMc := hid (And.intro ((HXp.out.cell (p := ⟨bm, _, none⟩) HM0.out.2).trans HM0.out.1) (Nat.lt_of_lt_of_le HM0.out.2 HXp.out.size))
              have HKc := hid (And.intro ((HXc.out.cell (p := ⟨b, _, none⟩) HK0.out.2).trans HK0.out.1) (Nat.lt_of_lt_of_le HK0.out.2 HXc.out.size))
              clear hx3
              refine lex_wide 12 [] (by kernel_rfl) (by kernel_rfl) nStab_nil ?_
              simp only [List.take_succ_cons, List.take_zero, List.drop_succ_cons, List.drop_zero]
              apply lex_fun (rfl : psAt _ _ = none)
              · intro x u hR hf
                clear hR hf
                go_simp
                first | exact ⟨rfl, Ext.refl _⟩ | rfl
              simp only [Act.put, List.setIfInBounds_toArray, List.set_cons_succ, List.set_cons_zero]
              apply lex_fun (rfl : psAt _ _ = none)
              · intro x u hR hf
                clear hR hf
                go_simp
                first | exact ⟨rfl, Ext.refl _⟩ | rfl
              simp only [Act.put, List.setIfInBounds_toArray, List.set_cons_succ, List.set_cons_zero]
              apply lex_fun (rfl : psAt _ _ = none)
              · intro x u hR hf
                have c0 := cell_of (hR.block H3c.out)
                clear hR hf
                go_simp
                first | exact ⟨rfl, Ext.refl _⟩ | rfl
              simp only [Act.put, List.setIfInBounds_toArray, List.set_cons_succ, List.set_cons_zero]
              apply lex_fun (rfl : psAt _ _ = none)
              · intro x u hR hf
                clear hR hf
                go_simp
                first | exact ⟨rfl, Ext.refl _⟩ | rfl
              simp only [Act.put, List.setIfInBounds_toArray, List.set_cons_succ, List.set_cons_zero]
              apply lex_fun (rfl : psAt _ _ = none)
              · intro x u hR hf
                clear hR hf
                go_simp
                first | exact ⟨rfl, Ext.refl _⟩ | rfl
              simp only [Act.put, List.setIfInBounds_toArray, List.set_cons_succ, List.set_cons_zero]
              apply lex_fun (rfl : psAt _ _ = none)
              · intro x u hR hf
                clear hR hf
                go_simp
                first | exact ⟨rfl, Ext.refl _⟩ | rfl
              simp only [Act.put, List.setIfInBounds_toArray, List.set_cons_succ, List.set_cons_zero]
              apply lex_fun (rfl : psAt _ _ = none)
              · intro x u hR hf
                have c0 := HMc.out.1
                rw [← hR.cell (p := ⟨bm, _, none⟩) HMc.out.2] at c0
                clear hR hf
                go_simp
                first | exact ⟨rfl, Ext.refl _⟩ | rfl
              simp only [Act.put, List.setIfInBounds_toArray, List.set_cons_succ, List.set_cons_zero]
              apply lex_fun (rfl : psAt _ _ = none)
              · intro x u hR hf
                clear hR hf
                go_simp
                first | exact ⟨rfl, Ext.refl _⟩ | rfl
              simp only [Act.put, List.setIfInBounds_toArray, List.set_cons_succ, List.set_cons_zero]
              apply lex_fun (rfl : psAt _ _ = none)
              · intro x u hR hf
                have c0 := HKc.out.1
                rw [← hR.cell (p := ⟨b, _, none⟩) HKc.out.2] at c0
                clear hR hf
                go_simp
                first | exact ⟨rfl, Ext.refl _⟩ | rfl
              simp only [Act.put, List.setIfInBounds_toArray, List.set_cons_succ, List.set_cons_zero]
              apply lex_fun (rfl : psAt _ _ = none)
              · intro x u hR hf
                clear hR hf
                go_simp
                first | exact ⟨rfl, Ext.refl _⟩ | rfl
              simp only [Act.put, List.setIfInBounds_toArray, List.set_cons_succ, List.set_cons_zero]
              refine lex_fun (v := .int .i64 Y) (rfl : psAt _ _ = none) ?_ ?_
              · intro x u hR hf
                have hcal := hid (HVY.out u (HXc.out.trans hR))
                clear hR hf
                go_simp
                exact hcal.out.mono fun e w'' ⟨he, hx'⟩ => ⟨_, he, rfl, by subst hx'; exact Ext.refl _⟩
              simp only [Act.put, List.setIfInBounds_toArray, List.set_cons_succ, List.set_cons_zero]
              apply lex_fun (rfl : psAt _ _ = none)
              · intro x u hR hf
                have hw := HWY.out
                clear hR hf
                go_simp
                first | exact ⟨rfl, Ext.refl _⟩ | rfl
              simp only [Act.put, List.setIfInBounds_toArray, List.set_cons_succ, List.set_cons_zero]
              refine lex_nil fun x9 w6 hE hfacts => ?_
              clear hfacts x9
              have HXq := hid (HXp.out.trans hE)
              clear hE
              gi_wp2
              go_roundw
              case rel => exact ⟨j + 1, left - left, r ++ [(mj, left)], by omega, by go_num, by simp, by rw [HRVY.out], hid ⟨HXq.out, by rw [List.map_append, HR.out.1, HTK.out]; rfl, by (have h1 := HR.out.2.1; have h2 := HXL.out; rw [List.map_append, List.sum_append]; simp only [List.map_cons, List.map_nil, List.sum_cons, List.sum_nil]; omega), fun h => .inr (by omega), by rw [HRVY.out]; (have h1 := HR.out.2.2.2; have h2 := HYB.out; omega), by rw [HRVY.out]; (have h1 := HR.out.2.2.2; have h2 := HYB.out; have h3 := HXL.out; have h4 := HBD.out; omega)⟩⟩
              case measure => simp [intOf]; omega
            · have hjb : ((j : Int) + 1 == (m.length : Int)) = false := by rw [beq_eq_false_iff_ne]; omega
              have hwj : IntKind.i64.wrap ((j : Int) + 1) = (j : Int) + 1 := by rw [IntKind.wrap_i64]; omega
              have HLA := hid hlast
              obtain ⟨P, rfl⟩ : ∃ p : Nat, P = (p : Int) := ⟨P.toNat, by omega⟩
              have hmin : min (left : Int) (P : Int) = ((min left P : Nat) : Int) := by omega
              have HVY := hid (HVX.out (min left P) (by omega))
              have HYB := hid (HVB.out (min left P))
              have HRVY := hid (HRV.out r (min left P))
              have HXL : Hid ((min left P) ≤ left) := hid (by omega)
              generalize min left P = X at *
              have HVY := HVY.out
              generalize valF lk X 0 = Y at *
              generalize hq : sumV s r = q at *
              clear hq hlast HVX HVB HRV
              have HVY := hid HVY
              have HBD := hid (And.intro hle (And.intro hTb hjn))
              have HWY : Hid (IntKind.i64.wrap (q + Y) = q + Y) := hid (by have h1 := HR.out.2.2.2; have h2 := HYB.out; have h3 := HXL.out; rw [IntKind.wrap_i64]; omega)
              have hws : IntKind.i64.wrap ((left : Int) - (X : Int)) = (left : Int) - (X : Int) := by have h3 := HXL.out; rw [IntKind.wrap_i64]; omega
              gi_upto_region 24 with (first | (gi_at_call 37; ((with_reducible refine (HPI.out _ ((HX2.out.trans HX.out).trans HXo.out)).mono ?_); rintro e w3 ⟨rfl, hx3⟩)) | (gi_at_call 36; ((with_reducible refine (HMO.out _).mono ?_); rintro e w4 ⟨rfl, rfl⟩)))
              have HXc := hid (((HX2.out.trans HX.out).trans HXo.out).trans hx3)
              have HXp := hid (HXo.out.trans hx3)
              have H3c := hid ((HX.out.trans HXp.out).block H32.out)
              have HMc := hid (And.intro ((HXp.out.cell (p := ⟨bm, _, none⟩) HM0.out.2).trans HM0.out.1) (Nat.lt_of_lt_of_le HM0.out.2 HXp.out.size))
              have HKc := hid (And.intro ((HXc.out.cell (p := ⟨b, _, none⟩) HK0.out.2).trans HK0.out.1) (Nat.lt_of_lt_of_le HK0.out.2 HXc.out.size))
              clear hx3
              refine lex_wide 12 [] (by kernel_rfl) (by kernel_rfl) nStab_nil ?_
              simp only [List.take_succ_cons, List.take_zero, List.drop_succ_cons, List.drop_zero]
              apply lex_fun (rfl : psAt _ _ = none)
              · intro x u hR hf
                clear hR hf
                go_simp
                first | exact ⟨rfl, Ext.refl _⟩ | rfl
              simp only [Act.put, List.setIfInBounds_toArray, List.set_cons_succ, List.set_cons_zero]
              apply lex_fun (rfl : psAt _ _ = none)
              · intro x u hR hf
                clear hR hf
                go_simp
                first | exact ⟨rfl, Ext.refl _⟩ | rfl
              simp only [Act.put, List.setIfInBounds_toArray, List.set_cons_succ, List.set_cons_zero]
              apply lex_fun (rfl : psAt _ _ = none)
              · intro x u hR hf
                have c0 := cell_of (hR.block H3c.out)
                clear hR hf
                go_simp
                first | exact ⟨rfl, Ext.refl _⟩ | rfl
              simp only [Act.put, List.setIfInBounds_toArray, List.set_cons_succ, List.set_cons_zero]
              apply lex_fun (rfl : psAt _ _ = none)
              · intro x u hR hf
                clear hR hf
                go_simp
                first | exact ⟨rfl, Ext.refl _⟩ | rfl
              simp only [Act.put, List.setIfInBounds_toArray, List.set_cons_succ, List.set_cons_zero]
              apply lex_fun (rfl : psAt _ _ = none)
              · intro x u hR hf
                clear hR hf
                go_simp
                first | exact ⟨rfl, Ext.refl _⟩ | rfl
              simp only [Act.put, List.setIfInBounds_toArray, List.set_cons_succ, List.set_cons_zero]
              apply lex_fun (rfl : psAt _ _ = none)
              · intro x u hR hf
                clear hR hf
                go_simp
                first | exact ⟨rfl, Ext.refl _⟩ | rfl
              simp only [Act.put, List.setIfInBounds_toArray, List.set_cons_succ, List.set_cons_zero]
              apply lex_fun (rfl : psAt _ _ = none)
              · intro x u hR hf
                have c0 := HMc.out.1
                rw [← hR.cell (p := ⟨bm, _, none⟩) HMc.out.2] at c0
                clear hR hf
                go_simp
                first | exact ⟨rfl, Ext.refl _⟩ | rfl
              simp only [Act.put, List.setIfInBounds_toArray, List.set_cons_succ, List.set_cons_zero]
              apply lex_fun (rfl : psAt _ _ = none)
              · intro x u hR hf
                clear hR hf
                go_simp
                first | exact ⟨rfl, Ext.refl _⟩ | rfl
              simp only [Act.put, List.setIfInBounds_toArray, List.set_cons_succ, List.set_cons_zero]
              apply lex_fun (rfl : psAt _ _ = none)
              · intro x u hR hf
                have c0 := HKc.out.1
                rw [← hR.cell (p := ⟨b, _, none⟩) HKc.out.2] at c0
                clear hR hf
                go_simp
                first | exact ⟨rfl, Ext.refl _⟩ | rfl
              simp only [Act.put, List.setIfInBounds_toArray, List.set_cons_succ, List.set_cons_zero]
              apply lex_fun (rfl : psAt _ _ = none)
              · intro x u hR hf
                clear hR hf
                go_simp
                first | exact ⟨rfl, Ext.refl _⟩ | rfl
              simp only [Act.put, List.setIfInBounds_toArray, List.set_cons_succ, List.set_cons_zero]
              refine lex_fun (v := .int .i64 Y) (rfl : psAt _ _ = none) ?_ ?_
              · intro x u hR hf
                have hcal := hid (HVY.out u (HXc.out.trans hR))
                clear hR hf
                go_simp
                exact hcal.out.mono fun e w'' ⟨he, hx'⟩ => ⟨_, he, rfl, by subst hx'; exact Ext.refl _⟩
              simp only [Act.put, List.setIfInBounds_toArray, List.set_cons_succ, List.set_cons_zero]
              apply lex_fun (rfl : psAt _ _ = none)
              · intro x u hR hf
                have hw := HWY.out
                clear hR hf
                go_simp
                first | exact ⟨rfl, Ext.refl _⟩ | rfl
              simp only [Act.put, List.setIfInBounds_toArray, List.set_cons_succ, List.set_cons_zero]
              refine lex_nil fun x9 w6 hE hfacts => ?_
              clear hfacts x9
              have HXq := hid (HXp.out.trans hE)
              clear hE
              gi_wp2
              go_roundw
              case rel => exact ⟨j + 1, left - X, r ++ [(mj, X)], by omega, by go_num, by rw [show ((left - X : Nat) : Int) = (left : Int) - (X : Int) from by have := HXL.out; omega], by rw [HRVY.out], hid ⟨HXq.out, by rw [List.map_append, HR.out.1, HTK.out]; rfl, by (have h1 := HR.out.2.1; have h2 := HXL.out; rw [List.map_append, List.sum_append]; simp only [List.map_cons, List.map_nil, List.sum_cons, List.sum_nil]; omega), fun h => absurd h HLA.out, by rw [HRVY.out]; (have h1 := HR.out.2.2.2; have h2 := HYB.out; omega), by rw [HRVY.out]; (have h1 := HR.out.2.2.2; have h2 := HYB.out; have h3 := HXL.out; have h4 := HBD.out; omega)⟩⟩
              case measure => simp [intOf]; omega
          · obtain rfl : j = m.length := by omega
            have hz : left = 0 := by
              rcases HR.out.2.2.1 rfl with h | h
              · have h1 := HR.out.2.1
                have h2 := HTT.out
                have h3 := HR.out.1
                rw [h] at h2 h3
                simp [sumG] at h2 h3
                rw [h3] at h1; simp at h1; omega
              · exact h
            have hle : sumV s r ≤ O := by
              have hr := Au.ring HOK.out r (fun p hp => by
                have : p.1 ∈ r.map (·.1) := List.mem_map.2 ⟨p, hp, rfl⟩
                rw [HR.out.1, List.take_length] at this
                exact HG2.out _ this) (by
                have h1 := HR.out.2.1
                have h2 := HTT.out
                have h4 : (r.map fun p => (gets s p.1 : Int)) = (r.map (·.1)).map fun i => (gets s i : Int) := by simp [Function.comp_def]
                have h5 : (r.map fun p => (p.2 : Int)) = (r.map (·.2)).map fun i : Nat => (i : Int) := by simp [Function.comp_def]
                have h6 : ∀ l : List Nat, (l.map fun i : Nat => (i : Int)).sum = ((l.sum : Nat) : Int) := fun l => by induction l with
                  | nil => rfl
                  | cons a l ih => simp [ih]
                have h7 : (m.map fun i => (gets s i : Int)) = (m.map fun i => gets s i).map fun i : Nat => (i : Int) := by simp [Function.comp_def]
                rw [h4, h5, h6, HR.out.1, List.take_length, h7, h6]
                unfold sumG at h2
                rw [h2]; omega)
              have h8 : (r.map fun p => Au.own s p.1) = (r.map (·.1)).map fun i => Au.own s i := by simp [Function.comp_def]
              rw [h8, HR.out.1, List.take_length] at hr
              have h9 := HOO.out
              unfold sumOwn at h9
              rw [h9] at hr
              exact hr
            have HXF := hid ((HX2.out.trans HX.out).trans HXo.out)
            generalize sumV s r = q at *
            have hd1 : decide (q ≤ O) = true := decide_eq_true hle
            clear HR
            gi_wp2_with (gi_at_call 22; ((with_reducible refine (works_any _).mono ?_); rintro e w7 ⟨rfl, hx7⟩))
            go_ret
            exact ⟨rfl, HXF.out.trans hx7⟩

end Go.Proofs.Ytfkehbhlagpmcaa
