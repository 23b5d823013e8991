/- The law AuctionPays. -/
import Derived.Test.YtfkehbhlagpmcaaED
import Derived.Test.YtfkehbhlagpmcaaEC
set_option linter.unusedSimpArgs false
set_option linter.unusedVariables false
namespace Go.Proofs.Ytfkehbhlagpmcaa
open Go Go.RowKit Go.Shelf
open Au
theorem worth_bound {s : Sal} (ho : Ok s) : -1000000000 ≤ worth s ∧ worth s ≤ 1000000000 := by
  have hl := wn_length ho
  have hcr := ho.crans
  have hle := ho.least
  have hsb := wn_bound ho
  have hm := mul_small hle (m := 40) (b := s.crans - ((wn s).length : Int)) (by omega)
  unfold worth
  omega
theorem own_bound {s : Sal} (ho : Ok s) (i : Nat) : -1000000000 ≤ Au.own s i ∧ Au.own s i ≤ 1000000000 := by
  unfold Au.own
  have hf := ho.fall i
  have := sum_within (M := 10000) (by omega) ((s.of i).take (gets s i)) (fun x hx => by
    obtain ⟨k, hk, rfl⟩ := List.getElem_of_mem (List.mem_of_mem_take hx)
    have := hf.low k hk
    rw [getD_of hk] at this
    omega)
  have hl : ((s.of i).take (gets s i)).length ≤ 40 := by rw [List.length_take]; have := hf.len; omega
  omega
theorem sellL_len (s : Sal) : (sellL s).length = s.offers.length := by simp [sellL, dealsL]
theorem sellL_at (s : Sal) {j : Nat} (h : j < s.offers.length) : (sellL s)[j]'(by rw [sellL_len]; exact h) = ⟨gets s j, pays s j⟩ := by simp [sellL, dealsL]
theorem Sell_at (v : Value) (s : Sal) (w : World) (hv : ListsAt w v s.offers) (hb : saleB s = true) (j n : Nat) (hj : j < s.offers.length) (hn : s.offers.length = n) (G : Nat) (P : Int) (hG : gets s j = G) (hP : pays s j = P) :
    Cal 15 #[saleV s v] w fun e w' => ∃ bd od cap, e = .returned (.tuple #[.slice (some ⟨bd, od, none⟩) n cap, .int .i64 0]) ∧ Ext w w' ∧ Hid (n ≤ cap ∧ bd < w'.heap.size ∧ w'.cell? ⟨bd, od + j * 2, none⟩ = some (.int .i64 (G : Int)) ∧ w'.cell? ⟨bd, od + j * 2 + 1, none⟩ = some (.int .i64 P)) := by
  refine (Sell_ok v s w hv hb).mono fun e w' ⟨r, h1, h2, h3, _⟩ => ?_
  subst hG; subst hP
  obtain ⟨a, cap, rfl, hl, hc⟩ := h3
  obtain ⟨bd, od, rfl, hbd, c0, c1⟩ := hc j (by rw [sellL_len]; exact hj)
  rw [sellL_at s hj] at c0 c1
  rw [sellL_len] at h1 hl
  exact ⟨bd, od, cap, by rw [h1, hn], h2, by omega, hbd, c0, c1⟩
set_option maxRecDepth 100000 in
set_option maxHeartbeats 8000000 in
theorem AuctionPays_any (s : Sal) (v : Value) (k : Int) (w : World) (hv : ListsAt w v s.offers) :
    Cal 10 #[saleV s v, .int .i64 k] w fun e w' => e = .returned (.bool true) ∧ Ext w w' := by
  have HS := hid (fun (u : World) (hu : Ext w u) => sound_any v s u (hv.mono hu))
  cases hb : saleB s with
  | false =>
    rw [hb] at HS
    obtain ⟨a, cap, rfl, ⟨hcap, hlen⟩, _⟩ := hv
    unfold saleV at *
    clear hb
    gi_enter Try.func10, Try.ntmps10
    gi_wp2_with (first | (gi_at_call 34; ((with_reducible refine (HS.out _ ((Ext.refl _).alloc _)).mono ?_); rintro e w1 ⟨rfl, hx1⟩; have HX1 := hid (((Ext.refl w).alloc _).trans hx1); clear hx1)) | (gi_at_call 22; ((with_reducible refine (works_any _).mono ?_); rintro e w2 ⟨rfl, hx2⟩)))
    go_ret
    exact ⟨rfl, HX1.out.trans hx2⟩
  | true =>
    rw [hb] at HS
    have ho := sale_ok hb
    have hn := ho.n
    have hmo := modI_ok k (m := (s.offers.length : Int)) (by omega)
    obtain ⟨j, hj⟩ : ∃ j : Nat, modI k s.offers.length = j := ⟨(modI k s.offers.length).toNat, by omega⟩
    have hjl : j < s.offers.length := by omega
    have HM := hid (fun (u : World) => mod_any k (s.offers.length : Int) u (by omega))
    rw [hj] at HM
    have hw2 : Ok (without s j) := by
      refine ⟨ho.crans, ho.least, by show _ ∧ (s.offers.set j []).length ≤ 8; rw [show (without s j).offers = s.offers.set j [] from rfl, List.length_set]; exact ho.n, fun i => ?_⟩
      show Fall (Sal.of { s with offers := s.offers.set j [] } i)
      rw [of_set hjl]
      split
      · exact Fall.nil
      · exact ho.fall i
    have hb2 := sale_iff.2 hw2
    have hg2 : gets (without s j) j = 0 := by
      have := (wn_of hw2 j).1
      rw [show (without s j).of j = [] from (of_set hjl [] j).trans (if_pos rfl)] at this
      simpa using this
    have hgl := (wn_of ho j).1
    have hpe := pays_eq ho j
    have hw1b := worth_bound ho
    have hw2b := worth_bound hw2
    have hob := own_bound ho j
    have hval : valF (s.of j) (gets s j) 0 = Au.own s j := by
      unfold Au.own
      exact valF_take (fun i hi => ((ho.fall j).low i hi).1) hgl
    have hpn := pays_none ho (i := j)
    have hfl := (ho.fall j).len
    rw [hpe] at hpn
    have HVAL := hid (fun (u : World) (q : Value) (hq : IntsAt u q (s.of j)) => value_any q (s.of j) (gets s j) 0 u hq (fun i hi => (ho.fall j).low i hi) (by omega) (by omega))
    rw [hval, of_get hjl] at HVAL
    rw [of_get hjl] at hgl hfl
    have HIN : Hid (inB (gets s j : Int) 0 (s.offers[j].length : Int) = true) := hid (by unfold inB; simp; omega)
    have HG1 := hid (fun (u : World) (hu : Ext w u) => Sell_at v s u (hv.mono hu) hb j _ hjl rfl _ _ rfl hpe)
    have HW1 := hid (fun (u : World) (hu : Ext w u) => Worth_ok v s u (hv.mono hu) hb)
    have HG2 := hid (fun (u : World) (r : Value) (hr : ListsAt u r (s.offers.set j [])) => Sell_at r (without s j) u hr hb2 j s.offers.length (by show j < (s.offers.set j []).length; rw [List.length_set]; exact hjl) (by show (s.offers.set j []).length = _; rw [List.length_set]) 0 0 hg2 (pays_none hw2 hg2))
    have HW2 := hid (fun (u : World) (r : Value) (hr : ListsAt u r (s.offers.set j [])) => Worth_ok r (without s j) u hr hb2)
    unfold saleV at HG2 HW2
    rw [show (without s j).crans = s.crans from rfl, show (without s j).least = s.least from rfl] at HG2 HW2
    generalize worth (without s j) = W2 at *
    generalize worth s = W1 at *
    generalize Au.own s j = V at *
    generalize gets s j = G at *
    have HV := hid hv
    obtain ⟨a, cap, rfl, ⟨hcap, hlen⟩, hc⟩ := hv
    obtain ⟨b, off, uj, rfl, hbb, hck, huj⟩ := hc j hjl
    have HUJ := hid huj
    obtain ⟨aj, cj, rfl, ⟨hcj, hlj⟩, -⟩ := huj
    have HVAL := hid (fun (u : World) (hu : Ext w u) => HVAL.out u _ (HUJ.out.mono hu))
    have HCK := hid (fun (u : World) (hu : Ext w u) => (hu.cell (p := ⟨b, off + j, none⟩) hbb).trans hck)
    unfold saleV at *
    clear hpe hval hg2 hw2 hb hb2 ho hmo hj hc hck hfl
    generalize s.offers[j] = lj at *
    generalize s.crans = cr at *
    generalize s.least = le at *
    generalize s.offers = ls at *
    have HPN := hid hpn
    have HWB := hid (And.intro hw1b (And.intro hw2b hob))
    clear hpn hw1b hw2b hob hgl
    gi_enter Try.func10, Try.ntmps10
    gi_upto_region 4 with (first | (gi_at_call 34; ((with_reducible refine (HS.out _ ((Ext.refl _).alloc _)).mono ?_); rintro e w1 ⟨rfl, hx1⟩; have HX1 := hid (((Ext.refl w).alloc _).trans hx1); have hb24 := hx1.block (Ext.new (Ext.refl _)); have H24 := hid hb24; have c24 := cell_of H24.out; clear hx1 hb24)) | (gi_at_call 36; ((with_reducible refine (HM.out _).mono ?_); rintro e w4 ⟨rfl, rfl⟩)))
    gi_upto_region 5 with (fail)
    have h9 := Ext.new (w := w1) (o := .cells #[.int .i64 cr, .int .i64 le, .slice (some ⟨b, off, none⟩) ls.length cap] 24) (Ext.refl _)
    have hxW := (Ext.refl w1).alloc (.cells #[.int .i64 cr, .int .i64 le, .slice (some ⟨b, off, none⟩) ls.length cap] 24)
    have h3 := hxW.block H24.out
    have hlt3 := lt_of_block H24.out
    have HXW := hid (HX1.out.trans hxW)
    clear HX1 H24 c24 hxW
    generalize w1.alloc (.cells #[.int .i64 cr, .int .i64 le, .slice (some ⟨b, off, none⟩) ls.length cap] 24) = W at *
    generalize w1.heap.size = g9 at *
    have hlt9 := lt_of_block h9
    have hltW := lt_of_block h3
    obtain ⟨r, w2, us, hrun, hrow, hus, hx2, how⟩ := app_lists w W (some ⟨b, off, none⟩) cap ls HXW.out HV.out (by omega)
    obtain ⟨g, cap', cur, rfl, hg, hcap', hcur⟩ := row_blk hrow (by omega)
    have hgg := how g rfl
    have HRUN := hid hrun
    have k9 := hx2.block h9
    have k3 := hx2.block h3
    have c9 := cell_of k9
    have f9 := free_of k9
    have c3 := cell_of h3
    have cg := cell_of hg j
    have fg := free_of hg
    obtain ⟨u0, hu0, hu1⟩ := hus j hjl
    have hcu := hcur j (by omega)
    rw [hu0] at hcu
    obtain ⟨a0, c0, rfl, -⟩ := hu1
    rw [hcu] at cg
    have HG := hid hg
    have HU := hid (And.intro hus hcur)
    have HK := hid (And.intro k9 k3)
    have HX2 := hid (HXW.out.trans hx2)
    have hne1 : g ≠ g9 := by omega
    have hne2 : g ≠ w.heap.size := by omega
    have hne3 : w.heap.size ≠ g9 := by omega
    clear hrun hrow hus hx2 how hg hcur hu0 hcu k9 k3 h3 h9
    gi_upto_region 6 with (refine wpIn_append_at (fun _ => trivial) rfl (W.alloc (.cells #[] 35)) (.tmp 25) (.tmp 27) 22 rfl (by with_reducible rfl) HRUN.out rfl rfl rfl ?_)
    gi_upto_region 7 with (fail)
    have d9 := HK.out.1
    have d3 := HK.out.2
    have dg := HG.out
    rw [← set_other (w := w2) (g := g9) (k := w.heap.size) hne3 2 (.slice (some ⟨g, 0, none⟩) ls.length cap')] at d3
    rw [← set_other (w := w2) (g := g9) (k := g) hne1 2 (.slice (some ⟨g, 0, none⟩) ls.length cap')] at dg
    have d9 := set_same d9 2 (.slice (some ⟨g, 0, none⟩) ls.length cap')
    have x0 := HX2.out.set (b := g9) (by omega) 2 (.slice (some ⟨g, 0, none⟩) ls.length cap')
    generalize w2.setCell ⟨g9, 2, none⟩ (.slice (some ⟨g, 0, none⟩) ls.length cap') = w3 at *
    rw [← set_other (w := w3) (g := g) (k := w.heap.size) (by omega) j (.slice none 0 0)] at d3
    rw [← set_other (w := w3) (g := g) (k := g9) (by omega) j (.slice none 0 0)] at d9
    have dg := set_same dg j (.slice none 0 0)
    have x1 := x0.set (b := g) (by omega) j (.slice none 0 0)
    generalize w3.setCell ⟨g, j, none⟩ (.slice none 0 0) = w4 at *
    simp only [List.setIfInBounds_toArray, List.set_cons_succ, List.set_cons_zero] at d9
    have HL := hid (lists_put (w := w) (us := us) (cap := cap') (ls := ls) (i := j) (v := .slice none 0 0) (l := []) x1 dg (fun i hi => HU.out.2 i (by omega)) (fun i hi => (HU.out.1 i hi).imp fun u hu => hu) (by omega) (⟨none, 0, rfl, by simp, fun k hk => by simp at hk⟩ : IntsAt w (.slice none 0 0) []))
    have HX4 := hid x1
    have H9 := hid d9
    have H3 := hid d3
    have c3' := cell_of d3
    clear d9 d3 dg x0 x1 c9 f9 c3 cg fg HG HK HU HX2 HXW HRUN
    gi_upto_region 8 with (gi_at_call 15; ((with_reducible refine (HG1.out _ HX4.out).mono ?_); rintro e w5 ⟨bd, od, cd, rfl, hx5, hd5⟩; have HX5 := hid (HX4.out.trans hx5); have H35 := hid (hx5.block H3.out); have H95 := hid (hx5.block H9.out); have HL5 := hid (HL.out.mono hx5); have c35 := cell_of H35.out; clear hx5 c3'))
    gi_upto_region 9 with (gi_at_call 20; ((with_reducible refine (HW1.out _ HX5.out).mono ?_); rintro e w6 ⟨rfl, hx6⟩; have HX6 := hid (HX5.out.trans hx6); have H36 := hid (hx6.block H35.out); have H96 := hid (hx6.block H95.out); have HL6 := hid (HL5.out.mono hx6); have c96 := cell_of H96.out; have HD6 := hid (And.intro hd5.out.1 (And.intro (Nat.lt_of_lt_of_le hd5.out.2.1 hx6.size) (And.intro ((hx6.cell (p := ⟨bd, _, none⟩) hd5.out.2.1).trans hd5.out.2.2.1) ((hx6.cell (p := ⟨bd, _, none⟩) hd5.out.2.1).trans hd5.out.2.2.2)))); clear hx6 c35 hd5))
    gi_upto_region 10 with (gi_at_call 20; ((with_reducible refine (HW2.out _ _ HL6.out).mono ?_); rintro e w7 ⟨rfl, hx7⟩; have HX7 := hid (HX6.out.trans hx7); have H37 := hid (hx7.block H36.out); have H97 := hid (hx7.block H96.out); have HL7 := hid (HL6.out.mono hx7); have HD7 := hid (And.intro HD6.out.1 (And.intro (Nat.lt_of_lt_of_le HD6.out.2.1 hx7.size) (And.intro ((hx7.cell (p := ⟨bd, _, none⟩) HD6.out.2.1).trans HD6.out.2.2.1) ((hx7.cell (p := ⟨bd, _, none⟩) HD6.out.2.1).trans HD6.out.2.2.2)))); clear hx7 c96))
    clear HX4 HX5 HX6 H35 H36 H95 H96 HL5 HL6 HD6 HL H9 H3
    have hcd := HD7.out.1
    refine lex_wide 33 [] (by kernel_rfl) (by kernel_rfl) nStab_nil ?_
    simp only [List.take_succ_cons, List.take_zero, List.drop_succ_cons, List.drop_zero]
    apply lex_fun (rfl : psAt _ _ = none)
    · intro x u hR hf
      clear hR hf
      go_simp
      first | exact ⟨rfl, Ext.refl _⟩ | rfl
    simp only [Act.put, List.setIfInBounds_toArray, List.set_cons_succ, List.set_cons_zero]
    apply lex_fun (rfl : psAt _ _ = none)
    · intro x u hR hf
      clear hR hf
      go_simp
      first | exact ⟨rfl, Ext.refl _⟩ | rfl
    simp only [Act.put, List.setIfInBounds_toArray, List.set_cons_succ, List.set_cons_zero]
    apply lex_fun (rfl : psAt _ _ = none)
    · intro x u hR hf
      clear hR hf
      go_simp
      first | exact ⟨rfl, Ext.refl _⟩ | rfl
    simp only [Act.put, List.setIfInBounds_toArray, List.set_cons_succ, List.set_cons_zero]
    apply lex_fun (rfl : psAt _ _ = none)
    · intro x u hR hf
      clear hR hf
      go_simp
      first | exact ⟨rfl, Ext.refl _⟩ | rfl
    simp only [Act.put, List.setIfInBounds_toArray, List.set_cons_succ, List.set_cons_zero]
    apply lex_fun (rfl : psAt _ _ = none)
    · intro x u hR hf
      clear hR hf
      go_simp
      first | exact ⟨rfl, Ext.refl _⟩ | rfl
    simp only [Act.put, List.setIfInBounds_toArray, List.set_cons_succ, List.set_cons_zero]
    apply lex_fun (rfl : psAt _ _ = none)
    · intro x u hR hf
      clear hR hf
      go_simp
      first | exact ⟨rfl, Ext.refl _⟩ | rfl
    simp only [Act.put, List.setIfInBounds_toArray, List.set_cons_succ, List.set_cons_zero]
    apply lex_fun (rfl : psAt _ _ = none)
    · intro x u hR hf
      clear hR hf
      go_simp
      first | exact ⟨rfl, Ext.refl _⟩ | rfl
    simp only [Act.put, List.setIfInBounds_toArray, List.set_cons_succ, List.set_cons_zero]
    apply lex_fun (rfl : psAt _ _ = none)
    · intro x u hR hf
      clear hR hf
      go_simp
      first | exact ⟨rfl, Ext.refl _⟩ | rfl
    simp only [Act.put, List.setIfInBounds_toArray, List.set_cons_succ, List.set_cons_zero]
    apply lex_fun (rfl : psAt _ _ = none)
    · intro x u hR hf
      clear hR hf
      go_simp
      first | exact ⟨rfl, Ext.refl _⟩ | rfl
    simp only [Act.put, List.setIfInBounds_toArray, List.set_cons_succ, List.set_cons_zero]
    apply lex_fun (rfl : psAt _ _ = none)
    · intro x u hR hf
      clear hR hf
      go_simp
      first | exact ⟨rfl, Ext.refl _⟩ | rfl
    simp only [Act.put, List.setIfInBounds_toArray, List.set_cons_succ, List.set_cons_zero]
    apply lex_fun (rfl : psAt _ _ = none)
    · intro x u hR hf
      clear hR hf
      go_simp
      first | exact ⟨rfl, Ext.refl _⟩ | rfl
    simp only [Act.put, List.setIfInBounds_toArray, List.set_cons_succ, List.set_cons_zero]
    apply lex_fun (rfl : psAt _ _ = none)
    · intro x u hR hf
      clear hR hf
      go_simp
      first | exact ⟨rfl, Ext.refl _⟩ | rfl
    simp only [Act.put, List.setIfInBounds_toArray, List.set_cons_succ, List.set_cons_zero]
    apply lex_fun (rfl : psAt _ _ = none)
    · intro x u hR hf
      clear hR hf
      go_simp
      first | exact ⟨rfl, Ext.refl _⟩ | rfl
    simp only [Act.put, List.setIfInBounds_toArray, List.set_cons_succ, List.set_cons_zero]
    apply lex_fun (rfl : psAt _ _ = none)
    · intro x u hR hf
      clear hR hf
      go_simp
      first | exact ⟨rfl, Ext.refl _⟩ | rfl
    simp only [Act.put, List.setIfInBounds_toArray, List.set_cons_succ, List.set_cons_zero]
    apply lex_fun (rfl : psAt _ _ = none)
    · intro x u hR hf
      have c0 := cell_of (hR.block H37.out)
      clear hR hf
      go_simp
      first | exact ⟨rfl, Ext.refl _⟩ | rfl
    simp only [Act.put, List.setIfInBounds_toArray, List.set_cons_succ, List.set_cons_zero]
    apply lex_fun (rfl : psAt _ _ = none)
    · intro x u hR hf
      clear hR hf
      go_simp
      first | exact ⟨rfl, Ext.refl _⟩ | rfl
    simp only [Act.put, List.setIfInBounds_toArray, List.set_cons_succ, List.set_cons_zero]
    apply lex_fun (rfl : psAt _ _ = none)
    · intro x u hR hf
      clear hR hf
      go_simp
      first | exact ⟨rfl, Ext.refl _⟩ | rfl
    simp only [Act.put, List.setIfInBounds_toArray, List.set_cons_succ, List.set_cons_zero]
    apply lex_fun (rfl : psAt _ _ = none)
    · intro x u hR hf
      clear hR hf
      go_simp
      first | exact ⟨rfl, Ext.refl _⟩ | rfl
    simp only [Act.put, List.setIfInBounds_toArray, List.set_cons_succ, List.set_cons_zero]
    apply lex_fun (rfl : psAt _ _ = none)
    · intro x u hR hf
      clear hR hf
      go_simp
      first | exact ⟨rfl, Ext.refl _⟩ | rfl
    simp only [Act.put, List.setIfInBounds_toArray, List.set_cons_succ, List.set_cons_zero]
    apply lex_fun (rfl : psAt _ _ = none)
    · intro x u hR hf
      clear hR hf
      go_simp
      first | exact ⟨rfl, Ext.refl _⟩ | rfl
    simp only [Act.put, List.setIfInBounds_toArray, List.set_cons_succ, List.set_cons_zero]
    apply lex_fun (rfl : psAt _ _ = none)
    · intro x u hR hf
      clear hR hf
      go_simp
      first | exact ⟨rfl, Ext.refl _⟩ | rfl
    simp only [Act.put, List.setIfInBounds_toArray, List.set_cons_succ, List.set_cons_zero]
    apply lex_fun (rfl : psAt _ _ = none)
    · intro x u hR hf
      clear hR hf
      go_simp
      first | exact ⟨rfl, Ext.refl _⟩ | rfl
    simp only [Act.put, List.setIfInBounds_toArray, List.set_cons_succ, List.set_cons_zero]
    apply lex_fun (rfl : psAt _ _ = none)
    · intro x u hR hf
      clear hR hf
      go_simp
      first | exact ⟨rfl, Ext.refl _⟩ | rfl
    simp only [Act.put, List.setIfInBounds_toArray, List.set_cons_succ, List.set_cons_zero]
    apply lex_fun (rfl : psAt _ _ = none)
    · intro x u hR hf
      have c0 := HD7.out.2.2.1
      have c1 := HD7.out.2.2.2
      rw [← hR.cell (p := ⟨bd, _, none⟩) HD7.out.2.1] at c0 c1
      clear hR hf
      go_simp
      first | exact ⟨rfl, Ext.refl _⟩ | rfl
    simp only [Act.put, List.setIfInBounds_toArray, List.set_cons_succ, List.set_cons_zero]
    apply lex_fun (rfl : psAt _ _ = none)
    · intro x u hR hf
      clear hR hf
      go_simp
      first | exact ⟨rfl, Ext.refl _⟩ | rfl
    simp only [Act.put, List.setIfInBounds_toArray, List.set_cons_succ, List.set_cons_zero]
    apply lex_fun (rfl : psAt _ _ = none)
    · intro x u hR hf
      have c0 := cell_of (hR.block H37.out)
      clear hR hf
      go_simp
      first | exact ⟨rfl, Ext.refl _⟩ | rfl
    simp only [Act.put, List.setIfInBounds_toArray, List.set_cons_succ, List.set_cons_zero]
    apply lex_fun (rfl : psAt _ _ = none)
    · intro x u hR hf
      clear hR hf
      go_simp
      first | exact ⟨rfl, Ext.refl _⟩ | rfl
    simp only [Act.put, List.setIfInBounds_toArray, List.set_cons_succ, List.set_cons_zero]
    apply lex_fun (rfl : psAt _ _ = none)
    · intro x u hR hf
      clear hR hf
      go_simp
      first | exact ⟨rfl, Ext.refl _⟩ | rfl
    simp only [Act.put, List.setIfInBounds_toArray, List.set_cons_succ, List.set_cons_zero]
    apply lex_fun (rfl : psAt _ _ = none)
    · intro x u hR hf
      have c0 := HCK.out _ (HX7.out.trans hR)
      clear hR hf
      go_simp
      first | exact ⟨rfl, Ext.refl _⟩ | rfl
    simp only [Act.put, List.setIfInBounds_toArray, List.set_cons_succ, List.set_cons_zero]
    apply lex_fun (rfl : psAt _ _ = none)
    · intro x u hR hf
      clear hR hf
      go_simp
      first | exact ⟨rfl, Ext.refl _⟩ | rfl
    simp only [Act.put, List.setIfInBounds_toArray, List.set_cons_succ, List.set_cons_zero]
    refine lex_fun (v := .bool true) (rfl : psAt _ _ = none) ?_ ?_
    · intro x u hR hf
      have hcal := hid (In_b _ _ _ true u HIN.out)
      clear hR hf
      go_simp
      exact hcal.out.mono fun e w'' ⟨he, hx'⟩ => ⟨_, he, rfl, by subst hx'; exact Ext.refl _⟩
    simp only [Act.put, List.setIfInBounds_toArray, List.set_cons_succ, List.set_cons_zero]
    apply lex_fun (rfl : psAt _ _ = none)
    · intro x u hR hf
      clear hR hf
      go_simp
      first | exact ⟨rfl, Ext.refl _⟩ | rfl
    simp only [Act.put, List.setIfInBounds_toArray, List.set_cons_succ, List.set_cons_zero]
    apply lex_fun (rfl : psAt _ _ = none)
    · intro x u hR hf
      clear hR hf
      go_simp
      first | exact ⟨rfl, Ext.refl _⟩ | rfl
    simp only [Act.put, List.setIfInBounds_toArray, List.set_cons_succ, List.set_cons_zero]
    refine lex_nil fun x9 w8 hE hfacts => ?_
    clear hfacts x9
    have HX8 := hid (HX7.out.trans hE)
    have H38 := hid (hE.block H37.out)
    have H98 := hid (hE.block H97.out)
    have HL8 := hid (HL7.out.mono hE)
    have HD8 := hid (And.intro HD7.out.1 (And.intro (Nat.lt_of_lt_of_le HD7.out.2.1 hE.size) (And.intro ((hE.cell (p := ⟨bd, _, none⟩) HD7.out.2.1).trans HD7.out.2.2.1) ((hE.cell (p := ⟨bd, _, none⟩) HD7.out.2.1).trans HD7.out.2.2.2))))
    clear hE HX7 H37 H97 HL7 HD7
    gi_upto_region 12 with fail
    refine lex_wide 11 [] (by kernel_rfl) (by kernel_rfl) nStab_nil ?_
    simp only [List.take_succ_cons, List.take_zero, List.drop_succ_cons, List.drop_zero]
    apply lex_fun (rfl : psAt _ _ = none)
    · intro x u hR hf
      clear hR hf
      go_simp
      first | exact ⟨rfl, Ext.refl _⟩ | rfl
    simp only [Act.put, List.setIfInBounds_toArray, List.set_cons_succ, List.set_cons_zero]
    apply lex_fun (rfl : psAt _ _ = none)
    · intro x u hR hf
      have c0 := cell_of (hR.block H38.out)
      clear hR hf
      go_simp
      first | exact ⟨rfl, Ext.refl _⟩ | rfl
    simp only [Act.put, List.setIfInBounds_toArray, List.set_cons_succ, List.set_cons_zero]
    apply lex_fun (rfl : psAt _ _ = none)
    · intro x u hR hf
      clear hR hf
      go_simp
      first | exact ⟨rfl, Ext.refl _⟩ | rfl
    simp only [Act.put, List.setIfInBounds_toArray, List.set_cons_succ, List.set_cons_zero]
    apply lex_fun (rfl : psAt _ _ = none)
    · intro x u hR hf
      clear hR hf
      go_simp
      first | exact ⟨rfl, Ext.refl _⟩ | rfl
    simp only [Act.put, List.setIfInBounds_toArray, List.set_cons_succ, List.set_cons_zero]
    apply lex_fun (rfl : psAt _ _ = none)
    · intro x u hR hf
      have c0 := HCK.out _ (HX8.out.trans hR)
      clear hR hf
      go_simp
      first | exact ⟨rfl, Ext.refl _⟩ | rfl
    simp only [Act.put, List.setIfInBounds_toArray, List.set_cons_succ, List.set_cons_zero]
    apply lex_fun (rfl : psAt _ _ = none)
    · intro x u hR hf
      clear hR hf
      go_simp
      first | exact ⟨rfl, Ext.refl _⟩ | rfl
    simp only [Act.put, List.setIfInBounds_toArray, List.set_cons_succ, List.set_cons_zero]
    apply lex_fun (rfl : psAt _ _ = none)
    · intro x u hR hf
      clear hR hf
      go_simp
      first | exact ⟨rfl, Ext.refl _⟩ | rfl
    simp only [Act.put, List.setIfInBounds_toArray, List.set_cons_succ, List.set_cons_zero]
    apply lex_fun (rfl : psAt _ _ = none)
    · intro x u hR hf
      clear hR hf
      go_simp
      first | exact ⟨rfl, Ext.refl _⟩ | rfl
    simp only [Act.put, List.setIfInBounds_toArray, List.set_cons_succ, List.set_cons_zero]
    apply lex_fun (rfl : psAt _ _ = none)
    · intro x u hR hf
      clear hR hf
      go_simp
      first | exact ⟨rfl, Ext.refl _⟩ | rfl
    simp only [Act.put, List.setIfInBounds_toArray, List.set_cons_succ, List.set_cons_zero]
    apply lex_fun (rfl : psAt _ _ = none)
    · intro x u hR hf
      have c0 := HD8.out.2.2.1
      rw [← hR.cell (p := ⟨bd, _, none⟩) HD8.out.2.1] at c0
      clear hR hf
      go_simp
      first | exact ⟨rfl, Ext.refl _⟩ | rfl
    simp only [Act.put, List.setIfInBounds_toArray, List.set_cons_succ, List.set_cons_zero]
    refine lex_fun (v := .int .i64 V) (rfl : psAt _ _ = none) ?_ ?_
    · intro x u hR hf
      have hcal := hid (HVAL.out u (HX8.out.trans hR))
      clear hR hf
      go_simp
      exact hcal.out.mono fun e w'' ⟨he, hx'⟩ => ⟨_, he, rfl, by subst hx'; exact Ext.refl _⟩
    simp only [Act.put, List.setIfInBounds_toArray, List.set_cons_succ, List.set_cons_zero]
    refine lex_nil fun x9 w9 hE hfacts => ?_
    clear hfacts x9
    have HX9 := hid (HX8.out.trans hE)
    have H99 := hid (hE.block H98.out)
    have HL9 := hid (HL8.out.mono hE)
    have hd0 := (hE.cell (p := ⟨bd, _, none⟩) HD8.out.2.1).trans HD8.out.2.2.1
    have hd1 := (hE.cell (p := ⟨bd, _, none⟩) HD8.out.2.1).trans HD8.out.2.2.2
    have hdb := Nat.lt_of_lt_of_le HD8.out.2.1 hE.size
    have c99 := cell_of H99.out
    clear hE HX8 H38 H98 HL8 HD8
    have V1 := wrap_small (x := W1 - V) (by have := HWB.out; omega)
    have V2 := wrap_small (x := W2 - (W1 - V)) (by have := HWB.out; omega)
    have hq := fun (u : World) => eq_dl 0 0 0 0 u
    by_cases hG0 : G = 0
    · have hz1 : ((G : Int) == 0) = true := by rw [hG0]; rfl
      have hz3 : (G == 0) = true := by rw [hG0]; rfl
      have hz2 : (W2 - (W1 - V) != 0) = false := by rw [HPN.out hG0]; rfl
      clear hG0
      gi_upto_region 15 with fail
      clear hz1 hz3 hd0 hd1
      gi_wp2_with (first | (gi_at_call 15; ((with_reducible refine (HG2.out _ _ HL9.out).mono ?_); rintro e wa ⟨be, oe, ce, rfl, hxa, hde⟩; have HXA := hid (HX9.out.trans hxa); have hce := hde.out.1; have hbe := hde.out.2.1; have he0 := hde.out.2.2.1; have he1 := hde.out.2.2.2; clear hxa hde)) | (gi_at_call 22; ((with_reducible refine (works_any _).mono ?_); rintro e wb ⟨rfl, hxb⟩)))
      go_ret
      exact ⟨rfl, HXA.out.trans hxb⟩
    · have hz1 : ((G : Int) == 0) = false := by simpa using hG0
      have hz3 : (G == 0) = false := by simpa using hG0
      clear hG0
      gi_upto_region 15 with fail
      clear hz1 hz3 hd0 hd1
      gi_wp2_with (first | (gi_at_call 15; ((with_reducible refine (HG2.out _ _ HL9.out).mono ?_); rintro e wa ⟨be, oe, ce, rfl, hxa, hde⟩; have HXA := hid (HX9.out.trans hxa); have hce := hde.out.1; have hbe := hde.out.2.1; have he0 := hde.out.2.2.1; have he1 := hde.out.2.2.2; clear hxa hde)) | (gi_at_call 22; ((with_reducible refine (works_any _).mono ?_); rintro e wb ⟨rfl, hxb⟩)))
      go_ret
      exact ⟨rfl, HXA.out.trans hxb⟩

end Go.Proofs.Ytfkehbhlagpmcaa
