/- The search for the fewest casts: its contract. -/
import Derived.Test.YtiklblbjnblkfaaXB
set_option linter.unusedSimpArgs false
set_option linter.unusedVariables false
namespace Go.Proofs.Ytiklblbjnblkfaa
open Go Go.RowKit Go.Shelf

theorem natVals_at (l : List Nat) (k : Nat) (h : k < l.length) : (natVals l)[k]? = some (.int .i64 (l[k] : Nat)) := by unfold natVals; simp [h]

theorem seek_stab {D : SeaD} {cs : List Cst} {m : Nat} {ch : List Nat} {lps : List (Int × Int)} (i : Nat) (p : Value → World → Prop) (hp : psAt [(9, placesP lps), (10, seekRes D cs m ch lps)] i = some p) (v : Value) (u u' : World) (hv : p v u) (hx : Ext u u') : p v u' := by
  unfold psAt at hp
  split at hp
  · cases hp; exact Row.mono hv hx
  · unfold psAt at hp
    split at hp
    · cases hp; exact seekRes.mono hv hx
    · cases hp
set_option maxRecDepth 100000 in
set_option maxHeartbeats 1000000 in
theorem seek_any (D : SeaD) (cs : List Cst) (hb : seaB D = true) (hcs : cs.length ≤ 8 ∧ ∀ c ∈ cs, (0 ≤ c.cell ∧ c.cell ≤ 1000)) (Bc Bs : Nat) (kv : Value) : ∀ (m : Nat) (ch : List Nat) (cv mv : Value) (ps : List (Int × Int)) (w : World), m ≤ 8 → ch.length + m ≤ 8 → (∀ c ∈ ch, c < 8) → (m = 0 → ch ≠ []) → ps.length ≤ 80 →
    (∀ p ∈ ps, (-1000 ≤ p.1 ∧ p.1 ≤ 1000) ∧ (-1000 ≤ p.2 ∧ p.2 ≤ 1000)) → Row w 3 1 cv ch.length (natVals ch) → (ch = [] → cv = .slice none 0 0) → placesP ps mv w → w.heap[Bc]? = some (.cells #[kv] 100 (0, 0)) → w.heap[Bs]? = some (.cells #[.func (.func 96) #[] #[.pointer (some ⟨Bc, 0, none⟩), .pointer (some ⟨Bs, 0, none⟩)]] 137 (0, 0)) →
    Row w 104 4 kv cs.length (flatC (seaOf D) cs) →
    Cal 96 #[cv, .int .i64 m, mv, .pointer (some ⟨Bc, 0, none⟩), .pointer (some ⟨Bs, 0, none⟩)] w fun e w' => ∃ v, e = .returned v ∧ Ext w w' ∧ Hid (seekRes D cs m ch ps v w') := by
  intro m
  induction m with
  | zero =>
    intro ch cv mv ps w _ _ _ hne hpl hpb hcv _ hmv hbc hbs hkv
    obtain ⟨ma, mc, rfl⟩ := Row.isSliceN hmv
    rcases hcv.full with ⟨_, h0⟩ | ⟨g, cap, rfl, hcap, hfull⟩
    · exact absurd (List.eq_nil_of_length_eq_zero h0) (hne rfl)
    have HCV := hid hcv
    have hcast : ((0 : Nat) : Int) = 0 := rfl
    rw [hcast]
    clear hcv hmv hbc hbs hkv hfull hne
    gi_enter Try.func96, Try.ntmps96
    cases hz : decide (ps.length = 0) with
    | true =>
      have hn0 : ((ps.length : Int) == 0) = true := by simpa using hz
      have HZ := hid (of_decide_eq_true hz)
      clear hz
      gi_wp2
      go_ret
      refine ⟨_, rfl, Ext.refl _, .inr ⟨ch, g, _, _, ?_, rfl, HCV.out⟩⟩
      show (if ps.length = 0 then some ch else none) = some ch
      rw [if_pos HZ.out]
    | false =>
      have hn0 : ((ps.length : Int) == 0) = false := by simpa using hz
      have HZ := hid (of_decide_eq_false hz)
      clear hz
      gi_wp2
      go_ret
      refine ⟨_, rfl, Ext.refl _, .inl ⟨?_, rfl⟩⟩
      show (if ps.length = 0 then some ch else none) = none
      rw [if_neg HZ.out]
  | succ m ih =>
    intro ch cv mv ps w hm8 hcm hch8 _ hpl hpb hcv hnil hmv hbc hbs hkv
    obtain ⟨ma, mc, rfl⟩ := Row.isSliceN hmv
    obtain ⟨ka, kc, rfl, hkat⟩ := hkv.at (by decide)
    obtain ⟨M, hM⟩ : ∃ M : Int, M = ((m + 1 : Nat) : Int) := ⟨_, rfl⟩
    rw [← hM]
    have hm1 : (M == 0) = false := by rw [hM]; simp; omega
    have HM := hid hM
    clear hM
    have HMV := hid hmv
    have HKV := hid hkv
    have HKAT := hid hkat
    have HBC := hid hbc
    have HBS := hid hbs
    have HPB := hid hpb
    have HCH := hid hch8
    have IH := hid ih
    have hcbc := cell_of hbc
    clear hmv hkv hkat hbs hbc hpb ih
    by_cases hch0 : ch.length = 0
    · have hcv0 := hnil (List.eq_nil_of_length_eq_zero hch0)
      subst hcv0
      have HFULL : Hid (FullS w 1 (.slice none 0 0) ch.length (natVals ch)) := ⟨by rw [List.eq_nil_of_length_eq_zero hch0]; rfl, .inl ⟨rfl, hch0⟩⟩
      have HN0 := hid hch0
      have HNX : Hid (nextI ch = 0) := if_pos hch0
      clear hcv hnil hch0
      gi_enter Try.func96, Try.ntmps96
      gi_wp2_with fail
      have hk0 : nextI ch ≤ 8 := by rw [HNX.out]; omega
      gi_loopw [11] (fun i wr => ∃ k : Nat, i = .int .i64 k ∧ k ≤ 8 ∧ Hid (Ext w wr ∧ seekF D cs (m + 1) ch ps = (List.range' k (cs.length - k)).findSome? fun i => seekF D cs m (ch ++ [i]) (leftC D ps (cs.getD i ⟨0, 0⟩)))) (fun i _ => 9 - (intOf i).toNat)
      case atStart => exact ⟨nextI ch, by first | (rw [HNX.out]; done) | (rw [HNX.out]; rfl), hk0, Ext.refl _, rfl⟩
      case round =>
        clear hk0
        obtain ⟨k, rfl, hk8, hI⟩ := hrel
        have hcb := cell_of (hI.out.1.block HBC.out)
        by_cases hlt : k < cs.length
        · have hfs : (List.range' k (cs.length - k)).findSome? (fun i => seekF D cs m (ch ++ [i]) (leftC D ps (cs.getD i ⟨0, 0⟩))) = (seekF D cs m (ch ++ [k]) (leftC D ps cs[k])).or ((List.range' (k + 1) (cs.length - (k + 1))).findSome? fun i => seekF D cs m (ch ++ [i]) (leftC D ps (cs.getD i ⟨0, 0⟩))) := by
            have e1 : cs.length - k = (cs.length - (k + 1)) + 1 := by omega
            rw [e1, List.range'_succ, List.findSome?_cons, getD_of hlt]
            cases seekF D cs m (ch ++ [k]) (leftC D ps cs[k]) <;> rfl
          have HFS : Hid (seekF D cs (m + 1) ch ps = (seekF D cs m (ch ++ [k]) (leftC D ps cs[k])).or ((List.range' (k + 1) (cs.length - (k + 1))).findSome? fun i => seekF D cs m (ch ++ [i]) (leftC D ps (cs.getD i ⟨0, 0⟩)))) := hI.out.2.trans hfs
          clear hfs
          obtain ⟨kg, rfl, hkgl, hkgc⟩ := HKAT.out k hlt
          obtain ⟨i0, hi0, hz0, hz1, hz2⟩ := info_parts info3
          have HZ := hid (And.intro hi0 (And.intro hz0 (And.intro hz1 hz2)))
          clear hi0 hz0 hz1 hz2
          have hmax : ch.length + 1 ≤ 1000000000 := by omega
          have HFL := hid ((HFULL.out.mono hI.out.1).mono ((Ext.refl wr).alloc (.cells #[.int .i64 k] 3)))
          have HNW : Hid (∀ j u, [Value.int .i64 k][j]? = some u → (wr.alloc (.cells #[.int .i64 k] 3)).cell? ((⟨wr.heap.size, 0, none⟩ : Addr).add j) = some u) := fun j u hj => by rw [Addr.add_mid, Nat.zero_add, new_cell _ _ rfl]; simpa using hj
          gi_wp2_with (refine wpIn_append_full (fun _ => trivial) rfl (.tmp 42) (.tmp 44) rfl Try.underlying22 HZ.out.1 HZ.out.2.1 HZ.out.2.2.1 HZ.out.2.2.2 (by simp [Value.cells]) (by omega) (v := .slice none 0 0) rfl HFL.out ⟨wr.heap.size, 0, none⟩ 1 rfl [.int .i64 k] rfl HNW.out hmax (by omega) ?_; intro cap' w6 hrow6 hx6)
          have hxw6 : Ext w w6 := (hI.out.1.alloc _).trans hx6
          have hq := flatC_at (seaOf D) cs k hlt
          have hck := hcs.2 cs[k] (List.getElem_mem _)
          have hcc := col_ok (seaOf_ok hb) hck.1 hck.2
          have hrr := row_ok (seaOf_ok hb) hck.1 hck.2
          have hlc2 : leftC D ps cs[k] = leftOf (col (seaOf D) cs[k].cell) (row (seaOf D) cs[k].cell) cs[k].far ps := rfl
          have HPL := hid fun p (h : p ∈ leftC D ps cs[k]) => HPB.out p (List.mem_filter.1 h).1
          have hll : (leftC D ps cs[k]).length ≤ ps.length := List.length_filter_le _ _
          have HG : Hid (∀ u, Ext w6 u → u.cell? ⟨Bs, 0, none⟩ = some (.func (.func 96) #[] #[.pointer (some ⟨Bc, 0, none⟩), .pointer (some ⟨Bs, 0, none⟩)]) ∧ u.cell? ⟨Bc, 0, none⟩ = some (.slice (some ⟨kg, 0, none⟩) cs.length kc) ∧ u.cell? ⟨kg, k * 4, none⟩ = some (.int .i64 cs[k].cell) ∧ u.cell? ⟨kg, k * 4 + 1, none⟩ = some (.int .i64 cs[k].far) ∧ u.cell? ⟨kg, k * 4 + 2, none⟩ = some (.int .i64 (col (seaOf D) cs[k].cell)) ∧ u.cell? ⟨kg, k * 4 + 3, none⟩ = some (.int .i64 (row (seaOf D) cs[k].cell))) := fun u hu =>
            ⟨cell_of ((hxw6.trans hu).block HBS.out) 0, cell_of ((hxw6.trans hu).block HBC.out) 0, ((hxw6.trans hu).cell (p := ⟨kg, k * 4, none⟩) hkgl).trans ((hkgc 0 (by omega)).trans hq.1), ((hxw6.trans hu).cell (p := ⟨kg, k * 4 + 1, none⟩) hkgl).trans ((hkgc 1 (by omega)).trans hq.2.1),
              ((hxw6.trans hu).cell (p := ⟨kg, k * 4 + 2, none⟩) hkgl).trans ((hkgc 2 (by omega)).trans hq.2.2.1), ((hxw6.trans hu).cell (p := ⟨kg, k * 4 + 3, none⟩) hkgl).trans ((hkgc 3 (by omega)).trans hq.2.2.2)⟩
          have HWO : Hid (∀ u, Ext w6 u → Cal 93 #[.slice ma ps.length mc, .agg #[.int .i64 cs[k].cell, .int .i64 cs[k].far, .int .i64 (col (seaOf D) cs[k].cell), .int .i64 (row (seaOf D) cs[k].cell)], .func (.func 94) #[] #[]] u fun e w' => ∃ v', e = .returned v' ∧ Ext u w' ∧ placesP (leftC D ps cs[k]) v' w') := fun u hu =>
            (without_any cs[k].cell cs[k].far (col (seaOf D) cs[k].cell) (row (seaOf D) cs[k].cell) (.slice ma ps.length mc) ps u (PlacesAt.of_row (Row.mono HMV.out (hxw6.trans hu)) (by omega)) (by omega) (by omega) HPB.out).mono fun e w' h => by
              obtain ⟨v', h1, h2, h3⟩ := h
              exact ⟨v', h1, h2, h3.out⟩
          rw [World.size_alloc] at hrow6
          have HROW6 := hid hrow6
          have HSK : Hid (∀ (u : World) (v9 : Value), Ext w6 u → placesP (leftC D ps cs[k]) v9 u → Cal 96 #[.slice (some ⟨wr.heap.size + 1, 0, none⟩) (ch.length + 1) cap', .int .i64 m, v9, .pointer (some ⟨Bc, 0, none⟩), .pointer (some ⟨Bs, 0, none⟩)] u fun e w' => ∃ v, e = .returned v ∧ Ext u w' ∧ Hid (seekRes D cs m (ch ++ [k]) (leftC D ps cs[k]) v w')) := fun u v9 hu hp => by
            refine IH.out (ch ++ [k]) _ v9 (leftC D ps cs[k]) u (by omega) (by simp; omega) ?_ (fun _ => by simp) (by omega) HPL.out ?_ (fun h => by simp at h) hp ((hxw6.trans hu).block HBC.out) ((hxw6.trans hu).block HBS.out) (HKV.out.mono (hxw6.trans hu))
            · intro c hc
              rcases List.mem_append.1 hc with h | h
              · exact HCH.out c h
              · rw [List.mem_singleton] at h; omega
            · rw [List.length_append, natVals_append]
              exact (HROW6.out.mono hu)
          have HX6 := hid hxw6
          have hmw : IntKind.i64.wrap (m : Int) = m := by rw [IntKind.wrap_i64]; omega
          have hm3 : M - 1 = m := by have := HM.out; omega
          clear hrow6 hx6 hq hck hcc hrr hlc2 hxw6 HROW6 IH HKAT hkgc HBS HBC HMV HKV HFL HNW HZ
          have HFS2 := HFS
          clear HFS
          generalize leftC D ps cs[k] = lps at *
          generalize col (seaOf D) cs[k].cell = cc at *
          generalize row (seaOf D) cs[k].cell = cr at *
          generalize cs[k].cell = cell at *
          generalize cs[k].far = far at *
          refine lex_wide 11 [(9, placesP lps), (10, seekRes D cs m (ch ++ [k]) lps)] (by kernel_rfl) (by kernel_rfl) seek_stab ?_
          simp only [List.take_succ_cons, List.take_zero, List.drop_succ_cons, List.drop_zero]
          apply lex_fun rfl
          · intro x u hR hf
            have q1 := HG.out u hR
            clear hR hf
            go_simp
            exact ⟨rfl, Ext.refl _⟩
          simp only [Act.put, List.setIfInBounds_toArray, List.set_cons_succ, List.set_cons_zero]
          apply lex_fun rfl
          · intro x u hR hf
            have q1 := HG.out u hR
            clear hR hf
            go_simp
            exact ⟨rfl, Ext.refl _⟩
          simp only [Act.put, List.setIfInBounds_toArray, List.set_cons_succ, List.set_cons_zero]
          apply lex_fun rfl
          · intro x u hR hf
            have q1 := HG.out u hR
            clear hR hf
            go_simp
            exact ⟨rfl, Ext.refl _⟩
          simp only [Act.put, List.setIfInBounds_toArray, List.set_cons_succ, List.set_cons_zero]
          apply lex_fun rfl
          · intro x u hR hf
            have q1 := HG.out u hR
            clear hR hf
            go_simp
            exact ⟨rfl, Ext.refl _⟩
          simp only [Act.put, List.setIfInBounds_toArray, List.set_cons_succ, List.set_cons_zero]
          apply lex_fun rfl
          · intro x u hR hf
            have q1 := HG.out u hR
            clear hR hf
            go_simp
            exact ⟨rfl, Ext.refl _⟩
          simp only [Act.put, List.setIfInBounds_toArray, List.set_cons_succ, List.set_cons_zero]
          apply lex_fun rfl
          · intro x u hR hf
            have q1 := HG.out u hR
            clear hR hf
            go_simp
            exact ⟨rfl, Ext.refl _⟩
          simp only [Act.put, List.setIfInBounds_toArray, List.set_cons_succ, List.set_cons_zero]
          apply lex_fun rfl
          · intro x u hR hf
            have q1 := HG.out u hR
            clear hR hf
            go_simp
            exact ⟨rfl, Ext.refl _⟩
          simp only [Act.put, List.setIfInBounds_toArray, List.set_cons_succ, List.set_cons_zero]
          apply lex_fun rfl
          · intro x u hR hf
            have q1 := HG.out u hR
            clear hR hf
            go_simp
            exact ⟨rfl, Ext.refl _⟩
          simp only [Act.put, List.setIfInBounds_toArray, List.set_cons_succ, List.set_cons_zero]
          apply lex_fun rfl
          · intro x u hR hf
            have q1 := HG.out u hR
            clear hR hf
            go_simp
            exact ⟨rfl, Ext.refl _⟩
          simp only [Act.put, List.setIfInBounds_toArray, List.set_cons_succ, List.set_cons_zero]
          refine lex_pred rfl ?_ ?_
          · intro x u hR hf
            have hcal := HWO.out u hR
            have HCAL := hid hcal
            clear hR hf hcal
            go_simp
            exact HCAL.out.mono fun e w'' he => by obtain ⟨v', he1, hx, hr⟩ := he; exact ⟨v', he1, hr, hx⟩
          simp only [Act.put, List.setIfInBounds_toArray, List.set_cons_succ, List.set_cons_zero]
          refine lex_pred rfl ?_ ?_
          · intro x u hR hf
            have h9 : placesP lps (x 9) u := hf.2.2.2.1 rfl
            have hcal := HSK.out u (x 9) hR h9
            have HCAL := hid hcal
            clear hR hf hcal h9
            go_simp
            exact HCAL.out.mono fun e w'' he => by obtain ⟨v', he1, hx, hr⟩ := he; exact ⟨v', he1, hr.out, hx⟩
          simp only [Act.put, List.setIfInBounds_toArray, List.set_cons_succ, List.set_cons_zero]
          refine lex_nil fun x u hR hfacts => ?_
          have h10 : seekRes D cs m (ch ++ [k]) lps (x 10) u := hfacts 10 _ (by omega) rfl
          clear hfacts
          generalize x 9 = x9 at *
          generalize x 10 = x10 at *
          have HXU := hid (HX6.out.trans hR)
          clear hR HG HWO HSK
          rcases h10 with ⟨hn, rfl⟩ | ⟨l, fg, fn, fc, hs, rfl, hrl⟩
          · have HN := hid hn
            clear hn
            gi_wp2
            go_roundw
            case rel => exact ⟨k + 1, by go_num, by omega, HXU.out, by rw [HFS2.out, HN.out]; rfl⟩
            case measure => simp [intOf]; omega
          · have HS := hid hs
            have HRL := hid hrl
            clear hs hrl
            gi_wp2
            go_ret
            exact ⟨_, rfl, HXU.out, .inr ⟨l, fg, fn, fc, by rw [HFS2.out, HS.out]; rfl, rfl, HRL.out⟩⟩
        · have hk : cs.length - k = 0 := by omega
          have HI := hid hI.out
          rw [hk] at HI
          clear hI
          gi_wp2
          go_ret
          exact ⟨_, rfl, HI.out.1, .inl ⟨HI.out.2, rfl⟩⟩
    · rcases hcv.full with ⟨_, h0⟩ | ⟨g, cap, rfl, hcap, hfull⟩
      · exact absurd h0 hch0
      have hlast := hcv.at (by decide)
      obtain ⟨a', cap', hae, hat⟩ := hlast
      cases hae
      obtain ⟨g', hg', hgl, hgc⟩ := hat (ch.length - 1) (by omega)
      cases hg'
      have hce := hgc 0 (by omega)
      rw [show (ch.length - 1) * 1 + 0 = ch.length - 1 by omega, natVals_at ch (ch.length - 1) (by omega)] at hce
      have hlc := hch8 ch[ch.length - 1] (List.getElem_mem _)
      have HFULL := hid hfull
      have hpos : decide ((0 : Int) < (ch.length : Int)) = true := by rw [decide_eq_true_eq]; omega
      have HNX : Hid (nextI ch = ch[ch.length - 1]'(by omega) + 1) := by
        show nextI ch = _
        unfold nextI
        rw [if_neg hch0, getD_of (by omega)]
      have hcl : 0 < ch.length := by omega
      have HN0 := hid hch0
      have HCV := hid hcv
      generalize ch[ch.length - 1] = last at *
      clear hcv hnil hfull hgc hat hch0 hch8
      gi_enter Try.func96, Try.ntmps96
      gi_wp2_with fail
      have hk0 : nextI ch ≤ 8 := by rw [HNX.out]; omega
      gi_loopw [11] (fun i wr => ∃ k : Nat, i = .int .i64 k ∧ k ≤ 8 ∧ Hid (Ext w wr ∧ seekF D cs (m + 1) ch ps = (List.range' k (cs.length - k)).findSome? fun i => seekF D cs m (ch ++ [i]) (leftC D ps (cs.getD i ⟨0, 0⟩)))) (fun i _ => 9 - (intOf i).toNat)
      case atStart => exact ⟨nextI ch, by first | (rw [HNX.out]; done) | (rw [HNX.out]; rfl) | (rw [HNX.out]; go_num), hk0, Ext.refl _, rfl⟩
      case round =>
        clear hk0
        obtain ⟨k, rfl, hk8, hI⟩ := hrel
        have hcb := cell_of (hI.out.1.block HBC.out)
        by_cases hlt : k < cs.length
        · have hfs : (List.range' k (cs.length - k)).findSome? (fun i => seekF D cs m (ch ++ [i]) (leftC D ps (cs.getD i ⟨0, 0⟩))) = (seekF D cs m (ch ++ [k]) (leftC D ps cs[k])).or ((List.range' (k + 1) (cs.length - (k + 1))).findSome? fun i => seekF D cs m (ch ++ [i]) (leftC D ps (cs.getD i ⟨0, 0⟩))) := by
            have e1 : cs.length - k = (cs.length - (k + 1)) + 1 := by omega
            rw [e1, List.range'_succ, List.findSome?_cons, getD_of hlt]
            cases seekF D cs m (ch ++ [k]) (leftC D ps cs[k]) <;> rfl
          have HFS : Hid (seekF D cs (m + 1) ch ps = (seekF D cs m (ch ++ [k]) (leftC D ps cs[k])).or ((List.range' (k + 1) (cs.length - (k + 1))).findSome? fun i => seekF D cs m (ch ++ [i]) (leftC D ps (cs.getD i ⟨0, 0⟩)))) := hI.out.2.trans hfs
          clear hfs
          obtain ⟨kg, rfl, hkgl, hkgc⟩ := HKAT.out k hlt
          obtain ⟨i0, hi0, hz0, hz1, hz2⟩ := info_parts info3
          have HZ := hid (And.intro hi0 (And.intro hz0 (And.intro hz1 hz2)))
          clear hi0 hz0 hz1 hz2
          have hmax : ch.length + 1 ≤ 1000000000 := by omega
          have HFL := hid ((HFULL.out.mono hI.out.1).mono ((Ext.refl wr).alloc (.cells #[.int .i64 k] 3)))
          have HNW : Hid (∀ j u, [Value.int .i64 k][j]? = some u → (wr.alloc (.cells #[.int .i64 k] 3)).cell? ((⟨wr.heap.size, 0, none⟩ : Addr).add j) = some u) := fun j u hj => by rw [Addr.add_mid, Nat.zero_add, new_cell _ _ rfl]; simpa using hj
          gi_wp2_with (refine wpIn_append_full (fun _ => trivial) rfl (.tmp 42) (.tmp 44) rfl Try.underlying22 HZ.out.1 HZ.out.2.1 HZ.out.2.2.1 HZ.out.2.2.2 (by simp [Value.cells]) (by omega) (v := .slice (some ⟨g, 0, none⟩) ch.length ch.length) rfl HFL.out ⟨wr.heap.size, 0, none⟩ 1 rfl [.int .i64 k] rfl HNW.out hmax (by omega) ?_; intro cap' w6 hrow6 hx6)
          have hxw6 : Ext w w6 := (hI.out.1.alloc _).trans hx6
          have hq := flatC_at (seaOf D) cs k hlt
          have hck := hcs.2 cs[k] (List.getElem_mem _)
          have hcc := col_ok (seaOf_ok hb) hck.1 hck.2
          have hrr := row_ok (seaOf_ok hb) hck.1 hck.2
          have hlc2 : leftC D ps cs[k] = leftOf (col (seaOf D) cs[k].cell) (row (seaOf D) cs[k].cell) cs[k].far ps := rfl
          have HPL := hid fun p (h : p ∈ leftC D ps cs[k]) => HPB.out p (List.mem_filter.1 h).1
          have hll : (leftC D ps cs[k]).length ≤ ps.length := List.length_filter_le _ _
          have HG : Hid (∀ u, Ext w6 u → u.cell? ⟨Bs, 0, none⟩ = some (.func (.func 96) #[] #[.pointer (some ⟨Bc, 0, none⟩), .pointer (some ⟨Bs, 0, none⟩)]) ∧ u.cell? ⟨Bc, 0, none⟩ = some (.slice (some ⟨kg, 0, none⟩) cs.length kc) ∧ u.cell? ⟨kg, k * 4, none⟩ = some (.int .i64 cs[k].cell) ∧ u.cell? ⟨kg, k * 4 + 1, none⟩ = some (.int .i64 cs[k].far) ∧ u.cell? ⟨kg, k * 4 + 2, none⟩ = some (.int .i64 (col (seaOf D) cs[k].cell)) ∧ u.cell? ⟨kg, k * 4 + 3, none⟩ = some (.int .i64 (row (seaOf D) cs[k].cell))) := fun u hu =>
            ⟨cell_of ((hxw6.trans hu).block HBS.out) 0, cell_of ((hxw6.trans hu).block HBC.out) 0, ((hxw6.trans hu).cell (p := ⟨kg, k * 4, none⟩) hkgl).trans ((hkgc 0 (by omega)).trans hq.1), ((hxw6.trans hu).cell (p := ⟨kg, k * 4 + 1, none⟩) hkgl).trans ((hkgc 1 (by omega)).trans hq.2.1),
              ((hxw6.trans hu).cell (p := ⟨kg, k * 4 + 2, none⟩) hkgl).trans ((hkgc 2 (by omega)).trans hq.2.2.1), ((hxw6.trans hu).cell (p := ⟨kg, k * 4 + 3, none⟩) hkgl).trans ((hkgc 3 (by omega)).trans hq.2.2.2)⟩
          have HWO : Hid (∀ u, Ext w6 u → Cal 93 #[.slice ma ps.length mc, .agg #[.int .i64 cs[k].cell, .int .i64 cs[k].far, .int .i64 (col (seaOf D) cs[k].cell), .int .i64 (row (seaOf D) cs[k].cell)], .func (.func 94) #[] #[]] u fun e w' => ∃ v', e = .returned v' ∧ Ext u w' ∧ placesP (leftC D ps cs[k]) v' w') := fun u hu =>
            (without_any cs[k].cell cs[k].far (col (seaOf D) cs[k].cell) (row (seaOf D) cs[k].cell) (.slice ma ps.length mc) ps u (PlacesAt.of_row (Row.mono HMV.out (hxw6.trans hu)) (by omega)) (by omega) (by omega) HPB.out).mono fun e w' h => by
              obtain ⟨v', h1, h2, h3⟩ := h
              exact ⟨v', h1, h2, h3.out⟩
          rw [World.size_alloc] at hrow6
          have HROW6 := hid hrow6
          have HSK : Hid (∀ (u : World) (v9 : Value), Ext w6 u → placesP (leftC D ps cs[k]) v9 u → Cal 96 #[.slice (some ⟨wr.heap.size + 1, 0, none⟩) (ch.length + 1) cap', .int .i64 m, v9, .pointer (some ⟨Bc, 0, none⟩), .pointer (some ⟨Bs, 0, none⟩)] u fun e w' => ∃ v, e = .returned v ∧ Ext u w' ∧ Hid (seekRes D cs m (ch ++ [k]) (leftC D ps cs[k]) v w')) := fun u v9 hu hp => by
            refine IH.out (ch ++ [k]) _ v9 (leftC D ps cs[k]) u (by omega) (by simp; omega) ?_ (fun _ => by simp) (by omega) HPL.out ?_ (fun h => by simp at h) hp ((hxw6.trans hu).block HBC.out) ((hxw6.trans hu).block HBS.out) (HKV.out.mono (hxw6.trans hu))
            · intro c hc
              rcases List.mem_append.1 hc with h | h
              · exact HCH.out c h
              · rw [List.mem_singleton] at h; omega
            · rw [List.length_append, natVals_append]
              exact (HROW6.out.mono hu)
          have HX6 := hid hxw6
          have hmw : IntKind.i64.wrap (m : Int) = m := by rw [IntKind.wrap_i64]; omega
          have hm3 : M - 1 = m := by have := HM.out; omega
          clear hrow6 hx6 hq hck hcc hrr hlc2 hxw6 HROW6 IH HKAT hkgc HBS HBC HMV HKV HFL HNW HZ
          have HFS2 := HFS
          clear HFS
          generalize leftC D ps cs[k] = lps at *
          generalize col (seaOf D) cs[k].cell = cc at *
          generalize row (seaOf D) cs[k].cell = cr at *
          generalize cs[k].cell = cell at *
          generalize cs[k].far = far at *
          refine lex_wide 11 [(9, placesP lps), (10, seekRes D cs m (ch ++ [k]) lps)] (by kernel_rfl) (by kernel_rfl) seek_stab ?_
          simp only [List.take_succ_cons, List.take_zero, List.drop_succ_cons, List.drop_zero]
          apply lex_fun rfl
          · intro x u hR hf
            have q1 := HG.out u hR
            clear hR hf
            go_simp
            exact ⟨rfl, Ext.refl _⟩
          simp only [Act.put, List.setIfInBounds_toArray, List.set_cons_succ, List.set_cons_zero]
          apply lex_fun rfl
          · intro x u hR hf
            have q1 := HG.out u hR
            clear hR hf
            go_simp
            exact ⟨rfl, Ext.refl _⟩
          simp only [Act.put, List.setIfInBounds_toArray, List.set_cons_succ, List.set_cons_zero]
          apply lex_fun rfl
          · intro x u hR hf
            have q1 := HG.out u hR
            clear hR hf
            go_simp
            exact ⟨rfl, Ext.refl _⟩
          simp only [Act.put, List.setIfInBounds_toArray, List.set_cons_succ, List.set_cons_zero]
          apply lex_fun rfl
          · intro x u hR hf
            have q1 := HG.out u hR
            clear hR hf
            go_simp
            exact ⟨rfl, Ext.refl _⟩
          simp only [Act.put, List.setIfInBounds_toArray, List.set_cons_succ, List.set_cons_zero]
          apply lex_fun rfl
          · intro x u hR hf
            have q1 := HG.out u hR
            clear hR hf
            go_simp
            exact ⟨rfl, Ext.refl _⟩
          simp only [Act.put, List.setIfInBounds_toArray, List.set_cons_succ, List.set_cons_zero]
          apply lex_fun rfl
          · intro x u hR hf
            have q1 := HG.out u hR
            clear hR hf
            go_simp
            exact ⟨rfl, Ext.refl _⟩
          simp only [Act.put, List.setIfInBounds_toArray, List.set_cons_succ, List.set_cons_zero]
          apply lex_fun rfl
          · intro x u hR hf
            have q1 := HG.out u hR
            clear hR hf
            go_simp
            exact ⟨rfl, Ext.refl _⟩
          simp only [Act.put, List.setIfInBounds_toArray, List.set_cons_succ, List.set_cons_zero]
          apply lex_fun rfl
          · intro x u hR hf
            have q1 := HG.out u hR
            clear hR hf
            go_simp
            exact ⟨rfl, Ext.refl _⟩
          simp only [Act.put, List.setIfInBounds_toArray, List.set_cons_succ, List.set_cons_zero]
          apply lex_fun rfl
          · intro x u hR hf
            have q1 := HG.out u hR
            clear hR hf
            go_simp
            exact ⟨rfl, Ext.refl _⟩
          simp only [Act.put, List.setIfInBounds_toArray, List.set_cons_succ, List.set_cons_zero]
          refine lex_pred rfl ?_ ?_
          · intro x u hR hf
            have hcal := HWO.out u hR
            have HCAL := hid hcal
            clear hR hf hcal
            go_simp
            exact HCAL.out.mono fun e w'' he => by obtain ⟨v', he1, hx, hr⟩ := he; exact ⟨v', he1, hr, hx⟩
          simp only [Act.put, List.setIfInBounds_toArray, List.set_cons_succ, List.set_cons_zero]
          refine lex_pred rfl ?_ ?_
          · intro x u hR hf
            have h9 : placesP lps (x 9) u := hf.2.2.2.1 rfl
            have hcal := HSK.out u (x 9) hR h9
            have HCAL := hid hcal
            clear hR hf hcal h9
            go_simp
            exact HCAL.out.mono fun e w'' he => by obtain ⟨v', he1, hx, hr⟩ := he; exact ⟨v', he1, hr.out, hx⟩
          simp only [Act.put, List.setIfInBounds_toArray, List.set_cons_succ, List.set_cons_zero]
          refine lex_nil fun x u hR hfacts => ?_
          have h10 : seekRes D cs m (ch ++ [k]) lps (x 10) u := hfacts 10 _ (by omega) rfl
          clear hfacts
          generalize x 9 = x9 at *
          generalize x 10 = x10 at *
          have HXU := hid (HX6.out.trans hR)
          clear hR HG HWO HSK
          rcases h10 with ⟨hn, rfl⟩ | ⟨l, fg, fn, fc, hs, rfl, hrl⟩
          · have HN := hid hn
            clear hn
            gi_wp2
            go_roundw
            case rel => exact ⟨k + 1, by go_num, by omega, HXU.out, by rw [HFS2.out, HN.out]; rfl⟩
            case measure => simp [intOf]; omega
          · have HS := hid hs
            have HRL := hid hrl
            clear hs hrl
            gi_wp2
            go_ret
            exact ⟨_, rfl, HXU.out, .inr ⟨l, fg, fn, fc, by rw [HFS2.out, HS.out]; rfl, rfl, HRL.out⟩⟩
        · have hk : cs.length - k = 0 := by omega
          have HI := hid hI.out
          rw [hk] at HI
          clear hI
          gi_wp2
          go_ret
          exact ⟨_, rfl, HI.out.1, .inl ⟨HI.out.2, rfl⟩⟩
end Go.Proofs.Ytiklblbjnblkfaa
