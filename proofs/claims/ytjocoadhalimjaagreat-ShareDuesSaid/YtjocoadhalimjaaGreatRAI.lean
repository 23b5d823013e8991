/- Stakes. -/
import Derived.Test.YtjocoadhalimjaaGreatRAH
set_option linter.unusedSimpArgs false
set_option linter.unusedVariables false
namespace Go.Proofs.YtjocoadhalimjaaGreat
section
open Go Go.RowKit Go.Shelf

def metB (l : List Stk) (n : ByteArray) : Bool := l.any fun t => t.name.toList == n.toList
def stakeGood (l : List Stk) (i : Nat) : Bool := nameB (l.getD i noStk).name && (!(metB (l.take i) (l.getD i noStk).name) && inB (l.getD i noStk).weight 0 1000)
/-- Stakes. -/
def stakesB (l : List Stk) : Bool := decide (l.length ≤ 10) && allTo (stakeGood l) l.length
def metM (l : List Stk) : NMap := l.map fun s => (s.name, .bool true)
theorem met_find (l : List Stk) (n : ByteArray) : ((metM l).find n).getD (.bool false) = .bool (metB l n) := by
  unfold metM metB NMap.find
  induction l with
  | nil => rfl
  | cons s l ih =>
    rw [List.map_cons, List.find?_cons, List.any_cons]
    cases hb : (s.name.toList == n.toList) with
    | true => simp
    | false => simpa using ih
theorem met_none {l : List Stk} {n : ByteArray} (h : metB l n = false) : (metM l).find n = none := by
  unfold metM metB NMap.find at *
  rw [List.find?_eq_none.2]
  · rfl
  · intro e he hb
    obtain ⟨s, hs, rfl⟩ := List.mem_map.1 he
    rw [List.any_eq_false] at h
    exact h s hs hb
theorem zero4 (w : World) : (zeroValue 4).run Tryz.prog w = .ok (.bool false) w := by simp [zeroValue, go_sem, show Tryz.t4.zero = some (.bool false) from by kernel_rfl]
set_option maxHeartbeats 4000000 in
theorem areStakes_any (v : Value) (l : List Stk) (w : World) (hv : StakesAt w v l) (hn : ∀ s ∈ l, s.name.size ≤ maxLen) :
    Cal 47 #[v] w fun e w' => e = .returned (.bool (stakesB l)) ∧ Ext w w' := by
  obtain ⟨a, cap, rfl, ⟨hcap, hlen⟩, hc⟩ := hv
  have HC := hid hc
  have HNM := hid hn
  clear hc hn
  by_cases h10 : l.length ≤ 10
  · have HS : Hid (stakesB l = allTo (stakeGood l) l.length) := hid (by unfold stakesB; simp [h10])
    have hi10 : ¬ ((10 : Int) < (l.length : Int)) := by omega
    have hmm := @run_makeMap Tryz.prog
    gi_enter Tryz.func47, Tryz.ntmps47
    gi_wp2_with fail
    have HJ : Hid (Ext w (w.alloc (.map #[] 0)) ∧ NMapAt (w.alloc (.map #[] 0)) w.heap.size (metM (l.take 0))) := hid ⟨(Ext.refl _).alloc _, #[], 0, Ext.new (Ext.refl _), rfl, by simp [metM]⟩
    clear hmm hi10
    gi_loopw [5, 12] (fun u5 i wr => ∃ k : Nat, k ≤ l.length ∧ i = .int .i64 k ∧ Hid (∀ j, j < k → stakeGood l j = true) ∧ Hid (Ext w wr ∧ NMapAt wr w.heap.size (metM (l.take k)))) (fun _ i _ => l.length - (intOf i).toNat)
    case atStart => exact ⟨0, Nat.zero_le _, rfl, fun _ h => absurd h (by omega), HJ⟩
    case round =>
      obtain ⟨k, hk, rfl, HG, HI⟩ := hrel
      clear HJ
      by_cases hlt : k < l.length
      · have hki : (k : Int) < (l.length : Int) := by omega
        obtain ⟨b, off, rfl, hbb, c0, c1⟩ := HC.out k hlt
        rw [← HI.out.1.cell (p := ⟨b, _, none⟩) hbb] at c0 c1
        have hsz := HNM.out l[k] (List.getElem_mem _)
        have HQ : Hid (stakeGood l k = (nameB l[k].name && (!(metB (l.take k) l[k].name) && inB l[k].weight 0 1000))) := hid (by unfold stakeGood; rw [getD_of hlt])
        have HTK : Hid (metM (l.take (k + 1)) = metM (l.take k) ++ [(l[k].name, .bool true)]) := hid (by unfold metM; rw [List.take_succ_eq_append_getElem hlt, List.map_append]; rfl)
        generalize l[k] = s at *
        have hx1 : Ext wr (wr.alloc (.cells #[.string s.name, .int .i64 s.weight] 49)) := (Ext.refl _).alloc _
        have hnb : (wr.alloc (.cells #[.string s.name, .int .i64 s.weight] 49)).heap[wr.heap.size]? = some (.cells #[.string s.name, .int .i64 s.weight] 49 (0, 0)) := Ext.new (Ext.refl _)
        gi_upto_region 7 with fail
        clear c0 c1
        have HX := hid (HI.out.1.trans hx1)
        have HMP : Hid (NMapAt (wr.alloc (.cells #[.string s.name, .int .i64 s.weight] 49)) w.heap.size (metM (l.take k))) := hid (by
          obtain ⟨es, clock, h1, h2⟩ := HI.out.2
          exact ⟨es, clock, hx1.block h1, h2⟩)
        clear HI hx1
        generalize wr.alloc (.cells #[.string s.name, .int .i64 s.weight] 49) = W2 at *
        have cs := cell_of hnb
        have HNA := hid (isName_any s.name W2 hsz)
        have hlk := lookup_name HMP.out s.name Tryz.underlying101 (zero4 W2)
        rw [met_find] at hlk
        have HFN := hid (fun (h : metB (l.take k) s.name = false) => update_name HMP.out s.name (.bool true) (met_none h) Tryz.underlying101)
        have HIW := hid (fun (u : World) => isIn_any s.weight 0 1000 u)
        clear HMP HNM HC
        generalize metB (l.take k) s.name = q at *
        generalize nameB s.name = p at *
        generalize inB s.weight 0 1000 = r at *
        cases p with
        | false =>
          have HF : Hid (stakesB l = false) := hid (by rw [HS.out]; exact allTo_no hlt (by rw [HQ.out]; rfl))
          clear hlk
          gi_wp2_with (gi_at_call 67; ((with_reducible refine (HNA.out).mono ?_); rintro e w1 ⟨rfl, rfl⟩))
          go_ret
          exact ⟨by rw [HF.out]; rfl, HX.out⟩
        | true =>
          cases q with
          | true =>
            have HF : Hid (stakesB l = false) := hid (by rw [HS.out]; exact allTo_no hlt (by rw [HQ.out]; rfl))
            gi_wp2_with (gi_at_call 67; ((with_reducible refine (HNA.out).mono ?_); rintro e w1 ⟨rfl, rfl⟩))
            go_ret
            exact ⟨by rw [HF.out]; rfl, HX.out⟩
          | false =>
            cases r with
            | false =>
              have HF : Hid (stakesB l = false) := hid (by rw [HS.out]; exact allTo_no hlt (by rw [HQ.out]; rfl))
              gi_wp2_with (first | (gi_at_call 67; ((with_reducible refine (HNA.out).mono ?_); rintro e w1 ⟨rfl, rfl⟩)) | (gi_at_call 46; ((with_reducible refine (HIW.out _).mono ?_); rintro e w1 ⟨rfl, rfl⟩)))
              go_ret
              exact ⟨by rw [HF.out]; rfl, HX.out⟩
            | true =>
              have HU := hid (upTo_succ HG.out (by rw [HQ.out]; rfl))
              obtain ⟨o, hup, hma⟩ := HFN.out rfl
              have HMA := hid hma
              have HBP := hid (below_put (o := o) HX.out (Nat.le_refl w.heap.size))
              clear hma HFN HG HQ
              gi_wp2_with (first | (gi_at_call 67; ((with_reducible refine (HNA.out).mono ?_); rintro e w1 ⟨rfl, rfl⟩)) | (gi_at_call 46; ((with_reducible refine (HIW.out _).mono ?_); rintro e w1 ⟨rfl, rfl⟩)))
              go_roundw
              case rel => exact ⟨k + 1, by omega, by go_num, HU, hid ⟨HBP.out, by rw [HTK.out]; exact HMA.out⟩⟩
              case measure => simp [intOf]; omega
      · obtain rfl : k = l.length := by omega
        have HT : Hid (stakesB l = true) := hid (by rw [HS.out]; exact allTo_yes HG.out)
        have HX := hid HI.out.1
        clear HG HI
        gi_wp2_with fail
        go_ret
        exact ⟨by rw [HT.out]; rfl, HX.out⟩
  · have HF : Hid (stakesB l = false) := hid (by unfold stakesB; simp [h10])
    have hi10 : (10 : Int) < (l.length : Int) := by omega
    gi_enter Tryz.func47, Tryz.ntmps47
    gi_wp2
    go_ret
    exact ⟨by rw [HF.out]; rfl, Ext.refl _⟩
end
section
open Go Go.RowKit Go.Shelf

def pVal (sv : Value) (v : Value) (u : World) : Prop := ∃ bx, v = .func (.func 122) #[] #[.pointer (some ⟨bx, 0, none⟩)] ∧ u.heap[bx]? = some (.cells #[sv] 105 (0, 0))
theorem pVal_s (sv : Value) : ∀ v u u', pVal sv v u → Ext u u' → pVal sv v u' := fun _ _ _ h k => by
  obtain ⟨bx, h1, h2⟩ := h
  exact ⟨bx, h1, k.block h2⟩
def pSrt (l : List Shr) (v : Value) (u : World) : Prop := ShB u v (sortR l)
theorem pSrt_s (l : List Shr) : ∀ v u u', pSrt l v u → Ext u u' → pSrt l v u' := fun _ _ _ h k => ShB.mono h k
set_option maxRecDepth 100000 in
set_option maxHeartbeats 4000000 in
theorem more_iter (sv : Value) (l : List Shr) (n : Nat) (hn : n ≤ l.length) (hl : l.length ≤ 1000) (hd : (l.map (·.name)).Nodup) :
    IterP (fun t => t = 146) 93 #[.agg #[sv, .int .i64 n, fnV 92]] #[] (((sortR l).take n).map fun s => #[shrV s]) (fun W => SharesAt W sv l) := by
  intro l0 J Jx W hFt hJ hJx hY h0
  show CallsIn Fence.wide 0 Tryz.prog 93 #[.agg #[sv, .int .i64 n, fnV 92], .func (.yield l0) #[] #[]] W _
  have HV := hid (fun (u : World) (hu : Ext W u) => hFt _ _ (hJ _ _ _ h0 hu))
  have HFt := hid hFt
  have HJ := hid hJ
  have HJx := hid hJx
  have HY := hid hY
  have HD := hid hd
  have HL1 := hid hl
  obtain ⟨a, cap, rfl, ⟨hcap, hlen⟩, _⟩ := hFt _ _ h0
  have hsl : (sortR l).length = l.length := (sortR_perm l).length_eq
  have HSL := hid hsl
  have HLM : Hid ((((sortR l).take n).map fun s => #[shrV s]).length = n) := hid (by rw [List.length_map, List.length_take]; omega)
  have hxb : Ext W (W.alloc (.cells #[.slice a l.length cap, .int .i64 n, fnV 92] 108)) := (Ext.refl _).alloc _
  have HX1 := hid hxb
  have HB : Hid ((W.alloc (.cells #[.slice a l.length cap, .int .i64 n, fnV 92] 108)).heap[W.heap.size]? = some (.cells #[.slice a l.length cap, .int .i64 n, fnV 92] 108 (0, 0))) := hid (Ext.new (Ext.refl _))
  have H0 := hid (hJ _ _ _ h0 hxb)
  clear hFt hJ hJx hY h0 hd hsl hxb hl
  gi_enter Tryz.func93, Tryz.ntmps93
  gi_wp2_with fail
  generalize W.alloc (.cells #[.slice a l.length cap, .int .i64 n, fnV 92] 108) = W1 at *
  refine lex_wide 6 [(2, pVal (.slice a l.length cap)), (5, pSrt l)] (by kernel_rfl) (by kernel_rfl) (nStab_cons (pVal_s _) (nStab_cons (pSrt_s _) nStab_nil)) ?_
  simp only [List.take_succ_cons, List.take_zero, List.drop_succ_cons, List.drop_zero]
  apply lex_fun (rfl : psAt _ _ = none)
  · intro x u hR hf
    clear hR hf
    go_simp
    exact ⟨rfl, Ext.refl _⟩
  simp only [Act.put, List.setIfInBounds_toArray, List.set_cons_succ, List.set_cons_zero]
  apply lex_fun (rfl : psAt _ _ = none)
  · intro x u hR hf
    have c0 := cell_of (hR.block HB.out)
    clear hR hf
    go_simp
    exact ⟨rfl, Ext.refl _⟩
  simp only [Act.put, List.setIfInBounds_toArray, List.set_cons_succ, List.set_cons_zero]
  refine lex_pred (p := pVal (.slice a l.length cap)) rfl ?_ ?_
  · intro x u hR hf
    have hcal := hid (valuesF_any a l.length cap u)
    clear hR hf
    go_simp
    exact hcal.out.mono fun e w'' ⟨he, hw⟩ => ⟨_, he, ⟨_, rfl, by subst hw; exact Ext.new (Ext.refl _)⟩, by subst hw; exact (Ext.refl _).alloc _⟩
  simp only [Act.put, List.setIfInBounds_toArray, List.set_cons_succ, List.set_cons_zero]
  apply lex_fun (rfl : psAt _ _ = none)
  · intro x u hR hf
    clear hR hf
    go_simp
    exact ⟨rfl, Ext.refl _⟩
  simp only [Act.put, List.setIfInBounds_toArray, List.set_cons_succ, List.set_cons_zero]
  apply lex_fun (rfl : psAt _ _ = none)
  · intro x u hR hf
    have c0 := cell_of (hR.block HB.out)
    clear hR hf
    go_simp
    exact ⟨rfl, Ext.refl _⟩
  simp only [Act.put, List.setIfInBounds_toArray, List.set_cons_succ, List.set_cons_zero]
  refine lex_pred (p := pSrt l) rfl ?_ ?_
  · intro x u hR hf
    have h2 : pVal (.slice a l.length cap) (x 2) u := by first | exact hf.1 rfl | exact hf.2.1 rfl | exact hf.2.2.1 rfl
    obtain ⟨bx, e2, hb2⟩ := h2
    have hcal := hid (sortedF_any bx _ l u HL1.out hb2 (HV.out u (HX1.out.trans hR)))
    rw [← e2] at hcal
    clear hR hf hb2 e2
    go_simp
    exact hcal.out.mono fun e w'' ⟨v, m, he, hx, hm1, hm2, hm3⟩ => ⟨_, he, (by rw [← sortR_eq HD.out hm1 hm2]; exact hm3 : ShB w'' v (sortR l)), hx⟩
  simp only [Act.put, List.setIfInBounds_toArray, List.set_cons_succ, List.set_cons_zero]
  refine lex_nil fun x w6 hE hfacts => ?_
  have h5 : pSrt l (x 5) w6 := hfacts 5 _ (by omega) rfl
  clear hfacts
  obtain ⟨a2, cap2, e5, ⟨hcap2, hlen2⟩, _⟩ := (show ShB w6 (x 5) (sortR l) from h5).1
  generalize hx5 : x 5 = x5 at *
  generalize x 2 = x2
  clear hx5 x
  subst e5
  have HS5 := hid (show ShB w6 (.slice a2 (sortR l).length cap2) (sortR l) from h5)
  have H0 := hid (HJ.out _ _ _ H0.out hE)
  have c0 := cell_of (hE.block HB.out)
  have hnc : n ≤ cap2 := by have := HSL.out; omega
  clear h5 hE HV HX1
  gi_upto_region 3 with fail
  clear c0 HB
  gi_loopw [6, 20] (fun u6 i wr => ∃ k : Nat, k ≤ n ∧ i = .int .i64 k ∧ Hid (J k wr ∧ ShB wr (.slice a2 (sortR l).length cap2) (sortR l))) (fun _ i _ => n - (intOf i).toNat)
  case atStart => exact ⟨0, Nat.zero_le _, rfl, hid ⟨H0.out, HS5.out⟩⟩
  case round =>
    obtain ⟨k, hk, rfl, HI⟩ := hrel
    clear H0 HS5
    have hsl := HSL.out
    by_cases hlt : k < n
    · have hki : (k : Int) < (n : Int) := by omega
      have hkm : k < (sortR l).length := by omega
      obtain ⟨a', cap', e, _, hcs⟩ := HI.out.2.1
      cases e
      obtain ⟨b, off, rfl, hbb, c0, c1, c2, c3⟩ := hcs k hkm
      have HEL := hid (show (((sortR l).take n).map fun s => #[shrV s])[k]'(by rw [HLM.out]; exact hlt) = #[shrV (sortR l)[k]] by rw [List.getElem_map, List.getElem_take])
      clear hcs hsl
      generalize hs : (sortR l)[k] = s at *
      clear hs
      have hx : Ext wr (wr.alloc (.cells #[.string s.name, .int .i64 s.weight, .int .i64 s.pence, .int .i64 s.rest] 146)) := (Ext.refl _).alloc _
      have hnb : (wr.alloc (.cells #[.string s.name, .int .i64 s.weight, .int .i64 s.pence, .int .i64 s.rest] 146)).heap[wr.heap.size]? = some (.cells #[.string s.name, .int .i64 s.weight, .int .i64 s.pence, .int .i64 s.rest] 146 (0, 0)) := Ext.new (Ext.refl _)
      gi_upto_region 5 with fail
      have HI := hid (And.intro (HJ.out _ _ _ HI.out.1 hx) (HI.out.2.mono hx))
      clear c0 c1 c2 c3 hx
      generalize wr.alloc (.cells #[.string s.name, .int .i64 s.weight, .int .i64 s.pence, .int .i64 s.rest] 146) = W2 at *
      have cn := cell_of hnb
      gi_wp2_with fail
      clear cn hnb
      obtain ⟨fn, tm, asg, bd, hy, hR⟩ := HY.out k (by rw [HLM.out]; exact hlt) W2 HI.out.1
      rw [HEL.out] at hy
      unfold shrV at hy
      have HR := hid hR
      clear hR
      rw [hy, Oper.uponIn_round]
      clear hy
      refine ⟨fun h => (by cases h), HR.out.mono ?_⟩
      rintro e W' ⟨hkt, ⟨rfl, hJ'⟩ | ⟨rfl, hJx'⟩⟩
      · have HN := hid (And.intro hJ' (HI.out.2.keep fun kk cs hb => hkt kk cs 146 rfl hb))
        clear hJ' hkt
        gi_wp2
        go_roundw
        case rel => exact ⟨k + 1, by omega, by go_num, HN⟩
        case measure => simp [intOf]; omega
      · have HX' := hid hJx'
        clear hJx' hkt
        gi_wp2
        exact bodyPost_ret (v := .tuple #[]) (by simp [results, Tryz.results93, go_sem]) rfl ⟨⟨_, rfl⟩, .inr ⟨k, by rw [HLM.out]; exact hlt, HX'.out⟩⟩
    · obtain rfl : k = n := by omega
      clear hsl
      gi_wp2_with fail
      go_end0
      exact ⟨⟨_, rfl⟩, .inl (by rw [HLM.out]; exact HI.out.1)⟩
end
end Go.Proofs.YtjocoadhalimjaaGreat
