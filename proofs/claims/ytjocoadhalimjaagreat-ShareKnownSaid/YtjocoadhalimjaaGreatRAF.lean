/- Stakes. -/
import Derived.Test.YtjocoadhalimjaaGreatRAE
set_option linter.unusedSimpArgs false
set_option linter.unusedVariables false
namespace Go.Proofs.YtjocoadhalimjaaGreat
section
open Go Go.RowKit Go.Shelf

def metB (l : List Stk) (n : ByteArray) : Bool := l.any fun t => t.name.toList == n.toList
def stakeGood (l : List Stk) (i : Nat) : Bool := nameB (l.getD i noStk).name && (!(metB (l.take i) (l.getD i noStk).name) && inB (l.getD i noStk).weight 0 1000)
/-- Stakes. -/
def stakesB (l : List Stk) : Bool := decide (l.length ≤ 10) && allTo (stakeGood l) l.length
def metM (l : List Stk) : NMap := l.map fun s => (s.name, .bool true)
theorem met_find (l : List Stk) (n : ByteArray) : ((metM l).find n).getD (.bool false) = .bool (metB l n) := by
  unfold metM metB NMap.find
  induction l with
  | nil => rfl
  | cons s l ih =>
    rw [List.map_cons, List.find?_cons, List.any_cons]
    cases hb : (s.name.toList == n.toList) with
    | true => simp
    | false => simpa using ih
theorem met_none {l : List Stk} {n : ByteArray} (h : metB l n = false) : (metM l).find n = none := by
  unfold metM metB NMap.find at *
  rw [List.find?_eq_none.2]
  · rfl
  · intro e he hb
    obtain ⟨s, hs, rfl⟩ := List.mem_map.1 he
    rw [List.any_eq_false] at h
    exact h s hs hb
theorem zero4 (w : World) : (zeroValue 4).run Tryz.prog w = .ok (.bool false) w := by simp [zeroValue, go_sem, show Tryz.t4.zero = some (.bool false) from by kernel_rfl]
set_option maxHeartbeats 4000000 in
theorem areStakes_any (v : Value) (l : List Stk) (w : World) (hv : StakesAt w v l) (hn : ∀ s ∈ l, s.name.size ≤ maxLen) :
    Cal 47 #[v] w fun e w' => e = .returned (.bool (stakesB l)) ∧ Ext w w' := by
  obtain ⟨a, cap, rfl, ⟨hcap, hlen⟩, hc⟩ := hv
  have HC := hid hc
  have HNM := hid hn
  clear hc hn
  by_cases h10 : l.length ≤ 10
  · have HS : Hid (stakesB l = allTo (stakeGood l) l.length) := hid (by unfold stakesB; simp [h10])
    have hi10 : ¬ ((10 : Int) < (l.length : Int)) := by omega
    have hmm := @run_makeMap Tryz.prog
    gi_enter Tryz.func47, Tryz.ntmps47
    gi_wp2_with fail
    have HJ : Hid (Ext w (w.alloc (.map #[] 0)) ∧ NMapAt (w.alloc (.map #[] 0)) w.heap.size (metM (l.take 0))) := hid ⟨(Ext.refl _).alloc _, #[], 0, Ext.new (Ext.refl _), rfl, by simp [metM]⟩
    clear hmm hi10
    gi_loopw [5, 12] (fun u5 i wr => ∃ k : Nat, k ≤ l.length ∧ i = .int .i64 k ∧ Hid (∀ j, j < k → stakeGood l j = true) ∧ Hid (Ext w wr ∧ NMapAt wr w.heap.size (metM (l.take k)))) (fun _ i _ => l.length - (intOf i).toNat)
    case atStart => exact ⟨0, Nat.zero_le _, rfl, fun _ h => absurd h (by omega), HJ⟩
    case round =>
      obtain ⟨k, hk, rfl, HG, HI⟩ := hrel
      clear HJ
      by_cases hlt : k < l.length
      · have hki : (k : Int) < (l.length : Int) := by omega
        obtain ⟨b, off, rfl, hbb, c0, c1⟩ := HC.out k hlt
        rw [← HI.out.1.cell (p := ⟨b, _, none⟩) hbb] at c0 c1
        have hsz := HNM.out l[k] (List.getElem_mem _)
        have HQ : Hid (stakeGood l k = (nameB l[k].name && (!(metB (l.take k) l[k].name) && inB l[k].weight 0 1000))) := hid (by unfold stakeGood; rw [getD_of hlt])
        have HTK : Hid (metM (l.take (k + 1)) = metM (l.take k) ++ [(l[k].name, .bool true)]) := hid (by unfold metM; rw [List.take_succ_eq_append_getElem hlt, List.map_append]; rfl)
        generalize l[k] = s at *
        have hx1 : Ext wr (wr.alloc (.cells #[.string s.name, .int .i64 s.weight] 49)) := (Ext.refl _).alloc _
        have hnb : (wr.alloc (.cells #[.string s.name, .int .i64 s.weight] 49)).heap[wr.heap.size]? = some (.cells #[.string s.name, .int .i64 s.weight] 49 (0, 0)) := Ext.new (Ext.refl _)
        gi_upto_region 7 with fail
        clear c0 c1
        have HX := hid (HI.out.1.trans hx1)
        have HMP : Hid (NMapAt (wr.alloc (.cells #[.string s.name, .int .i64 s.weight] 49)) w.heap.size (metM (l.take k))) := hid (by
          obtain ⟨es, clock, h1, h2⟩ := HI.out.2
          exact ⟨es, clock, hx1.block h1, h2⟩)
        clear HI hx1
        generalize wr.alloc (.cells #[.string s.name, .int .i64 s.weight] 49) = W2 at *
        have cs := cell_of hnb
        have HNA := hid (isName_any s.name W2 hsz)
        have hlk := lookup_name HMP.out s.name Tryz.underlying101 (zero4 W2)
        rw [met_find] at hlk
        have HFN := hid (fun (h : metB (l.take k) s.name = false) => update_name HMP.out s.name (.bool true) (met_none h) Tryz.underlying101)
        have HIW := hid (fun (u : World) => isIn_any s.weight 0 1000 u)
        clear HMP HNM HC
        generalize metB (l.take k) s.name = q at *
        generalize nameB s.name = p at *
        generalize inB s.weight 0 1000 = r at *
        cases p with
        | false =>
          have HF : Hid (stakesB l = false) := hid (by rw [HS.out]; exact allTo_no hlt (by rw [HQ.out]; rfl))
          clear hlk
          gi_wp2_with (gi_at_call 67; ((with_reducible refine (HNA.out).mono ?_); rintro e w1 ⟨rfl, rfl⟩))
          go_ret
          exact ⟨by rw [HF.out]; rfl, HX.out⟩
        | true =>
          cases q with
          | true =>
            have HF : Hid (stakesB l = false) := hid (by rw [HS.out]; exact allTo_no hlt (by rw [HQ.out]; rfl))
            gi_wp2_with (gi_at_call 67; ((with_reducible refine (HNA.out).mono ?_); rintro e w1 ⟨rfl, rfl⟩))
            go_ret
            exact ⟨by rw [HF.out]; rfl, HX.out⟩
          | false =>
            cases r with
            | false =>
              have HF : Hid (stakesB l = false) := hid (by rw [HS.out]; exact allTo_no hlt (by rw [HQ.out]; rfl))
              gi_wp2_with (first | (gi_at_call 67; ((with_reducible refine (HNA.out).mono ?_); rintro e w1 ⟨rfl, rfl⟩)) | (gi_at_call 46; ((with_reducible refine (HIW.out _).mono ?_); rintro e w1 ⟨rfl, rfl⟩)))
              go_ret
              exact ⟨by rw [HF.out]; rfl, HX.out⟩
            | true =>
              have HU := hid (upTo_succ HG.out (by rw [HQ.out]; rfl))
              obtain ⟨o, hup, hma⟩ := HFN.out rfl
              have HMA := hid hma
              have HBP := hid (below_put (o := o) HX.out (Nat.le_refl w.heap.size))
              clear hma HFN HG HQ
              gi_wp2_with (first | (gi_at_call 67; ((with_reducible refine (HNA.out).mono ?_); rintro e w1 ⟨rfl, rfl⟩)) | (gi_at_call 46; ((with_reducible refine (HIW.out _).mono ?_); rintro e w1 ⟨rfl, rfl⟩)))
              go_roundw
              case rel => exact ⟨k + 1, by omega, by go_num, HU, hid ⟨HBP.out, by rw [HTK.out]; exact HMA.out⟩⟩
              case measure => simp [intOf]; omega
      · obtain rfl : k = l.length := by omega
        have HT : Hid (stakesB l = true) := hid (by rw [HS.out]; exact allTo_yes HG.out)
        have HX := hid HI.out.1
        clear HG HI
        gi_wp2_with fail
        go_ret
        exact ⟨by rw [HT.out]; rfl, HX.out⟩
  · have HF : Hid (stakesB l = false) := hid (by unfold stakesB; simp [h10])
    have hi10 : (10 : Int) < (l.length : Int) := by omega
    gi_enter Tryz.func47, Tryz.ntmps47
    gi_wp2
    go_ret
    exact ⟨by rw [HF.out]; rfl, Ext.refl _⟩
end
section
open Go Go.RowKit Go.Shelf

def pVal (sv : Value) (v : Value) (u : World) : Prop := ∃ bx, v = .func (.func 122) #[] #[.pointer (some ⟨bx, 0, none⟩)] ∧ u.heap[bx]? = some (.cells #[sv] 105 (0, 0))
theorem pVal_s (sv : Value) : ∀ v u u', pVal sv v u → Ext u u' → pVal sv v u' := fun _ _ _ h k => by
  obtain ⟨bx, h1, h2⟩ := h
  exact ⟨bx, h1, k.block h2⟩
def pSrt (l : List Shr) (v : Value) (u : World) : Prop := ShB u v (sortR l)
theorem pSrt_s (l : List Shr) : ∀ v u u', pSrt l v u → Ext u u' → pSrt l v u' := fun _ _ _ h k => ShB.mono h k
set_option maxRecDepth 100000 in
set_option maxHeartbeats 4000000 in
theorem more_iter (sv : Value) (l : List Shr) (n : Nat) (hn : n ≤ l.length) (hl : l.length ≤ 1000) (hd : (l.map (·.name)).Nodup) :
    IterP (fun t => t = 146) 93 #[.agg #[sv, .int .i64 n, fnV 92]] #[] (((sortR l).take n).map fun s => #[shrV s]) (fun W => SharesAt W sv l) := by
  intro l0 J Jx W hFt hJ hJx hY h0
  show CallsIn Fence.wide 0 Tryz.prog 93 #[.agg #[sv, .int .i64 n, fnV 92], .func (.yield l0) #[] #[]] W _
  have HV := hid (fun (u : World) (hu : Ext W u) => hFt _ _ (hJ _ _ _ h0 hu))
  have HFt := hid hFt
  have HJ := hid hJ
  have HJx := hid hJx
  have HY := hid hY
  have HD := hid hd
  have HL1 := hid hl
  obtain ⟨a, cap, rfl, ⟨hcap, hlen⟩, _⟩ := hFt _ _ h0
  have hsl : (sortR l).length = l.length := (sortR_perm l).length_eq
  have HSL := hid hsl
  have HLM : Hid ((((sortR l).take n).map fun s => #[shrV s]).length = n) := hid (by rw [List.length_map, List.length_take]; omega)
  have hxb : Ext W (W.alloc (.cells #[.slice a l.length cap, .int .i64 n, fnV 92] 108)) := (Ext.refl _).alloc _
  have HX1 := hid hxb
  have HB : Hid ((W.alloc (.cells #[.slice a l.length cap, .int .i64 n, fnV 92] 108)).heap[W.heap.size]? = some (.cells #[.slice a l.length cap, .int .i64 n, fnV 92] 108 (0, 0))) := hid (Ext.new (Ext.refl _))
  have H0 := hid (hJ _ _ _ h0 hxb)
  clear hFt hJ hJx hY h0 hd hsl hxb hl
  gi_enter Tryz.func93, Tryz.ntmps93
  gi_wp2_with fail
  generalize W.alloc (.cells #[.slice a l.length cap, .int .i64 n, fnV 92] 108) = W1 at *
  refine lex_wide 6 [(2, pVal (.slice a l.length cap)), (5, pSrt l)] (by kernel_rfl) (by kernel_rfl) (nStab_cons (pVal_s _) (nStab_cons (pSrt_s _) nStab_nil)) ?_
  simp only [List.take_succ_cons, List.take_zero, List.drop_succ_cons, List.drop_zero]
  apply lex_fun (rfl : psAt _ _ = none)
  · intro x u hR hf
    clear hR hf
    go_simp
    exact ⟨rfl, Ext.refl _⟩
  simp only [Act.put, List.setIfInBounds_toArray, List.set_cons_succ, List.set_cons_zero]
  apply lex_fun (rfl : psAt _ _ = none)
  · intro x u hR hf
    have c0 := cell_of (hR.block HB.out)
    clear hR hf
    go_simp
    exact ⟨rfl, Ext.refl _⟩
  simp only [Act.put, List.setIfInBounds_toArray, List.set_cons_succ, List.set_cons_zero]
  refine lex_pred (p := pVal (.slice a l.length cap)) rfl ?_ ?_
  · intro x u hR hf
    have hcal := hid (valuesF_any a l.length cap u)
    clear hR hf
    go_simp
    exact hcal.out.mono fun e w'' ⟨he, hw⟩ => ⟨_, he, ⟨_, rfl, by subst hw; exact Ext.new (Ext.refl _)⟩, by subst hw; exact (Ext.refl _).alloc _⟩
  simp only [Act.put, List.setIfInBounds_toArray, List.set_cons_succ, List.set_cons_zero]
  apply lex_fun (rfl : psAt _ _ = none)
  · intro x u hR hf
    clear hR hf
    go_simp
    exact ⟨rfl, Ext.refl _⟩
  simp only [Act.put, List.setIfInBounds_toArray, List.set_cons_succ, List.set_cons_zero]
  apply lex_fun (rfl : psAt _ _ = none)
  · intro x u hR hf
    have c0 := cell_of (hR.block HB.out)
    clear hR hf
    go_simp
    exact ⟨rfl, Ext.refl _⟩
  simp only [Act.put, List.setIfInBounds_toArray, List.set_cons_succ, List.set_cons_zero]
  refine lex_pred (p := pSrt l) rfl ?_ ?_
  · intro x u hR hf
    have h2 : pVal (.slice a l.length cap) (x 2) u := by first | exact hf.1 rfl | exact hf.2.1 rfl | exact hf.2.2.1 rfl
    obtain ⟨bx, e2, hb2⟩ := h2
    have hcal := hid (sortedF_any bx _ l u HL1.out hb2 (HV.out u (HX1.out.trans hR)))
    rw [← e2] at hcal
    clear hR hf hb2 e2
    go_simp
    exact hcal.out.mono fun e w'' ⟨v, m, he, hx, hm1, hm2, hm3⟩ => ⟨_, he, (by rw [← sortR_eq HD.out hm1 hm2]; exact hm3 : ShB w'' v (sortR l)), hx⟩
  simp only [Act.put, List.setIfInBounds_toArray, List.set_cons_succ, List.set_cons_zero]
  refine lex_nil fun x w6 hE hfacts => ?_
  have h5 : pSrt l (x 5) w6 := hfacts 5 _ (by omega) rfl
  clear hfacts
  obtain ⟨a2, cap2, e5, ⟨hcap2, hlen2⟩, _⟩ := (show ShB w6 (x 5) (sortR l) from h5).1
  generalize hx5 : x 5 = x5 at *
  generalize x 2 = x2
  clear hx5 x
  subst e5
  have HS5 := hid (show ShB w6 (.slice a2 (sortR l).length cap2) (sortR l) from h5)
  have H0 := hid (HJ.out _ _ _ H0.out hE)
  have c0 := cell_of (hE.block HB.out)
  have hnc : n ≤ cap2 := by have := HSL.out; omega
  clear h5 hE HV HX1
  gi_upto_region 3 with fail
  clear c0 HB
  gi_loopw [6, 20] (fun u6 i wr => ∃ k : Nat, k ≤ n ∧ i = .int .i64 k ∧ Hid (J k wr ∧ ShB wr (.slice a2 (sortR l).length cap2) (sortR l))) (fun _ i _ => n - (intOf i).toNat)
  case atStart => exact ⟨0, Nat.zero_le _, rfl, hid ⟨H0.out, HS5.out⟩⟩
  case round =>
    obtain ⟨k, hk, rfl, HI⟩ := hrel
    clear H0 HS5
    have hsl := HSL.out
    by_cases hlt : k < n
    · have hki : (k : Int) < (n : Int) := by omega
      have hkm : k < (sortR l).length := by omega
      obtain ⟨a', cap', e, _, hcs⟩ := HI.out.2.1
      cases e
      obtain ⟨b, off, rfl, hbb, c0, c1, c2, c3⟩ := hcs k hkm
      have HEL := hid (show (((sortR l).take n).map fun s => #[shrV s])[k]'(by rw [HLM.out]; exact hlt) = #[shrV (sortR l)[k]] by rw [List.getElem_map, List.getElem_take])
      clear hcs hsl
      generalize hs : (sortR l)[k] = s at *
      clear hs
      have hx : Ext wr (wr.alloc (.cells #[.string s.name, .int .i64 s.weight, .int .i64 s.pence, .int .i64 s.rest] 146)) := (Ext.refl _).alloc _
      have hnb : (wr.alloc (.cells #[.string s.name, .int .i64 s.weight, .int .i64 s.pence, .int .i64 s.rest] 146)).heap[wr.heap.size]? = some (.cells #[.string s.name, .int .i64 s.weight, .int .i64 s.pence, .int .i64 s.rest] 146 (0, 0)) := Ext.new (Ext.refl _)
      gi_upto_region 5 with fail
      have HI := hid (And.intro (HJ.out _ _ _ HI.out.1 hx) (HI.out.2.mono hx))
      clear c0 c1 c2 c3 hx
      generalize wr.alloc (.cells #[.string s.name, .int .i64 s.weight, .int .i64 s.pence, .int .i64 s.rest] 146) = W2 at *
      have cn := cell_of hnb
      gi_wp2_with fail
      clear cn hnb
      obtain ⟨fn, tm, asg, bd, hy, hR⟩ := HY.out k (by rw [HLM.out]; exact hlt) W2 HI.out.1
      rw [HEL.out] at hy
      unfold shrV at hy
      have HR := hid hR
      clear hR
      rw [hy, Oper.uponIn_round]
      clear hy
      refine ⟨fun h => (by cases h), HR.out.mono ?_⟩
      rintro e W' ⟨hkt, ⟨rfl, hJ'⟩ | ⟨rfl, hJx'⟩⟩
      · have HN := hid (And.intro hJ' (HI.out.2.keep fun kk cs hb => hkt kk cs 146 rfl hb))
        clear hJ' hkt
        gi_wp2
        go_roundw
        case rel => exact ⟨k + 1, by omega, by go_num, HN⟩
        case measure => simp [intOf]; omega
      · have HX' := hid hJx'
        clear hJx' hkt
        gi_wp2
        exact bodyPost_ret (v := .tuple #[]) (by simp [results, Tryz.results93, go_sem]) rfl ⟨⟨_, rfl⟩, .inr ⟨k, by rw [HLM.out]; exact hlt, HX'.out⟩⟩
    · obtain rfl : k = n := by omega
      clear hsl
      gi_wp2_with fail
      go_end0
      exact ⟨⟨_, rfl⟩, .inl (by rw [HLM.out]; exact HI.out.1)⟩
end
section
open Go Go.RowKit Go.Shelf

def eqS (a b : Shr) : Bool := (a.name.toList == b.name.toList) && ((a.weight == b.weight) && ((a.pence == b.pence) && (a.rest == b.rest)))
theorem eqlShr (a b : Shr) (w : World) : (binOp .eql 146 (.agg (shrA a)) (.agg (shrA b))).run Tryz.prog w = .ok (.bool (eqS a b)) w := by
  unfold shrA eqS
  rw [run_eql_struct]
  have h : (Op.equalIn 10000 146 (.agg #[.string a.name, .int .i64 a.weight, .int .i64 a.pence, .int .i64 a.rest]) (.agg #[.string b.name, .int .i64 b.weight, .int .i64 b.pence, .int .i64 b.rest])).run Tryz.prog w = .ok ((a.name.toList == b.name.toList) && ((a.weight == b.weight) && ((a.pence == b.pence) && (a.rest == b.rest)))) w := by
    simp [go_sem]
    by_cases h1 : a.name.toList = b.name.toList <;> by_cases h2 : a.weight = b.weight <;> by_cases h3 : a.pence = b.pence <;> by_cases h4 : a.rest = b.rest <;> simp [h1, h2, h3, h4]
  rw [h]; rfl
theorem eqS_iff {a b : Shr} : eqS a b = true ↔ a = b := by
  unfold eqS
  simp only [Bool.and_eq_true, beq_iff_eq]
  constructor
  · rintro ⟨h1, h2, h3, h4⟩
    have := names_inj h1
    cases a; cases b
    simp only at *
    subst this; subst h2; subst h3; subst h4; rfl
  · rintro rfl; exact ⟨rfl, rfl, rfl, rfl⟩
theorem info3 : (Tryz.prog.info? 3).map (fun i => (i.zero, i.size, i.bytes)) = some (some (.int .i64 0), 1, 8) := by kernel_rfl
def intsF (n : Nat) (f : Nat → Int) : List Value := (List.range n).map fun i => .int .i64 (f i)
theorem intsF_succ (n : Nat) (f : Nat → Int) : intsF (n + 1) f = intsF n f ++ [.int .i64 (f n)] := by
  unfold intsF; rw [List.range_succ, List.map_append]; rfl
theorem intsF_congr {n : Nat} {f g : Nat → Int} (h : ∀ i, i < n → f i = g i) : intsF n f = intsF n g := by
  unfold intsF
  exact List.map_congr_left fun i hi => by rw [h i (List.mem_range.mp hi)]
theorem intsF_set {n j : Nat} (f : Nat → Int) (x : Int) (hj : j < n) : (intsF n f).set j (.int .i64 x) = intsF n fun i => if i = j then x else f i := by
  refine List.ext_getElem (by simp [intsF]) fun i h1 h2 => ?_
  have hi : i < n := by simpa [intsF] using h2
  rw [List.getElem_set]
  by_cases hij : j = i
  · subst hij; simp [intsF]
  · rw [if_neg hij]; simp [intsF, Ne.symm hij]
theorem Row.put1 {w : World} {T : TypeId} {g n cap : Nat} {xs : List Value} (h : Row w T 1 (.slice (some ⟨g, 0, none⟩) n cap) n xs) (j : Nat) (x : Value) : Row (w.setCell ⟨g, j, none⟩ x) T 1 (.slice (some ⟨g, 0, none⟩) n cap) n (xs.set j x) := by
  obtain ⟨hl, h⟩ := h
  refine ⟨by simpa using hl, .inr ?_⟩
  rcases h with ⟨e, _⟩ | ⟨g', cap', cur, e, hg, h1, h2, h3, h4⟩
  · cases e
  · cases e
    refine ⟨g, cap, _, rfl, set_same hg j x, h1, h2, by simpa using h3, ?_⟩
    rw [← h4, Array.toList_setIfInBounds, List.take_set]
theorem Row.cells1 {w : World} {T : TypeId} {v : Value} {n : Nat} {xs : List Value} (h : Row w T 1 v n xs) {j : Nat} (hj : j < n) : ∃ g cap cur, v = .slice (some ⟨g, 0, none⟩) n cap ∧ n ≤ cap ∧ w.heap[g]? = some (.cells cur T (0, 0)) ∧ w.cell? ⟨g, j, none⟩ = xs[j]? ∧ ∀ o, w.frozen? ⟨g, o, none⟩ = false := by
  obtain ⟨hl, h⟩ := h
  rcases h with ⟨_, e⟩ | ⟨g, cap, cur, e, hg, h1, h2, h3, h4⟩
  · omega
  · refine ⟨g, cap, cur, e, h1, hg, ?_, free_of hg⟩
    rw [cell_of hg, ← h4, List.getElem?_take, if_pos (by omega), Array.getElem?_toList]
/-- What each has once r shares have had their penny more. -/
def getsTo (l m : List Shr) (r i : Nat) : Int := (l.getD i noShr).pence + ((m.take r).countP (fun f => eqS (l.getD i noShr) f) : Nat)
theorem getsTo_succ (l m : List Shr) {r : Nat} (h : r < m.length) (i : Nat) : getsTo l m (r + 1) i = if eqS (l.getD i noShr) m[r] then getsTo l m r i + 1 else getsTo l m r i := by
  unfold getsTo
  rw [List.take_succ_eq_append_getElem h, List.countP_append, List.countP_cons, List.countP_nil]
  split <;> simp <;> omega
theorem getsTo_bound {l m : List Shr} (hb : ∀ s ∈ l, 0 ≤ s.pence ∧ s.pence ≤ 10000000000000) (hm : m.length ≤ 1000) (r i : Nat) : 0 ≤ getsTo l m r i ∧ getsTo l m r i ≤ 10000000001000 := by
  unfold getsTo
  have h1 : 0 ≤ (l.getD i noShr).pence ∧ (l.getD i noShr).pence ≤ 10000000000000 := by
    by_cases h : i < l.length
    · rw [getD_of h]; exact hb _ (List.getElem_mem _)
    · rw [List.getD_eq_getElem?_getD, List.getElem?_eq_none (by omega)]; simp [noShr]
  have h2 : (m.take r).countP (fun f => eqS (l.getD i noShr) f) ≤ 1000 := Nat.le_trans List.countP_le_length (by rw [List.length_take]; omega)
  omega

set_option maxRecDepth 100000 in
set_option maxHeartbeats 8000000 in
theorem pence_any (sv : Value) (l : List Shr) (n : Nat) (w : World) (hn : n ≤ l.length) (hl : l.length ≤ 1000) (hd : (l.map (·.name)).Nodup) (hp : ∀ s ∈ l, 0 ≤ s.pence ∧ s.pence ≤ 10000000000000) (hv : SharesAt w sv l) :
    Cal 71 #[.agg #[sv, .int .i64 n, fnV 92]] w fun e w' => ∃ v, e = .returned v ∧ Ext w w' ∧ Row w' 3 1 v l.length (intsF l.length (getsTo l (sortR l) n)) := by
  have HIT := hid (more_iter sv l n hn hl hd)
  have HV := hid (fun (u : World) (hu : Ext w u) => hv.mono hu)
  have HUB := hid (fun (r i : Nat) => getsTo_bound (m := sortR l) hp (by rw [(sortR_perm l).length_eq]; exact hl) r i)
  have hsl : (sortR l).length = l.length := (sortR_perm l).length_eq
  have HSL := hid hsl
  have HLM : Hid ((((sortR l).take n).map fun s => #[shrV s]).length = n) := hid (by rw [List.length_map, List.length_take]; omega)
  have HUS := hid (fun (r : Nat) (h : r < (sortR l).length) => getsTo_succ l (sortR l) h)
  obtain ⟨a, cap, rfl, ⟨hcap, hlen⟩, _⟩ := hv
  clear hd hp hsl
  refine callsIn_of_wp_marks Tryz.func71 rfl trivial ?_
  simp only [Tryz.ntmps71, List.size_toArray, List.length_cons, List.length_nil, Nat.reduceAdd, Nat.reduceSub, Array.replicate_succ, Array.replicate_zero, List.push_toArray, List.append_toArray, List.nil_append, List.cons_append]
  have hW : Ext w ((w.alloc (.cells #[.slice a l.length cap, .int .i64 n, fnV 92] 108)).alloc (.cells #[.slice none 0 0] 23)) := ((Ext.refl _).alloc _).alloc _
  have hW0 := two_new (w := w) (o1 := .cells #[.slice a l.length cap, .int .i64 n, fnV 92] 108) (o2 := .cells #[.slice none 0 0] 23)
  have hW1 : ((w.alloc (.cells #[.slice a l.length cap, .int .i64 n, fnV 92] 108)).alloc (.cells #[.slice none 0 0] 23)).heap[w.heap.size + 1]? = some (.cells #[.slice none 0 0] 23 (0, 0)) := by
    have := Ext.new (w := w.alloc (.cells #[.slice a l.length cap, .int .i64 n, fnV 92] 108)) (o := .cells #[.slice none 0 0] 23) (Ext.refl _); rwa [World.size_alloc] at this
  gi_upto_region 2 with fail
  generalize (w.alloc (.cells #[.slice a l.length cap, .int .i64 n, fnV 92] 108)).alloc (.cells #[.slice none 0 0] 23) = W1 at *
  have c0 := cell_of hW0
  have HJ : Hid (Ext w W1 ∧ W1.heap[w.heap.size]? = some (.cells #[.slice a l.length cap, .int .i64 n, fnV 92] 108 (0, 0)) ∧ ∃ v, W1.heap[w.heap.size + 1]? = some (.cells #[v] 23 (0, 0)) ∧ Row W1 3 1 v 0 (intsF 0 fun i => (l.getD i noShr).pence) ∧ ∀ g, v.ownBlock = some g → w.heap.size + 1 < g) := hid ⟨hW, hW0, _, hW1, Row.nil _ _ _, fun g hg => by simp [Value.ownBlock] at hg⟩
  clear hW hW0 hW1
  gi_wp2_with fail
  clear c0
  gi_loopw [5, 12] (fun u5 i wr => ∃ k : Nat, k ≤ l.length ∧ i = .int .i64 k ∧ Hid (Ext w wr ∧ wr.heap[w.heap.size]? = some (.cells #[.slice a l.length cap, .int .i64 n, fnV 92] 108 (0, 0)) ∧ ∃ v, wr.heap[w.heap.size + 1]? = some (.cells #[v] 23 (0, 0)) ∧ Row wr 3 1 v k (intsF k fun i => (l.getD i noShr).pence) ∧ ∀ g, v.ownBlock = some g → w.heap.size + 1 < g)) (fun _ i _ => l.length - (intOf i).toNat)
  case atStart => exact ⟨0, Nat.zero_le _, rfl, HJ⟩
  case round =>
    obtain ⟨k, hk, rfl, HI⟩ := hrel
    clear HJ
    obtain ⟨hx, hb0, v, hb1, hrow, hown⟩ := HI.out
    clear HI
    by_cases hlt : k < l.length
    · have hki : (k : Int) < (l.length : Int) := by omega
      obtain ⟨a', cap', e, _, hcs⟩ := HV.out wr hx
      cases e
      obtain ⟨b, off, rfl, hbb, c0, c1, c2, c3⟩ := hcs k hlt
      have HGD := hid (show l.getD k noShr = l[k] from getD_of hlt)
      clear hcs
      generalize l[k] = s at *
      have hx1 : Ext wr (wr.alloc (.cells #[.string s.name, .int .i64 s.weight, .int .i64 s.pence, .int .i64 s.rest] 146)) := (Ext.refl _).alloc _
      have hnb : (wr.alloc (.cells #[.string s.name, .int .i64 s.weight, .int .i64 s.pence, .int .i64 s.rest] 146)).heap[wr.heap.size]? = some (.cells #[.string s.name, .int .i64 s.weight, .int .i64 s.pence, .int .i64 s.rest] 146 (0, 0)) := Ext.new (Ext.refl _)
      gi_upto_region 5 with fail
      clear c0 c1 c2 c3
      have HX := hid (hx.trans hx1)
      have HB0 := hid (hx1.block hb0)
      have HB1 := hid (hx1.block hb1)
      have HROW := hid (hrow.mono hx1)
      have HOWN := hid hown
      clear hx hb0 hb1 hrow hown hx1
      generalize wr.alloc (.cells #[.string s.name, .int .i64 s.weight, .int .i64 s.pence, .int .i64 s.rest] 146) = W2 at *
      have cn := cell_of hnb
      have cB := cell_of HB1.out
      have hlb := lt_of_block HB1.out
      have HRW := hid (HROW.out.mono ((Ext.refl W2).alloc (.cells #[.int .i64 s.pence] 3)))
      have HB2 := hid (((Ext.refl W2).alloc (.cells #[.int .i64 s.pence] 3)).block HB1.out)
      have HB02 := hid (((Ext.refl W2).alloc (.cells #[.int .i64 s.pence] 3)).block HB0.out)
      have HNW : Hid (∀ j u, ([.int .i64 s.pence] : List Value)[j]? = some u → (W2.alloc (.cells #[.int .i64 s.pence] 3)).cell? ((⟨W2.heap.size, 0, none⟩ : Addr).add j) = some u) := fun j u hj => by rw [Addr.add_mid, Nat.zero_add, new_cell _ _ rfl]; simpa using hj
      obtain ⟨i0, hi0, hz0, hz1, hz2⟩ := info_parts info3
      have HZ := hid (And.intro hi0 (And.intro hz0 (And.intro hz1 hz2)))
      have hmax : k + 1 ≤ 1000000000 := by omega
      clear hi0 hz0 hz1 hz2 hnb
      gi_wp2_with (refine wpIn_append_row (fun _ => trivial) rfl (.tmp 16) (.tmp 19) rfl Tryz.underlying23 HZ.out.1 HZ.out.2.1 HZ.out.2.2.1 HZ.out.2.2.2 (by simp [Value.cells]) (by omega) (v := v) rfl HRW.out ⟨W2.heap.size, 0, none⟩ 1 rfl [.int .i64 s.pence] rfl HNW.out (fun u hu => by simp at hu; subst hu; rfl) hmax (by omega) ?_; intro v' w' hrow' hgr' how'; obtain ⟨sa', sn', sc', rfl⟩ := hrow'.isSlice; have hbv' := grownBy_block hgr' HB2.out (fun e => by have := HOWN.out _ e.symm; omega); have hcv' := cell_of hbv'; have hfv' := free_of hbv')
      have hb0' := grownBy_block hgr' HB02.out (fun e => by have := HOWN.out _ e.symm; omega)
      have hsz := HX.out.size
      have hbel : Ext w w' := Below.trans (HX.out.alloc _) ⟨hgr'.os, hgr'.tape, hgr'.output, hgr'.size, fun j hj => hgr'.block j (by simp; omega) (fun e => by have := HOWN.out j e.symm; omega)⟩
      have hown' : ∀ g, (Value.slice sa' sn' sc').ownBlock = some g → w.heap.size + 1 < g := fun g hg => by
        rcases how' with e | e
        · exact HOWN.out g (by rw [← e]; exact hg)
        · rw [hg] at e; cases e; simp; omega
      go_roundw
      case rel =>
        refine ⟨k + 1, by omega, by go_num, hid ⟨hbel.set (by omega) _ _, by rw [set_other (by omega)]; exact hb0', _, set_same hbv' 0 _, ?_, hown'⟩⟩
        rw [intsF_succ, HGD.out]
        exact hrow'.set (fun e => by have := hown' _ e; omega) _ _
      case measure => simp [intOf]; omega
    · obtain rfl : k = l.length := by omega
      have HX := hid hx
      have HB0 := hid hb0
      have HB1 := hid hb1
      have HROW := hid hrow
      have HOWN := hid hown
      have c0 := cell_of hb0
      clear hx hb0 hb1 hrow hown
      gi_wp2_with fail
      clear c0
      obtain ⟨wo, rfl⟩ : ∃ wo, wo = wr := ⟨wr, rfl⟩
      have hbel : Below w.heap.size w wo := HX.out
      have HRW0 : Hid (Row wo 3 1 v l.length (intsF l.length (getsTo l (sortR l) 0))) := hid (by
        rw [intsF_congr (g := fun i => (l.getD i noShr).pence) fun i hi => by simp [getsTo]]
        exact HROW.out)
      refine range_boxedC rfl (enters_of Tryz.func93 (by kernel_rfl) rfl) HIT.out
        (fun r W' => Below w.heap.size w W' ∧ W'.heap[w.heap.size]? = some (.cells #[.slice a l.length cap, .int .i64 n, fnV 92] 108 (0, 0)) ∧ Hid (∃ v, W'.heap[w.heap.size + 1]? = some (.cells #[v] 23 (0, 0)) ∧ Row W' 3 1 v l.length (intsF l.length (getsTo l (sortR l) r)) ∧ ∀ g, v.ownBlock = some g → w.heap.size + 1 < g))
        (fun _ _ _ => False)
        (fun r W' W'' h hp => ⟨hp.past.below h.1 hbel.size (Nat.le_refl _), hp.cells h.2.1, by obtain ⟨v, h1, h2, h3⟩ := h.2.2.out; exact ⟨v, hp.cells h1, h2.pastC hp, h3⟩⟩)
        (fun _ _ _ _ h _ => h) (fun r W' h => HV.out W' h.1) (fun r h => by simp) ⟨hbel, HB0.out, hid ⟨v, HB1.out, HRW0.out, HOWN.out⟩⟩
        (fun r Bx => { tmps := #[.agg #[.slice a l.length cap, .int .i64 n, fnV 92], .pointer (some ⟨w.heap.size, 0, none⟩), .slice none 0 0, .pointer (some ⟨w.heap.size + 1, 0, none⟩), undef, u5, .pointer (some ⟨Bx, 0, none⟩), undef, undef, .pointer (some ⟨w.heap.size, 0, none⟩), .slice a l.length cap, .int .i64 l.length, .int .i64 l.length, .bool false, u14, u15, u16, u17, u18, u19, u20, u21, .agg #[.slice a l.length cap, .int .i64 n, fnV 92], .func (.func 93) #[.agg #[.slice a l.length cap, .int .i64 n, fnV 92]] #[], .agg (shrA ((sortR l).getD r noShr)), undef, undef, undef, undef, undef, undef, undef, undef, undef, undef, undef, undef, undef, undef, undef, undef, undef, undef, undef], defers := [] })
        (fun r => shrA ((sortR l).getD r noShr)) 146 ?assign ?body ?done ?stop
      case assign =>
        intro l0 r h W3 K' hK
        have hr : r < (sortR l).length := by rw [HLM.out] at h; have := HSL.out; omega
        have he : (((sortR l).take n).map fun s => #[shrV s])[r] = #[.agg (shrA ((sortR l).getD r noShr))] := by
          rw [List.getElem_map, List.getElem_take, getD_of hr]; rfl
        rw [he]
        generalize (sortR l).getD r noShr = f at *
        gi_wp2_with (refine wpIn_store_fresh (fun _ => trivial) 146 (.tmp 6) (.tmp 24) rfl (W := W3) (c' := shrA f) rfl rfl rfl size146 rfl (by simp [shrA, Value.oneCell']) ?_)
        exact hK
      case stop =>
        rintro D r c W3 hD hi hf hK
        exact hf.elim
      case body =>
        rintro l0 r Bx W3 hi hl0 hrr ⟨hbelW, hb0, HI⟩ hBx hbx
        have hr : r < (sortR l).length := by rw [HLM.out] at hi; have := HSL.out; omega
        have HUS := hid (fun i => HUS.out r hr i)
        have hgd : (sortR l).getD r noShr = (sortR l)[r] := getD_of hr
        rw [← hgd] at HUS
        clear hgd hrr
        generalize (sortR l).getD r noShr = f at *
        obtain ⟨v, hb1, hrow, hown⟩ := HI.out
        clear HI HB0 HB1 HROW HOWN HRW0 HX
        have c0 := cell_of hb0
        have HJ : Hid (KeepsFrom wo.heap.size W3 W3 ∧ KeepP (fun t => t = 146) W3 W3 ∧ Ext w W3 ∧ W3.heap[w.heap.size]? = some (.cells #[.slice a l.length cap, .int .i64 n, fnV 92] 108 (0, 0)) ∧ W3.heap[Bx]? = some (.cells (shrA f) 146 (0, 0)) ∧ ∃ v, W3.heap[w.heap.size + 1]? = some (.cells #[v] 23 (0, 0)) ∧ Row W3 3 1 v l.length (intsF l.length fun i => if i < 0 ∧ eqS (l.getD i noShr) f = true then getsTo l (sortR l) r i + 1 else getsTo l (sortR l) r i) ∧ ∀ g, v.ownBlock = some g → w.heap.size + 1 < g) :=
          hid ⟨KeepsFrom.refl _ _, KeepP.refl _, hbelW, hb0, hbx, v, hb1, by
            rw [intsF_congr (g := getsTo l (sortR l) r) fun i hi => if_neg (by omega)]; exact hrow, hown⟩
        unfold shrA at hbx
        clear hb0 hb1 hrow hown hbx
        gi_wp2_with fail
        clear c0
        gi_loopw [7, 8, 28] (fun u7 u8 i wr => ∃ j : Nat, j ≤ l.length ∧ i = .int .i64 j ∧ Hid (KeepsFrom wo.heap.size W3 wr ∧ KeepP (fun t => t = 146) W3 wr ∧ Ext w wr ∧ wr.heap[w.heap.size]? = some (.cells #[.slice a l.length cap, .int .i64 n, fnV 92] 108 (0, 0)) ∧ wr.heap[Bx]? = some (.cells (shrA f) 146 (0, 0)) ∧ ∃ v, wr.heap[w.heap.size + 1]? = some (.cells #[v] 23 (0, 0)) ∧ Row wr 3 1 v l.length (intsF l.length fun i => if i < j ∧ eqS (l.getD i noShr) f = true then getsTo l (sortR l) r i + 1 else getsTo l (sortR l) r i) ∧ ∀ g, v.ownBlock = some g → w.heap.size + 1 < g)) (fun _ _ i _ => l.length - (intOf i).toNat)
        case atStart => exact ⟨0, Nat.zero_le _, rfl, HJ⟩
        case round =>
          obtain ⟨j, hj, rfl, HI⟩ := hrel
          clear HJ
          obtain ⟨hkf, hkp, hx, hb0, hbx, v, hb1, hrow, hown⟩ := HI.out
          clear HI
          by_cases hlt : j < l.length
          · have hki : (j : Int) < (l.length : Int) := by omega
            obtain ⟨a', cap', e, _, hcs⟩ := HV.out wr hx
            cases e
            obtain ⟨b, off, rfl, hbb, d0, d1, d2, d3⟩ := hcs j hlt
            have HGD := hid (show l.getD j noShr = l[j] from getD_of hlt)
            clear hcs
            generalize l[j] = s at *
            have hx1 : Ext wr (wr.alloc (.cells #[.string s.name, .int .i64 s.weight, .int .i64 s.pence, .int .i64 s.rest] 146)) := (Ext.refl _).alloc _
            have hnb : (wr.alloc (.cells #[.string s.name, .int .i64 s.weight, .int .i64 s.pence, .int .i64 s.rest] 146)).heap[wr.heap.size]? = some (.cells #[.string s.name, .int .i64 s.weight, .int .i64 s.pence, .int .i64 s.rest] 146 (0, 0)) := Ext.new (Ext.refl _)
            gi_upto_region 12 with fail
            clear d0 d1 d2 d3
            have HKF := hid (hkf.trans (keepsFrom_extS hx1))
            have HKP := hid (hkp.trans (KeepP.of_ext hx1))
            have HX := hid (hx.trans hx1)
            have HB0 := hid (hx1.block hb0)
            have HBX := hid (hx1.block hbx)
            have HB1 := hid (hx1.block hb1)
            have HROW := hid (hrow.mono hx1)
            have HOWN := hid hown
            clear hkf hkp hx hb0 hbx hb1 hrow hown hx1
            generalize wr.alloc (.cells #[.string s.name, .int .i64 s.weight, .int .i64 s.pence, .int .i64 s.rest] 146) = W4 at *
            have cs := cell_of hnb
            have cf := cell_of HBX.out
            have hq := fun u => eqlShr s f u
            unfold shrA at hq cf
            have HQ : Hid (eqS (l.getD j noShr) f = eqS s f) := hid (by rw [HGD.out])
            generalize eqS s f = q at hq HQ
            clear hnb HUS
            cases q with
            | false =>
              gi_wp2_with fail
              go_roundw
              case rel =>
                refine ⟨j + 1, by omega, by go_num, hid ⟨HKF.out, HKP.out, HX.out, HB0.out, HBX.out, v, HB1.out, ?_, HOWN.out⟩⟩
                rw [intsF_congr (g := fun i => if i < j ∧ eqS (l.getD i noShr) f = true then getsTo l (sortR l) r i + 1 else getsTo l (sortR l) r i) fun i hi => ?_]
                · exact HROW.out
                · by_cases hij : i = j
                  · subst hij; rw [HQ.out]; simp
                  · have : (i < j + 1) ↔ (i < j) := by omega
                    simp only [this]
              case measure => simp [intOf]; omega
            | true =>
              obtain ⟨g, cg, cur, rfl, hcg, hgb, hcell, hfr⟩ := HROW.out.cells1 hlt
              have hG : (intsF l.length fun i => if i < j ∧ eqS (l.getD i noShr) f = true then getsTo l (sortR l) r i + 1 else getsTo l (sortR l) r i)[j]? = some (.int .i64 (getsTo l (sortR l) r j)) := by
                unfold intsF
                rw [List.getElem?_map, List.getElem?_range hlt]
                simp
              rw [hG] at hcell
              have hub := HUB.out r j
              have HGG := hid (show getsTo l (sortR l) r j = getsTo l (sortR l) r j from rfl)
              obtain ⟨G, hGG⟩ : ∃ G, G = getsTo l (sortR l) r j := ⟨_, rfl⟩
              rw [← hGG] at hcell hub
              have HGE := hid hGG
              have hw : wrap64 (G + 1) = G + 1 := by unfold wrap64; omega
              have hgo := HOWN.out g rfl
              have HGB := hid hgb
              have cB := cell_of HB1.out
              have hne : g ≠ Bx := fun e => by have h := HBX.out; rw [← e, hgb] at h; cases h
              clear hG hGG HGG hgb
              have hjc : j < cg := by omega
              gi_wp2_with fail
              go_roundw
              case rel =>
                refine ⟨j + 1, by omega, by go_num, hid ⟨HKF.out.trans ((KeepsOthers.setCell _ _ _).from _), HKP.out.trans (KeepP.set HGB.out (by decide) _ _), HX.out.set (by omega) _ _, by rw [set_other (by omega)]; exact HB0.out, by rw [set_other (Ne.symm hne)]; exact HBX.out, _, by rw [set_other (by omega)]; exact HB1.out, ?_, HOWN.out⟩⟩
                rw [intsF_congr (g := fun i => if i = j then G + 1 else if i < j ∧ eqS (l.getD i noShr) f = true then getsTo l (sortR l) r i + 1 else getsTo l (sortR l) r i) fun i hi => ?_]
                · rw [← intsF_set _ _ hlt]
                  exact HROW.out.put1 j _
                · by_cases hij : i = j
                  · subst hij; rw [HQ.out, HGE.out]; simp
                  · have : (i < j + 1) ↔ (i < j) := by omega
                    simp only [this, hij, if_false]
              case measure => simp [intOf]; omega
          · obtain rfl : j = l.length := by omega
            have hend : intsF l.length (fun i => if i < l.length ∧ eqS (l.getD i noShr) f = true then getsTo l (sortR l) r i + 1 else getsTo l (sortR l) r i) = intsF l.length (getsTo l (sortR l) (r + 1)) := intsF_congr fun i hi => by
              rw [HUS.out i]
              simp only [hi, true_and]
            rw [hend] at hrow
            have HALL := hid (And.intro hkf (And.intro hkp (And.intro hx (And.intro hb0 (And.intro hb1 (And.intro hrow hown))))))
            clear hkf hkp hx hb0 hbx hb1 hrow hown hend
            gi_wp2_with fail
            exact ⟨⟨HALL.out.1, HALL.out.2.2.1, HALL.out.2.2.2.1, hid ⟨v, HALL.out.2.2.2.2⟩⟩, HALL.out.2.1⟩
      case done =>
        rintro D W3 hD ⟨hbelW, hb0, hb2⟩ hK
        obtain ⟨v, e1, e2, e3⟩ := hb2.out
        have hcy := cell_of e1
        have HRW := hid (And.intro e1 (And.intro e2 e3))
        have HBW := hid (show Ext w W3 from hbelW)
        have hlo := lt_of_block HB1.out
        clear e1 e2 e3 hb2 hbelW hb0
        rw [HLM.out] at HRW
        gi_wp2_with fail
        refine leave_mark hK (v := v) (by simp [results, Tryz.results71, go_sem]) ⟨v, rfl, ?_, ?_⟩
        · exact (put_past (B := w.heap.size) _ _ (by omega)).below HBW.out (Nat.le_refl _) (Nat.le_refl _)
        · exact HRW.out.2.1.kept fun k o hk ho => by
            rw [World.putObj_heap_other (by rintro rfl; have h := HRW.out.2.1.isCells hk ho; rw [hK] at ho; cases ho; cases h)]; exact ho
end
end Go.Proofs.YtjocoadhalimjaaGreat
