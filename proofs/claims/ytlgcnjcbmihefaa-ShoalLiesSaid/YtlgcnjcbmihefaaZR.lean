/- Proved: for every sea of data with its reports, the law that compares who lies with the reference returns true and leaves its argument as it was. No condition beyond those of the given row. -/
import Derived.Test.YtlgcnjcbmihefaaZM
import Derived.Test.YtlgcnjcbmihefaaYM
import Derived.Test.YtlgcnjcbmihefaaYK
set_option linter.unusedSimpArgs false
set_option linter.unusedVariables false
namespace Go.Proofs.Ytlgcnjcbmihefaa
open Go Go.RowKit Go.Shelf

def kInts (l : List Nat) (v : Value) (u : World) : Prop := Row u 3 1 v l.length (natVals l)
def kAns (l : List Nat) (e : Int) (v : Value) (u : World) : Prop := ∃ r, v = .tuple #[r, .int .i64 e] ∧ kInts l r u
theorem kInts.mono {l : List Nat} {v : Value} {u u' : World} (h : kInts l v u) (hx : Ext u u') : kInts l v u' := Row.mono h hx
theorem kAns.mono {l : List Nat} {e : Int} {v : Value} {u u' : World} (h : kAns l e v u) (hx : Ext u u') : kAns l e v u' := by
  obtain ⟨r, h1, h2⟩ := h
  exact ⟨r, h1, h2.mono hx⟩
def kPreds (l : List Nat) (e : Int) : Preds := [(8, kAns l e), (9, kAns l e), (10, kInts l), (12, kInts l)]
theorem kPreds_stab {l : List Nat} {e : Int} (i : Nat) (p : Value → World → Prop) (hp : psAt (kPreds l e) i = some p) (v : Value) (u u' : World) (hv : p v u) (hx : Ext u u') : p v u' := by
  unfold kPreds psAt at hp
  split at hp
  · cases hp; exact kAns.mono hv hx
  · unfold psAt at hp
    split at hp
    · cases hp; exact kAns.mono hv hx
    · unfold psAt at hp
      split at hp
      · cases hp; exact kInts.mono hv hx
      · unfold psAt at hp
        split at hp
        · cases hp; exact kInts.mono hv hx
        · cases hp
theorem gives_part {F : Fence} {n : Nat} {P : Program} {R : World → World → Prop} {o : Oper} {a : Act} {w : World} {V : Value → World → Prop} (x : Operand) (i : Nat) (ho : o.op = .extract x i) {vs : Array Value} {v : Value} (hx : a.eval x = .tuple vs) (hv : vs[i]? = some v) (h : V v w ∧ R w w) : gives F n P R o a w V := by
  unfold gives
  rw [Oper.semAt_eq _ _ _ (by rw [ho]; intro c h; cases h)]
  unfold execOp
  simp [ho, hx, Instr.extract, hv]
  exact h
/-- Whether a report is true of one of the first cells. -/
def hitTo (D : SeaD) (r : Rep) (L : List Nat) (j : Nat) : Bool := (L.take j).any (trueAt D r)
theorem hitTo_succ (D : SeaD) (r : Rep) {L : List Nat} {j : Nat} (h : j < L.length) : hitTo D r L (j + 1) = (hitTo D r L j || trueAt D r L[j]) := by
  unfold hitTo
  rw [List.take_add_one, List.any_append]
  simp [h]
theorem hitTo_all (D : SeaD) (r : Rep) (L : List Nat) : hitTo D r L L.length = L.any (trueAt D r) := by
  unfold hitTo; rw [List.take_length]
theorem liar_by {D : SeaD} {rs : List Rep} (he : leastErr D rs = 0) {k : Nat} (h : k < rs.length) : liarIs D rs k = !hitTo D rs[k] (canList D rs (leastN D rs) rs[k].hour) (canList D rs (leastN D rs) rs[k].hour).length := by
  obtain ⟨hS, _, _, h0, h24, _⟩ := accused_facts he
  have hS2 := hS
  unfold soundB at hS2
  rw [Bool.and_eq_true] at hS2
  have hb := ((reps_ok hS2.1 hS2.2).2 rs[k] (List.getElem_mem _)).2
  have hF : fewestF D rs < 25 ∧ leastN D rs = fewestF D rs := by
    rcases leastErr_cases hS with h1 | h1
    · rw [h1.1] at he; cases he
    · exact h1.2
  rw [hitTo_all, (can_iff hS (n := leastN D rs) (by omega) hb (c := 0)).2.1]
  unfold liarIs
  rw [getD_of h]
  congr 1
  rw [Bool.eq_iff_iff, trueF_iff hS hF.1 hb.1 hb.2, List.any_eq_true, hF.2]
  constructor
  · rintro ⟨T, hT, hc, ht⟩
    exact ⟨_, (can_iff hS (n := fewestF D rs) (by omega) hb (c := T rs[k].hour.toNat)).2.2.mpr ⟨T, hT, rfl, hc⟩, ht⟩
  · rintro ⟨c, hc, ht⟩
    obtain ⟨T, hT, e, hcT⟩ := (can_iff hS (n := fewestF D rs) (by omega) hb (c := c)).2.2.mp hc
    exact ⟨T, hT, hcT, by rw [e]; exact ht⟩
theorem canList_le {D : SeaD} (hsb : seaB D = true) (rs : List Rep) (n h : Int) : (canList D rs n h).length ≤ 1000 := by
  unfold canList
  split
  · simp
  · have := canF_len D hsb rs n h.toNat
    omega
theorem canList_mem {D : SeaD} (hsb : seaB D = true) (rs : List Rep) (n h : Int) {c : Nat} (hc : c ∈ canList D rs n h) : c ≤ 1000 := by
  have hmb := mul_bounds (inB_spec (sea_bounds hsb).1) (inB_spec (sea_bounds hsb).2.1)
  unfold canList at hc
  split at hc
  · cases hc
  · rw [← canTo_all] at hc
    unfold canTo at hc
    have := List.mem_range.mp (List.mem_filter.mp hc).1
    omega

set_option maxRecDepth 100000 in
set_option maxHeartbeats 16000000 in
theorem liars_ref (D : SeaD) (lv dv rv : Value) (rs : List Rep) (w : World) (hl : IntsAt w lv D.land) (hd : StepsAt w dv D.drift) (hr : RepsAt w rv rs) :
    Cal 26 #[seaVal D lv dv, rv] w fun e w' => ∃ v, e = .returned (.tuple #[v, .int .i64 (leastErr D rs)]) ∧ Ext w w' ∧ Hid (Row w' 3 1 v (liarsList D rs).length (natVals (liarsList D rs))) := by
  have hb1 : (w.alloc (.cells #[.int .i64 D.wide, .int .i64 D.high, lv, .int .i64 D.hours, dv, .int .i64 D.speed] 25)).heap[w.heap.size]? = some (.cells #[.int .i64 D.wide, .int .i64 D.high, lv, .int .i64 D.hours, dv, .int .i64 D.speed] 25 (0, 0)) := Ext.new (Ext.refl _)
  have hx : Ext w (w.alloc (.cells #[.int .i64 D.wide, .int .i64 D.high, lv, .int .i64 D.hours, dv, .int .i64 D.speed] 25)) := (Ext.refl w).alloc _
  have HLE := hid (least_ref D lv dv rv rs _ (hl.mono hx) (hd.mono hx) (hr.mono hx))
  have HCN := hid fun (n h : Int) (e : World) (hx' : Ext (w.alloc (.cells #[.int .i64 D.wide, .int .i64 D.high, lv, .int .i64 D.hours, dv, .int .i64 D.speed] 25)) e) => can_ref D lv dv rv rs n h e (hl.mono (hx.trans hx')) (hd.mono (hx.trans hx')) (hr.mono (hx.trans hx'))
  have HRR := hid fun (e : World) (hx' : Ext (w.alloc (.cells #[.int .i64 D.wide, .int .i64 D.high, lv, .int .i64 D.hours, dv, .int .i64 D.speed] 25)) e) => hr.mono (hx.trans hx')
  have hE : leastErr D rs = 10 ∨ leastErr D rs = 11 ∨ leastErr D rs = 4 ∨ leastErr D rs = 0 := by
    unfold leastErr
    split
    · exact .inl rfl
    · split
      · exact .inr (.inl rfl)
      · split
        · exact .inr (.inr (.inl rfl))
        · exact .inr (.inr (.inr rfl))
  have HNL : Hid (leastErr D rs ≠ 0 → liarsList D rs = []) := fun h => if_pos h
  have HYL : Hid (leastErr D rs = 0 → liarsList D rs = liarsTo D rs rs.length) := fun h => if_neg (by rw [h]; simp)
  have HU := hid fun (r : Rep) (c : Nat) (e : World) (hw : 1 ≤ D.wide ∧ D.wide ≤ 10) (hr : 0 ≤ r.cell ∧ r.cell ≤ 1000) (hc : c ≤ 1000) => untrue_ref D lv dv r c e hw hr (by omega)
  have HLB := hid fun (k : Nat) (h : k < rs.length) (he : leastErr D rs = 0) => liar_by he h
  have HAF := hid fun (he : leastErr D rs = 0) => accused_facts he
  obtain ⟨ra, rcap, rfl, _, _⟩ := hr
  unfold seaVal at HLE HCN HU ⊢
  obtain ⟨E, hEE⟩ : ∃ E, leastErr D rs = E := ⟨_, rfl⟩
  rw [hEE] at HLE hE ⊢
  have HEE := hid hEE
  clear hl hd hEE
  gi_enter Try.func26, Try.ntmps26
  gi_wp2_with fail
  generalize w.alloc (.cells #[.int .i64 D.wide, .int .i64 D.high, lv, .int .i64 D.hours, dv, .int .i64 D.speed] 25) = w1 at *
  have hcb := cell_of hb1
  have HCB := hid fun (e : World) (hx : Ext w1 e) => cell_of (hx.block hb1)
  have HX := hid hx
  clear hb1 hx
  rcases hE with rfl | rfl | rfl | rfl
  case inr.inr.inr =>
    have he := HEE.out
    obtain ⟨hS, _, _, hn0, hn24, _⟩ := HAF.out he
    unfold soundB at hS
    rw [Bool.and_eq_true] at hS
    have hro := reps_ok hS.1 hS.2
    have hw := inB_spec (sea_bounds hS.1).1
    have h24 := hro.1
    have HRO := hid fun r (h : r ∈ rs) => (hro.2 r h).1
    have HCL := hid fun (n h : Int) => canList_le hS.1 rs n h
    have HCM := hid fun (n h : Int) (c : Nat) (hc : c ∈ canList D rs n h) => canList_mem hS.1 rs n h hc
    have HLB2 := hid fun (k : Nat) (h : k < rs.length) => HLB.out k h he
    have HYY := hid (HYL.out he)
    clear hS hro HLB HNL HYL HAF he HEE
    gi_wp2_with (gi_at_call 20; ((with_reducible refine HLE.out.mono ?_); rintro e w2 ⟨vt, rfl, hx2, hvt⟩; have hcb2 := HCB.out w2 hx2))
    have HX2 := hid hx2
    have HRC := HRR.out w2 hx2
    obtain ⟨ra', rcap', e1, _, hcell⟩ := HRC
    cases e1
    have HRC := hid hcell
    clear hx2 hvt hcell HLE
    generalize hN : leastN D rs = N at *
    clear hN
    gi_loopw [9, 10] (fun v i wr => ∃ k : Nat, k ≤ rs.length ∧ i = .int .i64 k ∧ Hid (Ext w2 wr ∧ Row wr 3 1 v (liarsTo D rs k).length (natVals (liarsTo D rs k)) ∧ ∀ g, v.ownBlock = some g → w2.heap.size ≤ g)) (fun _ i _ => rs.length - (intOf i).toNat)
    case atStart => exact ⟨0, Nat.zero_le _, rfl, Ext.refl _, Row.nil _ _ _, fun g hg => by simp [Value.ownBlock] at hg⟩
    case round =>
      obtain ⟨k, hk, rfl, hJ⟩ := hrel
      have HJ := hid hJ.out
      clear hJ
      have hcbr := HCB.out wr (HX2.out.trans HJ.out.1)
      by_cases hlt : k < rs.length
      · obtain ⟨rb, off, rfl, hrl, c0, c1, c2, c3⟩ := HRC.out k hlt
        have hll : (liarsTo D rs k).length ≤ k := Nat.le_trans (List.length_filter_le _ _) (by simp)
        have HTO := hid (liarsTo_succ D rs k)
        rw [HLB2.out k hlt] at HTO
        have HRCL := hid (And.intro hrl (And.intro c0 (And.intro c1 (And.intro c2 c3))))
        have hrb := HRO.out rs[k] (List.getElem_mem _)
        clear hrl c0 c1 c2 c3
        have HCMk := hid (HCM.out N rs[k].hour)
        have hcl := HCL.out N rs[k].hour
        have HCNk := hid (HCN.out N rs[k].hour)
        have HUk := hid fun (c : Nat) (e : World) (hc : c ≤ 1000) => HU.out rs[k] c e hw hrb hc
        generalize rs[k] = p at *
        generalize canList D rs N p.hour = L at *
        generalize canErr D rs N p.hour = ec at *
        gi_wp2_with fail
        refine lex_wide 13 (kPreds L ec) (by kernel_rfl) (by kernel_rfl) kPreds_stab ?_
        simp only [List.take_succ_cons, List.take_zero, List.drop_succ_cons, List.drop_zero]
        apply lex_fun (rfl : psAt _ _ = none)
        · intro x u hR hf
          have c1 := HCB.out u (HX2.out.trans (HJ.out.1.trans hR))
          clear hR hf
          go_simp
          exact ⟨rfl, Ext.refl _⟩
        simp only [Act.put, List.setIfInBounds_toArray, List.set_cons_succ, List.set_cons_zero]
        iterate 6 (
          apply lex_fun (rfl : psAt _ _ = none)
          · intro x u hR hf
            clear hR hf
            go_simp
            exact ⟨rfl, Ext.refl _⟩
          simp only [Act.put, List.setIfInBounds_toArray, List.set_cons_succ, List.set_cons_zero])
        apply lex_fun (rfl : psAt _ _ = none)
        · intro x u hR hf
          have c1 := ((HJ.out.1.trans hR).cell (p := ⟨rb, _, none⟩) HRCL.out.1).trans HRCL.out.2.1
          clear hR hf
          go_simp
          exact ⟨rfl, Ext.refl _⟩
        simp only [Act.put, List.setIfInBounds_toArray, List.set_cons_succ, List.set_cons_zero]
        refine lex_pred (p := kAns L ec) rfl ?_ ?_
        · intro x u hR hf
          have hcal := hid (HCNk.out u (HX2.out.trans (HJ.out.1.trans hR)))
          clear hR hf
          go_simp
          exact hcal.out.mono fun e w'' ⟨v, he, hx', hv⟩ => ⟨_, he, ⟨v, rfl, hv.out⟩, hx'⟩
        simp only [Act.put, List.setIfInBounds_toArray, List.set_cons_succ, List.set_cons_zero]
        refine lex_pred (p := kAns L ec) rfl ?_ ?_
        · intro x u hR hf
          have h := (hf.1 rfl : kAns L ec (x 8) u)
          clear hf
          go_simp
          exact ⟨h, Ext.refl _⟩
        simp only [Act.put, List.setIfInBounds_toArray, List.set_cons_succ, List.set_cons_zero]
        refine lex_pred (p := kInts L) rfl ?_ ?_
        · intro x u hR hf
          obtain ⟨r, e12, hr⟩ := (hf.1 rfl : kAns L ec (x 9) u)
          rw [if_pos (show Region.wanted _ _ = true from rfl)]
          exact gives_part (.tmp 31) 0 rfl e12 rfl ⟨hr, Ext.refl _⟩
        simp only [Act.put, List.setIfInBounds_toArray, List.set_cons_succ, List.set_cons_zero]
        refine lex_fun (v := .int .i64 ec) (rfl : psAt _ _ = none) ?_ ?_
        · intro x u hR hf
          obtain ⟨r, e12, hr⟩ := (hf.1 rfl : kAns L ec (x 9) u)
          rw [if_pos (show Region.wanted _ _ = true from rfl)]
          exact gives_part (.tmp 31) 1 rfl e12 rfl ⟨rfl, Ext.refl _⟩
        simp only [Act.put, List.setIfInBounds_toArray, List.set_cons_succ, List.set_cons_zero]
        refine lex_pred (p := kInts L) rfl ?_ ?_
        · intro x u hR hf
          have h := (hf.1 rfl : kInts L (x 10) u)
          clear hf
          go_simp
          exact ⟨h, Ext.refl _⟩
        simp only [Act.put, List.setIfInBounds_toArray, List.set_cons_succ, List.set_cons_zero]
        refine lex_nil fun x w6 hE hfacts => ?_
        have h12 : kInts L (x 12) w6 := hfacts 12 _ (by omega) rfl
        clear hfacts
        generalize x 8 = x8 at *
        generalize x 9 = x9 at *
        generalize x 10 = x10 at *
        generalize x 12 = x12 at *
        clear x
        have HX6 := hid (HJ.out.1.trans hE)
        have HJ6 := hid (And.intro (HJ.out.2.1.mono hE) HJ.out.2.2)
        obtain ⟨la, lc, hvl, _, hlc⟩ := Row.ints h12 (by omega)
        rw [intsOf_length] at hvl
        subst hvl
        have HLC : Hid (∀ j (hj : j < L.length), ∃ b off, la = some ⟨b, off, none⟩ ∧ b < w6.heap.size ∧ w6.cell? ⟨b, off + j, none⟩ = some (.int .i64 (L[j] : Nat))) := fun j hj => by
          obtain ⟨b, off, h1, h2, h3⟩ := hlc j (by rw [intsOf_length]; exact hj)
          refine ⟨b, off, h1, h2, h3.trans ?_⟩
          unfold intsOf
          simp
        clear hE h12 hlc hcb2 hcbr hcb HCNk
        gi_wp2_with fail
        gi_loopw [13, 14] (fun t i wr2 => ∃ j : Nat, j ≤ L.length ∧ t = .bool (hitTo D p L j) ∧ i = .int .i64 j ∧ Ext w6 wr2) (fun _ i _ => L.length - (intOf i).toNat)
        case atStart => exact ⟨0, Nat.zero_le _, rfl, rfl, Ext.refl _⟩
        case round =>
          obtain ⟨j, hj, rfl, rfl, hx7⟩ := hrel
          have HX7 := hid hx7
          clear hx7
          have hcb7 := HCB.out wr (HX2.out.trans (HX6.out.trans HX7.out))
          by_cases hjl : j < L.length
          · obtain ⟨lb, loff, rfl, hlb, hlcell⟩ := HLC.out j hjl
            have HHS := hid (hitTo_succ D p hjl)
            have HUj := hid fun e : Later wr => HUk.out L[j] e.val (HCMk.out L[j] (List.getElem_mem _))
            rw [show repTrue p (col (seaOf D) p.cell) (row (seaOf D) p.cell) (col (seaOf D) (L[j] : Nat)) (row (seaOf D) (L[j] : Nat)) = trueAt D p L[j] from rfl] at HUj
            have HC := hid fun e : Later wr => And.intro (HCB.out e.val (HX2.out.trans (HX6.out.trans (HX7.out.trans e.grown)))) (And.intro (((HX6.out.trans (HX7.out.trans e.grown)).cell (p := ⟨rb, _, none⟩) HRCL.out.1).trans HRCL.out.2.1) (And.intro (((HX6.out.trans (HX7.out.trans e.grown)).cell (p := ⟨rb, _, none⟩) HRCL.out.1).trans HRCL.out.2.2.1) (And.intro (((HX6.out.trans (HX7.out.trans e.grown)).cell (p := ⟨rb, _, none⟩) HRCL.out.1).trans HRCL.out.2.2.2.1) (And.intro (((HX6.out.trans (HX7.out.trans e.grown)).cell (p := ⟨rb, _, none⟩) HRCL.out.1).trans HRCL.out.2.2.2.2) (((HX7.out.trans e.grown).cell (p := ⟨lb, _, none⟩) hlb).trans hlcell)))))
            clear hlb hlcell
            generalize hitTo D p L j = bh at *
            generalize trueAt D p L[j] = bt at *
            generalize L[j] = cj at *
            cases bh <;> cases bt
            all_goals
              gi_wp2_with fail
              refine quiet_wide 14 (by kernel_rfl) (by kernel_rfl) ?_
              simp only [List.take_succ_cons, List.take_zero, List.drop_succ_cons, List.drop_zero]
              have q1 := HC.out
              repeat (any_goals (first | go_big_quiet_step ((go_at_call 64; with_reducible exact Cal.quiet (HUj.out _))) | quiet_step ((go_at_call 64; with_reducible exact Cal.quiet (HUj.out _)))))
              refine wpQuiet_nil ?_
              rintro w5 ⟨⟨_, hx5⟩, rfl⟩
              clear q1
              clear HC HUj
              gi_wp2
              all_goals exact ⟨⟨j + 1, by omega, by rw [HHS.out]; rfl, by go_num, HX7.out.trans hx5⟩, by simp [intOf]; omega⟩
          · obtain rfl : j = L.length := by omega
            cases hb : hitTo D p L L.length with
            | false =>
              rw [hb, Bool.not_false] at HTO
              obtain ⟨i0, hi0, hz0, hz1, hz2⟩ := info_parts info3
              have HZ := hid (And.intro hi0 (And.intro hz0 (And.intro hz1 hz2)))
              clear hi0 hz0 hz1 hz2 hb
              have hmax : (liarsTo D rs k).length + 1 ≤ 1000000000 := by omega
              have HRW := hid (HJ6.out.1.mono HX7.out)
              have hxa : Ext wr (wr.alloc (.cells #[.int .i64 k] 3)) := (Ext.refl wr).alloc _
              have HRWW := hid (HRW.out.mono hxa)
              have HNW : Hid (∀ j u, [Value.int .i64 k][j]? = some u → (wr.alloc (.cells #[.int .i64 k] 3)).cell? ((⟨wr.heap.size, 0, none⟩ : Addr).add j) = some u) := (fun j u hj => by rw [Addr.add_mid, Nat.zero_add, new_cell _ _ rfl]; simpa using hj)
              gi_wp2_with (refine wpIn_append_row (fun _ => trivial) rfl (.tmp 65) (.tmp 67) rfl Try.underlying22 HZ.out.1 HZ.out.2.1 HZ.out.2.2.1 HZ.out.2.2.2 (by simp [Value.cells]) (by omega) (v := u9) rfl HRWW.out ⟨wr.heap.size, 0, none⟩ 1 rfl [.int .i64 k] rfl HNW.out (fun u hu => by simp at hu; subst hu; rfl) hmax (by omega) ?_; intro v' w' hrow' hgr' how')
              have hxx := (HX6.out.trans HX7.out).trans hxa
              have hbel : Ext w2 w' := Below.trans hxx ⟨hgr'.os, hgr'.tape, hgr'.output, hgr'.size, fun j hj => hgr'.block j (by have := hxx.size; omega) (fun e => by have := HJ6.out.2 j e.symm; omega)⟩
              have hsz := hxx.size
              go_roundw
              case rel =>
                refine ⟨k + 1, by omega, by go_num, hbel, ?_, fun g hg => ?_⟩
                · rw [HTO.out, if_pos rfl, natVals_append, List.length_append]
                  exact hrow'
                · rcases how' with e | e
                  · exact HJ6.out.2 g (by rw [← e]; exact hg)
                  · rw [hg] at e; cases e; exact hsz
              case measure => simp [intOf] <;> omega
            | true =>
              rw [hb, Bool.not_true] at HTO
              clear hb
              gi_wp2
              all_goals exact ⟨⟨k + 1, by omega, by go_num, HX6.out.trans HX7.out, by rw [HTO.out, if_neg (by simp), List.append_nil]; exact HJ6.out.1.mono HX7.out, HJ6.out.2⟩, by simp [intOf] <;> omega⟩
      · obtain rfl : k = rs.length := by omega
        obtain ⟨va, vc, rfl⟩ := HJ.out.2.1.isSliceN
        gi_wp2
        all_goals exact bodyPost_ret (v := .tuple #[.slice va (liarsTo D rs rs.length).length vc, .int .i64 0]) (results_tmp2 (fn := Try.f26) (t := 4) (u := 5) rfl _ _ _) rfl ⟨_, rfl, HX.out.trans (HX2.out.trans HJ.out.1), by rw [HYY.out]; exact HJ.out.2.1⟩
  all_goals
    have HG := hid (HNL.out (by rw [HEE.out]; simp))
    clear HLB HNL HYL HAF HCN HU HEE
    gi_wp2_with (gi_at_call 20; ((with_reducible refine HLE.out.mono ?_); rintro e w2 ⟨vt, rfl, hx2, hvt⟩))
    exact bodyPost_ret (v := .tuple #[.slice none 0 0, _]) (results_tmp2 (fn := Try.f26) (t := 4) (u := 5) rfl _ _ _) rfl ⟨_, rfl, HX.out.trans hx2, by rw [HG.out]; exact Row.nil _ _ _⟩

set_option maxRecDepth 100000 in
set_option maxHeartbeats 8000000 in
theorem ShoalLies_any (D : SeaD) (rs : List Rep) (v0 : Value) (w : World) (h0 : SearchAt w v0 D rs) :
    Cal 5 #[v0] w fun e w' => e = .returned (.bool true) ∧ Ext w w' := by
  obtain ⟨lv, dv, rv, rfl, hl, hd, hr⟩ := h0
  have hx : Ext w (w.alloc (.cells #[.int .i64 D.wide, .int .i64 D.high, lv, .int .i64 D.hours, dv, .int .i64 D.speed, rv] 28)) := (Ext.refl w).alloc _
  have hb1 : (w.alloc (.cells #[.int .i64 D.wide, .int .i64 D.high, lv, .int .i64 D.hours, dv, .int .i64 D.speed, rv] 28)).heap[w.heap.size]? = some (.cells #[.int .i64 D.wide, .int .i64 D.high, lv, .int .i64 D.hours, dv, .int .i64 D.speed, rv] 28 (0, 0)) := Ext.new (Ext.refl _)
  have HL := hid (hl.mono hx)
  have HD := hid (hd.mono hx)
  have HR := hid (hr.mono hx)
  have HX := hid hx
  have HB1 := hid hb1
  clear hl hd hr hx hb1
  gi_enter Try.func5, Try.ntmps5
  gi_wp2_with fail
  generalize w.alloc (.cells #[.int .i64 D.wide, .int .i64 D.high, lv, .int .i64 D.hours, dv, .int .i64 D.speed, rv] 28) = w0 at *
  have HC1 := hid (Liars_any D lv dv rv rs w0 HL.out HD.out HR.out)
  have HC2 := hid fun (e : World) (hx : Ext w0 e) => liars_ref D lv dv rv rs e (HL.out.mono hx) (HD.out.mono hx) (HR.out.mono hx)
  have HCB := hid fun (e : World) (hx : Ext w0 e) => cell_of (hx.block HB1.out)
  rw [seaVal] at HC1 HC2
  have hlen : (liarsList D rs).length ≤ 1000 := by
    by_cases he : leastErr D rs = 0
    · have hf := accused_facts he
      have := hf.2.2.1
      have := hf.2.2.2.2.1
      omega
    · unfold liarsList
      rw [if_pos he]
      simp
  have hcb0 := HCB.out w0 (Ext.refl _)
  generalize liarsList D rs = lc at *
  generalize leastErr D rs = ec at *
  gi_wp2_with (first | (gi_at_call 25; ((with_reducible refine HC1.out.mono ?_); rintro e w1 ⟨v1, rfl, hx1, hv1⟩; obtain ⟨a1, c1, rfl⟩ := hv1.out.isSliceN; have hcb1 := HCB.out w1 hx1; have HC22 := hid (HC2.out w1 hx1))) | (gi_at_call 26; ((with_reducible refine HC22.out.mono ?_); rintro e w2 ⟨v2, rfl, hx2, hv2⟩; obtain ⟨a2, c2, rfl⟩ := hv2.out.isSliceN; have HSM := hid (same_ref (.slice a1 lc.length c1) (.slice a2 lc.length c2) (intsOf lc) w2 ((hv1.out.mono hx2).ints (by omega)) (hv2.out.ints (by omega))))) | (gi_at_call 21; ((with_reducible refine HSM.out.mono ?_); rintro e w3 ⟨rfl, hx3⟩)) | (gi_at_call 22; ((with_reducible refine (works_any _).mono ?_); rintro e wz ⟨rfl, hxz⟩)))
  all_goals first | exact (undefNo (by assumption)).elim | (go_ret; exact ⟨rfl, HX.out.trans (hx1.trans (hx2.trans (hx3.trans hxz)))⟩)
end Go.Proofs.Ytlgcnjcbmihefaa

namespace Go.Proofs.Ytlgcnjcbmihefaa.shoalLies
open Go Go.RowKit Go.Shelf
open Go.ChangeShapes Go.WideShapes Go.ChangeAt
open Go.Proofs.Ytlgcnjcbmihefaa

set_option maxRecDepth 100000 in
theorem lifted (os : Os) (started : os.Started) (H : Type) (enc : TypeId × Value → H) :
    ReturnsInHanded {} Try.checked os 5 .any (Rows.shoalLiesSpec.pre6 enc Try.prog Try.f5 Rows.shoalLiesRow.domain false) (Rows.shoalLiesSpec.post enc Try.prog Try.f5 false true false false) := by
  refine returnsInHanded_of_change_sized (C := Try.checked) own started (by kernel_rfl) Try.func5
    (ChangeSpec.witness6 (enc := enc) (C := Try.checked) false ⟨#[], #[.agg #[.int .i64 0, .int .i64 0, .slice none 0 0, .int .i64 0, .slice none 0 0, .int .i64 0, .slice none 0 0]], []⟩ 8 (by kernel_rfl) (by kernel_rfl) (by kernel_rfl) (by kernel_rfl)) ?_
  intro W base args ds gs before hval0 hW hcnd hsz0 _
  have hval : ∀ (j : Nat) t v, Try.f5.params[j]? = some t → args[j]? = some v → Value.okWide Try.prog W .any base t v := hval0
  have hsz : (DataW.weightsEach Try.prog (Try.f5.params.toList ++ Rows.shoalLiesSpec.plain.varTypes Try.prog) (ds ++ gs)).all (· ≤ reachBytes) = true := hsz0
  have hW' := hW
  obtain ⟨p, q, hA0, hV, rfl, hfz, hnd⟩ := hW
  have hA : DataW.TrodAll enc Try.prog W 0 (fun _ => true) true Try.f5.params.toList args.toList ds p := hA0
  rw [Try.params5] at hA hval hsz
  obtain ⟨v0, vs0, d0, ds0, p0, q0, hargs, rfl, rfl, h0, r0⟩ := trodAll_cons hA
  obtain ⟨rfl, rfl, rfl⟩ := trodAll_nil r0
  obtain rfl : args = #[v0] := by cases args; simp_all
  obtain ⟨rfl, rfl⟩ := trodVars_none hV
  have k0 := h0
  have lt0 : ∀ x ∈ p0, x.block < W.heap.size := by obtain ⟨m, hm⟩ := k0; exact DataW.trod_lt m _ _ _ hm
  obtain ⟨D, rs, hs⟩ := search_open (hval 0 28 v0 rfl rfl) h0 (weights_of hsz 0 rfl rfl)
  clear hA0 hval0
  refine (ShoalLies_any D rs v0 W hs).calls.mono fun e W' ⟨he, bel⟩ => ?_
  subst he
  exact ⟨_, rfl, _, _, _, [], _, [], hW', trodAll_mk1 (shut_bool Try.underlying4 _), (trodAll_cons_mk (Below.trod laidOut (by kernel_rfl) (of_decide_eq_true (by kernel_rfl)) k0 bel lt0) trodAll_mk0), rfl, bel.frame _, fun h => by cases h⟩

theorem over : Rows.shoalLiesRow.holds Try.pinned (OpenSpec.ofChange Rows.shoalLiesSpec) :=
  OpenClaim.holds_of_wide 5 Try.f5 rfl rfl rfl rfl rfl rfl rfl ⟨rfl, rfl, rfl, rfl, rfl⟩ rfl rfl rfl rfl rfl (by kernel_rfl) Try.func5 (by kernel_rfl)
    (of_decide_eq_true (by kernel_rfl)) (by unfold Func.isWrapper; rw [if_neg (of_decide_eq_false (by kernel_rfl))]; exact ⟨rfl, rfl⟩)
    (fun os started H enc _ => lifted os started H enc)

theorem proved : Rows.ShoalLiesSaid := over
end Go.Proofs.Ytlgcnjcbmihefaa.shoalLies
