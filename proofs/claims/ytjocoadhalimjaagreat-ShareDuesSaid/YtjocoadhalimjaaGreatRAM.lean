/- The reference: stakes. -/
import Derived.Test.YtjocoadhalimjaaGreatRAL
set_option linter.unusedSimpArgs false
set_option linter.unusedVariables false
namespace Go.Proofs.YtjocoadhalimjaaGreat
section
open Go Go.RowKit Go.Shelf

theorem info9 : (Tryz.prog.info? 9).map (fun i => (i.zero, i.size, i.bytes)) = some (some (.string ByteArray.empty), 1, 16) := by kernel_rfl
def nmV (l : List Stk) : List Value := l.map fun s => .string s.name
theorem NamesAt.of_row {w : World} {v : Value} {l : List Stk} (h : Row w 9 1 v l.length (nmV l)) (hl : l.length ≤ 1000) : NamesAt w v (l.map (·.name)) := by
  obtain ⟨_, h⟩ := h
  rcases h with ⟨rfl, h0⟩ | ⟨g, cap, cur, rfl, hg, h1, h2, h3, h4⟩
  · exact ⟨none, 0, by simp [h0], ⟨by simp [h0], by simp [h0]⟩, fun i hi => by simp at hi; omega⟩
  · refine ⟨_, cap, by simp, ⟨by simpa using h1, by simp; omega⟩, fun i hi => ⟨g, 0, rfl, lt_of_block hg, ?_⟩⟩
    have hi' : i < l.length := by simpa using hi
    rw [cell_of hg, Nat.zero_add, ← Array.getElem?_toList]
    have : cur.toList[i]? = (nmV l)[i]? := by rw [← h4, List.getElem?_take, if_pos (by omega)]
    rw [this]
    simp [nmV, hi']
theorem place_met (l : List Stk) (n : ByteArray) : decide (placeN (l.map (·.name)) n < 0) = !metB l n := by
  unfold placeN metB
  rw [List.findIdx?_map]
  cases hm : l.any fun t => t.name.toList == n.toList with
  | true =>
    rw [List.any_eq_true] at hm
    obtain ⟨s, hs, he⟩ := hm
    cases hf : l.findIdx? ((fun x : ByteArray => x.toList == n.toList) ∘ fun s : Stk => s.name) with
    | none =>
      rw [List.findIdx?_eq_none_iff] at hf
      have := hf s hs
      simp only [Function.comp] at this
      rw [he] at this; cases this
    | some i => simp
  | false =>
    rw [List.any_eq_false] at hm
    rw [List.findIdx?_eq_none_iff.2 fun s hs => by simpa using hm s hs]
    simp
set_option maxRecDepth 100000 in
set_option maxHeartbeats 4000000 in
theorem stakes_any (v : Value) (l : List Stk) (w : World) (hv : StakesAt w v l) (hn : ∀ s ∈ l, s.name.size ≤ maxLen) :
    Cal 50 #[v] w fun e w' => e = .returned (.bool (stakesB l)) ∧ Ext w w' := by
  obtain ⟨a, cap, rfl, ⟨hcap, hlen⟩, hc⟩ := hv
  have HC := hid hc
  have HNM := hid hn
  clear hc hn
  gi_enter Tryz.func50, Tryz.ntmps50
  obtain ⟨b10, h10⟩ : ∃ b, decide (l.length ≤ 10) = b := ⟨_, rfl⟩
  have HS : Hid (stakesB l = (b10 && allTo (stakeGood l) l.length)) := hid (by unfold stakesB; rw [h10])
  have HLE : Hid (b10 = true → l.length ≤ 10) := hid (fun h => by rw [h] at h10; simpa using h10)
  have hi10 : decide ((l.length : Int) ≤ 10) = b10 := by
    rw [← h10]; exact decide_eq_decide.mpr (by omega)
  clear h10
  gi_wp2_with fail
  clear hi10
  gi_loopw [3, 4, 5] (fun ok u4 i wr => ∃ k : Nat, k ≤ l.length ∧ i = .int .i64 k ∧ ∃ bk : Bool, ok = .bool bk ∧ Hid (Ext w wr ∧ (bk = true → b10 = true ∧ (∀ j, j < k → stakeGood l j = true) ∧ Row wr 9 1 u4 k (nmV (l.take k)) ∧ ∀ g, u4.ownBlock = some g → w.heap.size ≤ g) ∧ (bk = false → stakesB l = false))) (fun _ _ i _ => l.length - (intOf i).toNat)
  case atStart => exact ⟨0, Nat.zero_le _, rfl, b10, rfl, hid ⟨Ext.refl _, fun h => ⟨h, fun j hj => absurd hj (by omega), by simpa [nmV] using Row.nil w 9 1, fun g hg => by simp [Value.ownBlock] at hg⟩, fun h => by rw [HS.out, h]; rfl⟩⟩
  case round =>
    obtain ⟨k, hk, rfl, bk, rfl, HI⟩ := hrel
    cases bk with
    | false =>
      have HF := hid (HI.out.2.2 rfl)
      have HX := hid HI.out.1
      clear HI
      gi_wp2_with fail
      go_ret
      exact ⟨by rw [HF.out]; rfl, HX.out⟩
    | true =>
      obtain ⟨hb10, hgood, hrow, hown⟩ := HI.out.2.1 rfl
      have HX := hid HI.out.1
      have HG := hid hgood
      have HSS : Hid (stakesB l = allTo (stakeGood l) l.length) := hid (by rw [HS.out, hb10]; rfl)
      have hl10 := HLE.out hb10
      have HB10 := hid hb10
      clear HI hgood hb10 HS HLE
      by_cases hlt : k < l.length
      · have hki : (k : Int) < (l.length : Int) := by omega
        have hk2 : (l.take k).length = k := by rw [List.length_take]; omega
        have HNA := hid (NamesAt.of_row (l := l.take k) (by rw [hk2]; exact hrow) (by omega))
        obtain ⟨b, off, rfl, hbb, c0, c1⟩ := HC.out k hlt
        rw [← HX.out.cell (p := ⟨b, _, none⟩) hbb] at c0 c1
        have hsz := HNM.out l[k] (List.getElem_mem _)
        have HQ : Hid (stakeGood l k = (nameB l[k].name && (!(metB (l.take k) l[k].name) && inB l[k].weight 0 1000))) := hid (by unfold stakeGood; rw [getD_of hlt])
        have HTK : Hid (nmV (l.take (k + 1)) = nmV (l.take k) ++ [.string l[k].name]) := hid (by unfold nmV; rw [List.take_succ_eq_append_getElem hlt, List.map_append]; rfl)
        generalize l[k] = s at *
        have HNB := hid (IsName_any s.name wr hsz)
        have HPL := hid (PlaceOf_any u4 _ s.name wr HNA.out)
        have hpm := place_met (l.take k) s.name
        have HIW := hid (In_any s.weight 0 1000 wr)
        have HROW := hid hrow
        have HOWN := hid hown
        obtain ⟨na, nc, rfl⟩ := hrow.isSliceN
        clear hrow hown HNM HC HNA hk2
        generalize placeN ((l.take k).map (·.name)) s.name = pl at *
        generalize metB (l.take k) s.name = q at *
        generalize nameB s.name = p at *
        generalize inB s.weight 0 1000 = r at *
        have HRW := hid (HROW.out.mono ((Ext.refl wr).alloc (.cells #[.string s.name] 9)))
        have HNW : Hid (∀ j u, ([.string s.name] : List Value)[j]? = some u → (wr.alloc (.cells #[.string s.name] 9)).cell? ((⟨wr.heap.size, 0, none⟩ : Addr).add j) = some u) := fun j u hj => by rw [Addr.add_mid, Nat.zero_add, new_cell _ _ rfl]; simpa using hj
        obtain ⟨i0, hi0, hz0, hz1, hz2⟩ := info_parts info9
        have HZ := hid (And.intro hi0 (And.intro hz0 (And.intro hz1 hz2)))
        have hmax : k + 1 ≤ 1000000000 := by omega
        clear hi0 hz0 hz1 hz2
        have hgo : Hid (∀ (bk : Bool) v' w', bk = (p && (!q && r)) → Row w' 9 1 v' (k + 1) (nmV (l.take k) ++ [.string s.name]) → (wr.alloc (.cells #[.string s.name] 9)).grownBy w' (Value.slice na k nc).ownBlock → (v'.ownBlock = (Value.slice na k nc).ownBlock ∨ v'.ownBlock = some (wr.alloc (.cells #[.string s.name] 9)).heap.size) →
            (Ext w w' ∧ (bk = true → b10 = true ∧ (∀ j, j < k + 1 → stakeGood l j = true) ∧ Row w' 9 1 v' (k + 1) (nmV (l.take (k + 1))) ∧ ∀ g, v'.ownBlock = some g → w.heap.size ≤ g) ∧ (bk = false → stakesB l = false))) := hid (by
          intro bk v' w' hbk hrow' hgr' how'
          have hsz2 := HX.out.size
          have hbel : Ext w w' := Below.trans (HX.out.alloc _) ⟨hgr'.os, hgr'.tape, hgr'.output, hgr'.size, fun j hj => hgr'.block j (by simp; omega) (fun e => by have := HOWN.out j e.symm; omega)⟩
          refine ⟨hbel, fun hb => ⟨HB10.out, upTo_succ HG.out (by rw [HQ.out, ← hbk]; exact hb), by rw [HTK.out]; exact hrow', fun g hg => ?_⟩, fun hb => by rw [HSS.out]; exact allTo_no hlt (by rw [HQ.out, ← hbk]; exact hb)⟩
          rcases how' with e | e
          · exact HOWN.out g (by rw [← e]; exact hg)
          · rw [hg] at e; cases e; simp; omega)
        clear HG HQ HTK HSS HOWN HROW
        cases p <;> cases q <;> cases r
        all_goals
          have hpl : decide (pl < 0) = _ := hpm
          simp only [Bool.not_true, Bool.not_false] at hpl
          clear hpm
          gi_wp2_with (first | (gi_at_call 72; ((with_reducible refine (HNB.out).mono ?_); rintro e w1 ⟨rfl, rfl⟩)) | (gi_at_call 73; ((with_reducible refine (HPL.out).mono ?_); rintro e w1 ⟨rfl, rfl⟩)) | (gi_at_call 29; ((with_reducible refine (HIW.out).mono ?_); rintro e w1 ⟨rfl, rfl⟩)) | (refine wpIn_append_row (fun _ => trivial) rfl (.tmp 42) (.tmp 48) rfl Tryz.underlying110 HZ.out.1 HZ.out.2.1 HZ.out.2.2.1 HZ.out.2.2.2 (by simp [Value.cells]) (by omega) (v := .slice na k nc) rfl HRW.out ⟨wr.heap.size, 0, none⟩ 1 rfl [.string s.name] rfl HNW.out (fun u hu => by simp at hu; subst hu; rfl) hmax (by omega) ?_; intro v' w' hrow' hgr' how'))
          go_roundw
          case rel => exact ⟨k + 1, by omega, by go_num, _, rfl, hid (hgo.out _ v' w' rfl hrow' hgr' how')⟩
          case measure => simp [intOf]; omega
      · obtain rfl : k = l.length := by omega
        have HT : Hid (stakesB l = true) := hid (by rw [HSS.out]; exact allTo_yes HG.out)
        clear HG
        obtain ⟨na, nc, rfl⟩ := hrow.isSliceN
        clear hrow hown
        gi_wp2_with fail
        go_ret
        exact ⟨by rw [HT.out]; rfl, HX.out⟩
end
section
open Go Go.RowKit Go.Shelf

/-- A loan is right but for who is who. -/
def loanB (f g : ByteArray) (n r : Int) : Bool := !(f.toList == g.toList) && (inB n 1 1000 && inB r 0 8)
set_option maxHeartbeats 2000000 in
theorem isLoan_any (f g : ByteArray) (n r : Int) (w : World) : Cal 95 #[.agg #[.string f, .string g, .int .i64 n, .int .i64 r]] w fun e w' => e = .returned (.bool (loanB f g n r)) ∧ Ext w w' := by
  have H1 := hid (fun (u : World) => isIn_any n 1 1000 u)
  have H2 := hid (fun (u : World) => isIn_any r 0 8 u)
  have HX : Hid (Ext w (w.alloc (.cells #[.string f, .string g, .int .i64 n, .int .i64 r] 59))) := hid ((Ext.refl _).alloc _)
  have HE : Hid (loanB f g n r = (!(f.toList == g.toList) && (inB n 1 1000 && inB r 0 8))) := hid rfl
  generalize inB n 1 1000 = p at *
  generalize inB r 0 8 = q at *
  generalize hb : (f.toList == g.toList) = b at *
  have hb2 : (f.toList = g.toList) ↔ b = true := by rw [← hb]; simp
  cases b <;> cases p <;> cases q
  all_goals
    have HR := hid (HE.out)
    simp only [Bool.not_true, Bool.not_false, Bool.and_true, Bool.and_false, Bool.false_and, Bool.true_and] at HR
    clear HE
    gi_enter Tryz.func95, Tryz.ntmps95
    gi_wp2_with (first | (gi_at_call 46; ((with_reducible refine (H1.out _).mono ?_); rintro e w1 ⟨rfl, rfl⟩)) | (gi_at_call 46; ((with_reducible refine (H2.out _).mono ?_); rintro e w1 ⟨rfl, rfl⟩)))
    go_ret
    exact ⟨by rw [HR.out]; first | rfl | simp, HX.out⟩
theorem debtsHas_any (a : Option Addr) (n cap : Nat) (i : Int) (hn : n ≤ 1000000) (w : World) : Cal 91 #[.slice a n cap, .int .i64 i] w fun e w' => e = .returned (.bool (inB i 0 ((n : Int) - 1))) ∧ w = w' := by
  have H1 := hid (fun (u : World) => isIn_any i 0 ((n : Int) - 1) u)
  have hw : wrap64 ((n : Int) - 1) = (n : Int) - 1 := by unfold wrap64; omega
  gi_enter Tryz.func91, Tryz.ntmps91
  gi_wp2_with (gi_at_call 46; ((with_reducible refine (H1.out _).mono ?_); rintro e w1 ⟨rfl, rfl⟩))
  go_ret
  exact ⟨rfl, rfl⟩
theorem pays_any (v : Value) (xs : List Int) (k : Nat) (hk : k < xs.length) (w : World) (hv : IntsAt w v xs) : Cal 105 #[v, .int .i64 k] w fun e w' => e = .returned (.bool (decide (xs[k] < 0))) ∧ w = w' := by
  obtain ⟨a, cap, rfl, ⟨hcap, hlen⟩, hc⟩ := hv
  obtain ⟨b, off, rfl, hbb, hck⟩ := hc k hk
  clear hc
  have hki : (k : Int) < (xs.length : Int) := by omega
  generalize xs[k] = x at *
  gi_enter Tryz.func105, Tryz.ntmps105
  gi_wp2
  go_ret
  exact ⟨rfl, rfl⟩
theorem gets_any (v : Value) (xs : List Int) (k : Nat) (hk : k < xs.length) (w : World) (hv : IntsAt w v xs) : Cal 107 #[v, .int .i64 k] w fun e w' => e = .returned (.bool (decide (0 < xs[k]))) ∧ w = w' := by
  obtain ⟨a, cap, rfl, ⟨hcap, hlen⟩, hc⟩ := hv
  obtain ⟨b, off, rfl, hbb, hck⟩ := hc k hk
  clear hc
  have hki : (k : Int) < (xs.length : Int) := by omega
  generalize xs[k] = x at *
  gi_enter Tryz.func107, Tryz.ntmps107
  gi_wp2
  go_ret
  exact ⟨rfl, rfl⟩
end
end Go.Proofs.YtjocoadhalimjaaGreat
