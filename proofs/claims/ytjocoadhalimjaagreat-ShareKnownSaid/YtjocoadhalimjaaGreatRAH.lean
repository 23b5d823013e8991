/- What each stake gets, by ranks. -/
import Derived.Test.YtjocoadhalimjaaGreatRAG
set_option linter.unusedSimpArgs false
set_option linter.unusedVariables false
namespace Go.Proofs.YtjocoadhalimjaaGreat
section
open Go Go.RowKit Go.Shelf

theorem map_getD {α β : Type} (f : α → β) (d : α) (l : List α) : (List.range l.length).map (fun i => f (l.getD i d)) = l.map f := by
  refine List.ext_getElem (by simp) fun i h1 h2 => ?_
  have hi : i < l.length := by simpa using h2
  simp [hi]
def wN (l : List Stk) (i : Nat) : Nat := (l.getD i noStk).weight.toNat
def ltN (l : List Stk) (i j : Nat) : Bool := nmLt (l.getD i noStk).name (l.getD j noStk).name
theorem sum_cast (l : List Nat) (f : Nat → Int) (g : Nat → Nat) (h : ∀ i ∈ l, f i = g i) : (l.map f).sum = (Sv.tot l g : Nat) := by
  induction l with
  | nil => rfl
  | cons a l ih =>
    rw [List.map_cons, List.sum_cons, ih fun i hi => h i (.tail _ hi), Sv.tot_cons, h a (.head _)]; simp
theorem wN_cast {l : List Stk} (hw : ∀ s ∈ l, 0 ≤ s.weight) {i : Nat} (hi : i < l.length) : (l.getD i noStk).weight = (wN l i : Nat) := by
  unfold wN
  rw [getD_of hi, Int.toNat_of_nonneg (hw _ (List.getElem_mem _))]
theorem sumW_tot {l : List Stk} (hw : ∀ s ∈ l, 0 ≤ s.weight) : sumW l = (Sv.tot (List.range l.length) (wN l) : Nat) := by
  unfold sumW
  rw [← map_getD (fun s : Stk => s.weight) noStk l]
  exact sum_cast _ _ _ fun i hi => wN_cast hw (List.mem_range.1 hi)
theorem ltN_orders {l : List Stk} (hd : (l.map (·.name)).Nodup) : Sv.Orders (List.range l.length) (ltN l) := by
  refine ⟨fun i _ => nmLt_irr _, fun i j k _ _ _ h1 h2 => nmLt_tr h1 h2, fun i j hi hj hn => ?_⟩
  rw [List.mem_range] at hi hj
  unfold ltN
  rw [getD_of hi, getD_of hj]
  cases h1 : nmLt l[i].name l[j].name with
  | true => exact .inl rfl
  | false =>
    cases h2 : nmLt l[j].name l[i].name with
    | true => exact .inr rfl
    | false =>
      exfalso
      have he := names_inj (nmLt_tot h1 h2)
      have hd := List.pairwise_iff_getElem.1 hd
      rcases Nat.lt_or_gt_of_ne hn with hlt | hlt
      · exact hd i j (by simpa using hi) (by simpa using hj) hlt (by simp [he])
      · exact hd j i (by simpa using hj) (by simpa using hi) hlt (by simp [he])
section
variable {P : Int} {l : List Stk}
theorem shrs_get {i : Nat} (hi : i < l.length) : (shrs P (sumW l) l).getD i noShr = shrOf P (sumW l) (l.getD i noStk) := by
  unfold shrs
  rw [getD_of (by simpa using hi), getD_of hi, List.getElem_map]
theorem rest_cast (hP : 0 ≤ P) (hw : ∀ s ∈ l, 0 ≤ s.weight) {i : Nat} (hi : i < l.length) :
    ((shrs P (sumW l) l).getD i noShr).rest = (Sv.rst P.toNat (Sv.tot (List.range l.length) (wN l)) (wN l) i : Nat) ∧ ((shrs P (sumW l) l).getD i noShr).pence = (Sv.quo P.toNat (Sv.tot (List.range l.length) (wN l)) (wN l) i : Nat) := by
  rw [shrs_get hi]
  unfold shrOf Sv.rst Sv.quo
  simp only [sumW_tot hw, wN_cast hw hi]
  have hPn : P = (P.toNat : Int) := (Int.toNat_of_nonneg hP).symm
  constructor
  · conv => lhs; rw [hPn]
    norm_cast
  · conv => lhs; rw [hPn]
    norm_cast
theorem rest_bef (hP : 0 ≤ P) (hw : ∀ s ∈ l, 0 ≤ s.weight) {i j : Nat} (hi : i < l.length) (hj : j < l.length) :
    restLt ((shrs P (sumW l) l).getD i noShr) ((shrs P (sumW l) l).getD j noShr) = Sv.bef P.toNat (Sv.tot (List.range l.length) (wN l)) (wN l) (ltN l) i j := by
  unfold restLt Sv.bef
  rw [(rest_cast hP hw hi).1, (rest_cast hP hw hj).1]
  have e1 : ((shrs P (sumW l) l).getD i noShr).name = (l.getD i noStk).name := by rw [shrs_get hi]; rfl
  have e2 : ((shrs P (sumW l) l).getD j noShr).name = (l.getD j noStk).name := by rw [shrs_get hj]; rfl
  rw [e1, e2]
  unfold ltN
  generalize Sv.rst P.toNat (Sv.tot (List.range l.length) (wN l)) (wN l) i = x
  generalize Sv.rst P.toNat (Sv.tot (List.range l.length) (wN l)) (wN l) j = y
  congr 1
  · exact decide_eq_decide.mpr (by omega)
  · congr 1
    rw [Bool.eq_iff_iff, beq_iff_eq, beq_iff_eq]; omega
theorem left_cast (hP : 0 ≤ P) (hw : ∀ s ∈ l, 0 ≤ s.weight) (hA : 0 < sumW l) : (leftTo P (sumW l) l l.length).toNat = Sv.left (List.range l.length) P.toNat (wN l) := by
  unfold leftTo Sv.left
  rw [List.take_length, ← map_getD (fun s : Stk => P * s.weight / sumW l) noStk l]
  rw [sum_cast _ _ (Sv.quo P.toNat (Sv.tot (List.range l.length) (wN l)) (wN l)) fun i hi => ?_]
  · omega
  · have hi := List.mem_range.1 hi
    have := (rest_cast (P := P) hP hw hi).2
    rw [shrs_get hi] at this
    exact this
/-- What each stake gets is what its rank gives it. -/
theorem giveTo_eq (hP : 0 ≤ P) (hw : ∀ s ∈ l, 0 ≤ s.weight) (hA : 0 < sumW l) (hd : (l.map (·.name)).Nodup) {i : Nat} (hi : i < l.length) :
    giveTo P l i = (Sv.gets (List.range l.length) P.toNat (wN l) (ltN l) i : Nat) := by
  have hsl : (shrs P (sumW l) l).length = l.length := by simp [shrs]
  have hO := Sv.bef_orders P.toNat (Sv.tot (List.range l.length) (wN l)) (wN l) (ltN_orders hd)
  obtain ⟨σ, h1, h2⟩ := Sv.sort_all _ hO List.nodup_range
  have hm : ∀ k ∈ σ, k < l.length := fun k hk => List.mem_range.1 (h1.mem_iff.1 hk)
  have hnm : (shrs P (sumW l) l).map (·.name) = l.map (·.name) := by simp [shrs, shrOf, Function.comp_def]
  have hso : σ.map (fun k => (shrs P (sumW l) l).getD k noShr) = sortR (shrs P (sumW l) l) := by
    refine sortR_eq (by rw [hnm]; exact hd) ?_ ?_
    · have := h1.map (fun k => (shrs P (sumW l) l).getD k noShr)
      rw [← hsl, map_getD (fun s : Shr => s) noShr (shrs P (sumW l) l)] at this
      simpa using this
    · unfold byRests
      rw [List.pairwise_map]
      refine h2.imp_of_mem fun {a b} ha hb hab => ?_
      refine restLt_asym ?_
      rw [rest_bef hP hw (hm a ha) (hm b hb)]; exact hab
  unfold giveTo getsTo Sv.gets
  rw [← hso, left_cast hP hw hA, (rest_cast hP hw hi).2, ← List.map_take, List.countP_map]
  have hc : (σ.take (Sv.left (List.range l.length) P.toNat (wN l))).countP ((fun f => eqS ((shrs P (sumW l) l).getD i noShr) f) ∘ fun k => (shrs P (sumW l) l).getD k noShr) = if Sv.rank (List.range l.length) (Sv.bef P.toNat (Sv.tot (List.range l.length) (wN l)) (wN l) (ltN l)) i < Sv.left (List.range l.length) P.toNat (wN l) then 1 else 0 := by
    have hnd : (σ.take (Sv.left (List.range l.length) P.toNat (wN l))).Nodup := (h1.nodup_iff.2 List.nodup_range).sublist (List.take_sublist _ _)
    have hcc : (σ.take (Sv.left (List.range l.length) P.toNat (wN l))).countP ((fun f => eqS ((shrs P (sumW l) l).getD i noShr) f) ∘ fun k => (shrs P (sumW l) l).getD k noShr) = (σ.take (Sv.left (List.range l.length) P.toNat (wN l))).count i := by
      unfold List.count
      refine List.countP_congr fun k hk => ?_
      have hkl := hm k (List.mem_of_mem_take hk)
      simp only [Function.comp, eqS_iff, beq_iff_eq]
      constructor
      · intro he
        have hne : (l.getD i noStk).name = (l.getD k noStk).name := by
          have := congrArg Shr.name he
          rw [shrs_get hi, shrs_get hkl] at this; exact this
        apply Classical.byContradiction
        intro hik
        rcases (ltN_orders hd).tot i k (List.mem_range.2 hi) (List.mem_range.2 hkl) (fun e => hik e.symm) with h | h
        · unfold ltN at h; rw [hne, nmLt_irr] at h; cases h
        · unfold ltN at h; rw [hne, nmLt_irr] at h; cases h
      · rintro rfl; rfl
    rw [hcc, List.Nodup.count hnd]
    have hmt := Sv.mem_take σ (Sv.left (List.range l.length) P.toNat (wN l)) i (hO.mono fun k hk => h1.mem_iff.1 hk) h2
    have hiσ : i ∈ σ := h1.mem_iff.2 (List.mem_range.2 hi)
    rw [Sv.rank_perm h1] at hmt
    by_cases hr : Sv.rank (List.range l.length) (Sv.bef P.toNat (Sv.tot (List.range l.length) (wN l)) (wN l) (ltN l)) i < Sv.left (List.range l.length) P.toNat (wN l)
    · rw [if_pos hr, if_pos (hmt.2 ⟨hiσ, hr⟩)]
    · rw [if_neg hr, if_neg fun h => hr (hmt.1 h).2]
  rw [hc]
  simp
end
end
section
open Go Go.RowKit Go.Shelf

def NamesAt (w : World) (v : Value) (l : List ByteArray) : Prop :=
  ∃ a cap, v = .slice a l.length cap ∧ (l.length ≤ cap ∧ l.length ≤ 1000000000000000) ∧ ∀ i (h : i < l.length), ∃ b off, a = some ⟨b, off, none⟩ ∧ b < w.heap.size ∧ w.cell? ⟨b, off + i, none⟩ = some (.string l[i])
/-- The place of a name, or -1. -/
def placeN (l : List ByteArray) (n : ByteArray) : Int := match l.findIdx? (fun x => x.toList == n.toList) with | some i => (i : Int) | none => -1
theorem placeN_at {l : List ByteArray} {n : ByteArray} {k : Nat} (h : k < l.length) (h0 : ∀ j, j < k → ((l.getD j ByteArray.empty).toList == n.toList) = false) (h1 : l[k].toList = n.toList) : placeN l n = k := by
  unfold placeN
  have : l.findIdx? (fun x => x.toList == n.toList) = some k := by
    rw [List.findIdx?_eq_some_iff_getElem]
    refine ⟨h, by simp [h1], fun j hj => ?_⟩
    have := h0 j hj
    rw [getD_of (by omega)] at this
    simpa using this
  rw [this]
theorem placeN_none {l : List ByteArray} {n : ByteArray} (h0 : ∀ j, j < l.length → ((l.getD j ByteArray.empty).toList == n.toList) = false) : placeN l n = -1 := by
  unfold placeN
  have : l.findIdx? (fun x => x.toList == n.toList) = none := by
    rw [List.findIdx?_eq_none_iff]
    intro x hx
    obtain ⟨j, hj, rfl⟩ := List.getElem_of_mem hx
    have := h0 j hj
    rw [getD_of hj] at this
    exact this
  rw [this]
set_option maxHeartbeats 1000000 in
theorem PlaceOf_any (v : Value) (l : List ByteArray) (n : ByteArray) (w : World) (hv : NamesAt w v l) :
    Cal 73 #[v, .string n] w fun e w' => e = .returned (.int .i64 (placeN l n)) ∧ w = w' := by
  obtain ⟨a, cap, rfl, ⟨hcap, hlen⟩, hc⟩ := hv
  have HC := hid hc
  clear hc
  gi_enter Tryz.func73, Tryz.ntmps73
  gi_wp2
  gi_loop [5] (fun i => ∃ k : Nat, k ≤ l.length ∧ i = .int .i64 k ∧ Hid (∀ j, j < k → ((l.getD j ByteArray.empty).toList == n.toList) = false)) (fun i => l.length - (intOf i).toNat)
  case atStart => exact ⟨0, Nat.zero_le _, rfl, fun _ h => absurd h (by omega)⟩
  case round =>
    obtain ⟨k, hk, rfl, HG⟩ := hrel
    by_cases hlt : k < l.length
    · have hki : (k : Int) < (l.length : Int) := by omega
      obtain ⟨b, off, rfl, hbb, hck⟩ := HC.out k hlt
      by_cases he : l[k].toList = n.toList
      · have HF := hid (placeN_at hlt HG.out he)
        clear HG
        generalize l[k] = x at *
        have heb : (x.toList == n.toList) = true := by simp [he]
        clear he
        gi_wp2
        go_ret
        exact ⟨by rw [HF.out]; rfl, rfl⟩
      · have HU : Hid (∀ j, j < k + 1 → ((l.getD j ByteArray.empty).toList == n.toList) = false) := fun j hj => by
          by_cases hjk : j < k
          · exact HG.out j hjk
          · obtain rfl : j = k := by omega
            rw [getD_of hlt]; simpa using he
        clear HG
        generalize l[k] = x at *
        have heb : (x.toList == n.toList) = false := by simpa using he
        clear he
        gi_wp2
        go_round
        case rel => exact ⟨k + 1, by omega, by go_num, HU⟩
        case measure => simp [intOf]; omega
    · obtain rfl : k = l.length := by omega
      have HT := hid (placeN_none HG.out)
      clear HG
      gi_wp2
      go_ret
      exact ⟨by rw [HT.out]; rfl, rfl⟩
end
section
open Go Go.RowKit Go.Shelf

theorem info9 : (Tryz.prog.info? 9).map (fun i => (i.zero, i.size, i.bytes)) = some (some (.string ByteArray.empty), 1, 16) := by kernel_rfl
def nmV (l : List Stk) : List Value := l.map fun s => .string s.name
theorem NamesAt.of_row {w : World} {v : Value} {l : List Stk} (h : Row w 9 1 v l.length (nmV l)) (hl : l.length ≤ 1000) : NamesAt w v (l.map (·.name)) := by
  obtain ⟨_, h⟩ := h
  rcases h with ⟨rfl, h0⟩ | ⟨g, cap, cur, rfl, hg, h1, h2, h3, h4⟩
  · exact ⟨none, 0, by simp [h0], ⟨by simp [h0], by simp [h0]⟩, fun i hi => by simp at hi; omega⟩
  · refine ⟨_, cap, by simp, ⟨by simpa using h1, by simp; omega⟩, fun i hi => ⟨g, 0, rfl, lt_of_block hg, ?_⟩⟩
    have hi' : i < l.length := by simpa using hi
    rw [cell_of hg, Nat.zero_add, ← Array.getElem?_toList]
    have : cur.toList[i]? = (nmV l)[i]? := by rw [← h4, List.getElem?_take, if_pos (by omega)]
    rw [this]
    simp [nmV, hi']
theorem place_met (l : List Stk) (n : ByteArray) : decide (placeN (l.map (·.name)) n < 0) = !metB l n := by
  unfold placeN metB
  rw [List.findIdx?_map]
  cases hm : l.any fun t => t.name.toList == n.toList with
  | true =>
    rw [List.any_eq_true] at hm
    obtain ⟨s, hs, he⟩ := hm
    cases hf : l.findIdx? ((fun x : ByteArray => x.toList == n.toList) ∘ fun s : Stk => s.name) with
    | none =>
      rw [List.findIdx?_eq_none_iff] at hf
      have := hf s hs
      simp only [Function.comp] at this
      rw [he] at this; cases this
    | some i => simp
  | false =>
    rw [List.any_eq_false] at hm
    rw [List.findIdx?_eq_none_iff.2 fun s hs => by simpa using hm s hs]
    simp
set_option maxRecDepth 100000 in
set_option maxHeartbeats 4000000 in
theorem stakes_any (v : Value) (l : List Stk) (w : World) (hv : StakesAt w v l) (hn : ∀ s ∈ l, s.name.size ≤ maxLen) :
    Cal 50 #[v] w fun e w' => e = .returned (.bool (stakesB l)) ∧ Ext w w' := by
  obtain ⟨a, cap, rfl, ⟨hcap, hlen⟩, hc⟩ := hv
  have HC := hid hc
  have HNM := hid hn
  clear hc hn
  gi_enter Tryz.func50, Tryz.ntmps50
  obtain ⟨b10, h10⟩ : ∃ b, decide (l.length ≤ 10) = b := ⟨_, rfl⟩
  have HS : Hid (stakesB l = (b10 && allTo (stakeGood l) l.length)) := hid (by unfold stakesB; rw [h10])
  have HLE : Hid (b10 = true → l.length ≤ 10) := hid (fun h => by rw [h] at h10; simpa using h10)
  have hi10 : decide ((l.length : Int) ≤ 10) = b10 := by
    rw [← h10]; exact decide_eq_decide.mpr (by omega)
  clear h10
  gi_wp2_with fail
  clear hi10
  gi_loopw [3, 4, 5] (fun ok u4 i wr => ∃ k : Nat, k ≤ l.length ∧ i = .int .i64 k ∧ ∃ bk : Bool, ok = .bool bk ∧ Hid (Ext w wr ∧ (bk = true → b10 = true ∧ (∀ j, j < k → stakeGood l j = true) ∧ Row wr 9 1 u4 k (nmV (l.take k)) ∧ ∀ g, u4.ownBlock = some g → w.heap.size ≤ g) ∧ (bk = false → stakesB l = false))) (fun _ _ i _ => l.length - (intOf i).toNat)
  case atStart => exact ⟨0, Nat.zero_le _, rfl, b10, rfl, hid ⟨Ext.refl _, fun h => ⟨h, fun j hj => absurd hj (by omega), by simpa [nmV] using Row.nil w 9 1, fun g hg => by simp [Value.ownBlock] at hg⟩, fun h => by rw [HS.out, h]; rfl⟩⟩
  case round =>
    obtain ⟨k, hk, rfl, bk, rfl, HI⟩ := hrel
    cases bk with
    | false =>
      have HF := hid (HI.out.2.2 rfl)
      have HX := hid HI.out.1
      clear HI
      gi_wp2_with fail
      go_ret
      exact ⟨by rw [HF.out]; rfl, HX.out⟩
    | true =>
      obtain ⟨hb10, hgood, hrow, hown⟩ := HI.out.2.1 rfl
      have HX := hid HI.out.1
      have HG := hid hgood
      have HSS : Hid (stakesB l = allTo (stakeGood l) l.length) := hid (by rw [HS.out, hb10]; rfl)
      have hl10 := HLE.out hb10
      have HB10 := hid hb10
      clear HI hgood hb10 HS HLE
      by_cases hlt : k < l.length
      · have hki : (k : Int) < (l.length : Int) := by omega
        have hk2 : (l.take k).length = k := by rw [List.length_take]; omega
        have HNA := hid (NamesAt.of_row (l := l.take k) (by rw [hk2]; exact hrow) (by omega))
        obtain ⟨b, off, rfl, hbb, c0, c1⟩ := HC.out k hlt
        rw [← HX.out.cell (p := ⟨b, _, none⟩) hbb] at c0 c1
        have hsz := HNM.out l[k] (List.getElem_mem _)
        have HQ : Hid (stakeGood l k = (nameB l[k].name && (!(metB (l.take k) l[k].name) && inB l[k].weight 0 1000))) := hid (by unfold stakeGood; rw [getD_of hlt])
        have HTK : Hid (nmV (l.take (k + 1)) = nmV (l.take k) ++ [.string l[k].name]) := hid (by unfold nmV; rw [List.take_succ_eq_append_getElem hlt, List.map_append]; rfl)
        generalize l[k] = s at *
        have HNB := hid (IsName_any s.name wr hsz)
        have HPL := hid (PlaceOf_any u4 _ s.name wr HNA.out)
        have hpm := place_met (l.take k) s.name
        have HIW := hid (In_any s.weight 0 1000 wr)
        have HROW := hid hrow
        have HOWN := hid hown
        obtain ⟨na, nc, rfl⟩ := hrow.isSliceN
        clear hrow hown HNM HC HNA hk2
        generalize placeN ((l.take k).map (·.name)) s.name = pl at *
        generalize metB (l.take k) s.name = q at *
        generalize nameB s.name = p at *
        generalize inB s.weight 0 1000 = r at *
        have HRW := hid (HROW.out.mono ((Ext.refl wr).alloc (.cells #[.string s.name] 9)))
        have HNW : Hid (∀ j u, ([.string s.name] : List Value)[j]? = some u → (wr.alloc (.cells #[.string s.name] 9)).cell? ((⟨wr.heap.size, 0, none⟩ : Addr).add j) = some u) := fun j u hj => by rw [Addr.add_mid, Nat.zero_add, new_cell _ _ rfl]; simpa using hj
        obtain ⟨i0, hi0, hz0, hz1, hz2⟩ := info_parts info9
        have HZ := hid (And.intro hi0 (And.intro hz0 (And.intro hz1 hz2)))
        have hmax : k + 1 ≤ 1000000000 := by omega
        clear hi0 hz0 hz1 hz2
        have hgo : Hid (∀ (bk : Bool) v' w', bk = (p && (!q && r)) → Row w' 9 1 v' (k + 1) (nmV (l.take k) ++ [.string s.name]) → (wr.alloc (.cells #[.string s.name] 9)).grownBy w' (Value.slice na k nc).ownBlock → (v'.ownBlock = (Value.slice na k nc).ownBlock ∨ v'.ownBlock = some (wr.alloc (.cells #[.string s.name] 9)).heap.size) →
            (Ext w w' ∧ (bk = true → b10 = true ∧ (∀ j, j < k + 1 → stakeGood l j = true) ∧ Row w' 9 1 v' (k + 1) (nmV (l.take (k + 1))) ∧ ∀ g, v'.ownBlock = some g → w.heap.size ≤ g) ∧ (bk = false → stakesB l = false))) := hid (by
          intro bk v' w' hbk hrow' hgr' how'
          have hsz2 := HX.out.size
          have hbel : Ext w w' := Below.trans (HX.out.alloc _) ⟨hgr'.os, hgr'.tape, hgr'.output, hgr'.size, fun j hj => hgr'.block j (by simp; omega) (fun e => by have := HOWN.out j e.symm; omega)⟩
          refine ⟨hbel, fun hb => ⟨HB10.out, upTo_succ HG.out (by rw [HQ.out, ← hbk]; exact hb), by rw [HTK.out]; exact hrow', fun g hg => ?_⟩, fun hb => by rw [HSS.out]; exact allTo_no hlt (by rw [HQ.out, ← hbk]; exact hb)⟩
          rcases how' with e | e
          · exact HOWN.out g (by rw [← e]; exact hg)
          · rw [hg] at e; cases e; simp; omega)
        clear HG HQ HTK HSS HOWN HROW
        cases p <;> cases q <;> cases r
        all_goals
          have hpl : decide (pl < 0) = _ := hpm
          simp only [Bool.not_true, Bool.not_false] at hpl
          clear hpm
          gi_wp2_with (first | (gi_at_call 72; ((with_reducible refine (HNB.out).mono ?_); rintro e w1 ⟨rfl, rfl⟩)) | (gi_at_call 73; ((with_reducible refine (HPL.out).mono ?_); rintro e w1 ⟨rfl, rfl⟩)) | (gi_at_call 29; ((with_reducible refine (HIW.out).mono ?_); rintro e w1 ⟨rfl, rfl⟩)) | (refine wpIn_append_row (fun _ => trivial) rfl (.tmp 42) (.tmp 48) rfl Tryz.underlying110 HZ.out.1 HZ.out.2.1 HZ.out.2.2.1 HZ.out.2.2.2 (by simp [Value.cells]) (by omega) (v := .slice na k nc) rfl HRW.out ⟨wr.heap.size, 0, none⟩ 1 rfl [.string s.name] rfl HNW.out (fun u hu => by simp at hu; subst hu; rfl) hmax (by omega) ?_; intro v' w' hrow' hgr' how'))
          go_roundw
          case rel => exact ⟨k + 1, by omega, by go_num, _, rfl, hid (hgo.out _ v' w' rfl hrow' hgr' how')⟩
          case measure => simp [intOf]; omega
      · obtain rfl : k = l.length := by omega
        have HT : Hid (stakesB l = true) := hid (by rw [HSS.out]; exact allTo_yes HG.out)
        clear HG
        obtain ⟨na, nc, rfl⟩ := hrow.isSliceN
        clear hrow hown
        gi_wp2_with fail
        go_ret
        exact ⟨by rw [HT.out]; rfl, HX.out⟩
end
end Go.Proofs.YtjocoadhalimjaaGreat
