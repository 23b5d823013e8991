/- What each stake gets, by ranks. -/
import Derived.Test.YtjocoadhalimjaaGreatRAK
set_option linter.unusedSimpArgs false
set_option linter.unusedVariables false
namespace Go.Proofs.YtjocoadhalimjaaGreat
section
open Go Go.RowKit Go.Shelf

theorem map_getD {α β : Type} (f : α → β) (d : α) (l : List α) : (List.range l.length).map (fun i => f (l.getD i d)) = l.map f := by
  refine List.ext_getElem (by simp) fun i h1 h2 => ?_
  have hi : i < l.length := by simpa using h2
  simp [hi]
def wN (l : List Stk) (i : Nat) : Nat := (l.getD i noStk).weight.toNat
def ltN (l : List Stk) (i j : Nat) : Bool := nmLt (l.getD i noStk).name (l.getD j noStk).name
theorem sum_cast (l : List Nat) (f : Nat → Int) (g : Nat → Nat) (h : ∀ i ∈ l, f i = g i) : (l.map f).sum = (Sv.tot l g : Nat) := by
  induction l with
  | nil => rfl
  | cons a l ih =>
    rw [List.map_cons, List.sum_cons, ih fun i hi => h i (.tail _ hi), Sv.tot_cons, h a (.head _)]; simp
theorem wN_cast {l : List Stk} (hw : ∀ s ∈ l, 0 ≤ s.weight) {i : Nat} (hi : i < l.length) : (l.getD i noStk).weight = (wN l i : Nat) := by
  unfold wN
  rw [getD_of hi, Int.toNat_of_nonneg (hw _ (List.getElem_mem _))]
theorem sumW_tot {l : List Stk} (hw : ∀ s ∈ l, 0 ≤ s.weight) : sumW l = (Sv.tot (List.range l.length) (wN l) : Nat) := by
  unfold sumW
  rw [← map_getD (fun s : Stk => s.weight) noStk l]
  exact sum_cast _ _ _ fun i hi => wN_cast hw (List.mem_range.1 hi)
theorem ltN_orders {l : List Stk} (hd : (l.map (·.name)).Nodup) : Sv.Orders (List.range l.length) (ltN l) := by
  refine ⟨fun i _ => nmLt_irr _, fun i j k _ _ _ h1 h2 => nmLt_tr h1 h2, fun i j hi hj hn => ?_⟩
  rw [List.mem_range] at hi hj
  unfold ltN
  rw [getD_of hi, getD_of hj]
  cases h1 : nmLt l[i].name l[j].name with
  | true => exact .inl rfl
  | false =>
    cases h2 : nmLt l[j].name l[i].name with
    | true => exact .inr rfl
    | false =>
      exfalso
      have he := names_inj (nmLt_tot h1 h2)
      have hd := List.pairwise_iff_getElem.1 hd
      rcases Nat.lt_or_gt_of_ne hn with hlt | hlt
      · exact hd i j (by simpa using hi) (by simpa using hj) hlt (by simp [he])
      · exact hd j i (by simpa using hj) (by simpa using hi) hlt (by simp [he])
section
variable {P : Int} {l : List Stk}
theorem shrs_get {i : Nat} (hi : i < l.length) : (shrs P (sumW l) l).getD i noShr = shrOf P (sumW l) (l.getD i noStk) := by
  unfold shrs
  rw [getD_of (by simpa using hi), getD_of hi, List.getElem_map]
theorem rest_cast (hP : 0 ≤ P) (hw : ∀ s ∈ l, 0 ≤ s.weight) {i : Nat} (hi : i < l.length) :
    ((shrs P (sumW l) l).getD i noShr).rest = (Sv.rst P.toNat (Sv.tot (List.range l.length) (wN l)) (wN l) i : Nat) ∧ ((shrs P (sumW l) l).getD i noShr).pence = (Sv.quo P.toNat (Sv.tot (List.range l.length) (wN l)) (wN l) i : Nat) := by
  rw [shrs_get hi]
  unfold shrOf Sv.rst Sv.quo
  simp only [sumW_tot hw, wN_cast hw hi]
  have hPn : P = (P.toNat : Int) := (Int.toNat_of_nonneg hP).symm
  constructor
  · conv => lhs; rw [hPn]
    norm_cast
  · conv => lhs; rw [hPn]
    norm_cast
theorem rest_bef (hP : 0 ≤ P) (hw : ∀ s ∈ l, 0 ≤ s.weight) {i j : Nat} (hi : i < l.length) (hj : j < l.length) :
    restLt ((shrs P (sumW l) l).getD i noShr) ((shrs P (sumW l) l).getD j noShr) = Sv.bef P.toNat (Sv.tot (List.range l.length) (wN l)) (wN l) (ltN l) i j := by
  unfold restLt Sv.bef
  rw [(rest_cast hP hw hi).1, (rest_cast hP hw hj).1]
  have e1 : ((shrs P (sumW l) l).getD i noShr).name = (l.getD i noStk).name := by rw [shrs_get hi]; rfl
  have e2 : ((shrs P (sumW l) l).getD j noShr).name = (l.getD j noStk).name := by rw [shrs_get hj]; rfl
  rw [e1, e2]
  unfold ltN
  generalize Sv.rst P.toNat (Sv.tot (List.range l.length) (wN l)) (wN l) i = x
  generalize Sv.rst P.toNat (Sv.tot (List.range l.length) (wN l)) (wN l) j = y
  congr 1
  · exact decide_eq_decide.mpr (by omega)
  · congr 1
    rw [Bool.eq_iff_iff, beq_iff_eq, beq_iff_eq]; omega
theorem left_cast (hP : 0 ≤ P) (hw : ∀ s ∈ l, 0 ≤ s.weight) (hA : 0 < sumW l) : (leftTo P (sumW l) l l.length).toNat = Sv.left (List.range l.length) P.toNat (wN l) := by
  unfold leftTo Sv.left
  rw [List.take_length, ← map_getD (fun s : Stk => P * s.weight / sumW l) noStk l]
  rw [sum_cast _ _ (Sv.quo P.toNat (Sv.tot (List.range l.length) (wN l)) (wN l)) fun i hi => ?_]
  · omega
  · have hi := List.mem_range.1 hi
    have := (rest_cast (P := P) hP hw hi).2
    rw [shrs_get hi] at this
    exact this
/-- What each stake gets is what its rank gives it. -/
theorem giveTo_eq (hP : 0 ≤ P) (hw : ∀ s ∈ l, 0 ≤ s.weight) (hA : 0 < sumW l) (hd : (l.map (·.name)).Nodup) {i : Nat} (hi : i < l.length) :
    giveTo P l i = (Sv.gets (List.range l.length) P.toNat (wN l) (ltN l) i : Nat) := by
  have hsl : (shrs P (sumW l) l).length = l.length := by simp [shrs]
  have hO := Sv.bef_orders P.toNat (Sv.tot (List.range l.length) (wN l)) (wN l) (ltN_orders hd)
  obtain ⟨σ, h1, h2⟩ := Sv.sort_all _ hO List.nodup_range
  have hm : ∀ k ∈ σ, k < l.length := fun k hk => List.mem_range.1 (h1.mem_iff.1 hk)
  have hnm : (shrs P (sumW l) l).map (·.name) = l.map (·.name) := by simp [shrs, shrOf, Function.comp_def]
  have hso : σ.map (fun k => (shrs P (sumW l) l).getD k noShr) = sortR (shrs P (sumW l) l) := by
    refine sortR_eq (by rw [hnm]; exact hd) ?_ ?_
    · have := h1.map (fun k => (shrs P (sumW l) l).getD k noShr)
      rw [← hsl, map_getD (fun s : Shr => s) noShr (shrs P (sumW l) l)] at this
      simpa using this
    · unfold byRests
      rw [List.pairwise_map]
      refine h2.imp_of_mem fun {a b} ha hb hab => ?_
      refine restLt_asym ?_
      rw [rest_bef hP hw (hm a ha) (hm b hb)]; exact hab
  unfold giveTo getsTo Sv.gets
  rw [← hso, left_cast hP hw hA, (rest_cast hP hw hi).2, ← List.map_take, List.countP_map]
  have hc : (σ.take (Sv.left (List.range l.length) P.toNat (wN l))).countP ((fun f => eqS ((shrs P (sumW l) l).getD i noShr) f) ∘ fun k => (shrs P (sumW l) l).getD k noShr) = if Sv.rank (List.range l.length) (Sv.bef P.toNat (Sv.tot (List.range l.length) (wN l)) (wN l) (ltN l)) i < Sv.left (List.range l.length) P.toNat (wN l) then 1 else 0 := by
    have hnd : (σ.take (Sv.left (List.range l.length) P.toNat (wN l))).Nodup := (h1.nodup_iff.2 List.nodup_range).sublist (List.take_sublist _ _)
    have hcc : (σ.take (Sv.left (List.range l.length) P.toNat (wN l))).countP ((fun f => eqS ((shrs P (sumW l) l).getD i noShr) f) ∘ fun k => (shrs P (sumW l) l).getD k noShr) = (σ.take (Sv.left (List.range l.length) P.toNat (wN l))).count i := by
      unfold List.count
      refine List.countP_congr fun k hk => ?_
      have hkl := hm k (List.mem_of_mem_take hk)
      simp only [Function.comp, eqS_iff, beq_iff_eq]
      constructor
      · intro he
        have hne : (l.getD i noStk).name = (l.getD k noStk).name := by
          have := congrArg Shr.name he
          rw [shrs_get hi, shrs_get hkl] at this; exact this
        apply Classical.byContradiction
        intro hik
        rcases (ltN_orders hd).tot i k (List.mem_range.2 hi) (List.mem_range.2 hkl) (fun e => hik e.symm) with h | h
        · unfold ltN at h; rw [hne, nmLt_irr] at h; cases h
        · unfold ltN at h; rw [hne, nmLt_irr] at h; cases h
      · rintro rfl; rfl
    rw [hcc, List.Nodup.count hnd]
    have hmt := Sv.mem_take σ (Sv.left (List.range l.length) P.toNat (wN l)) i (hO.mono fun k hk => h1.mem_iff.1 hk) h2
    have hiσ : i ∈ σ := h1.mem_iff.2 (List.mem_range.2 hi)
    rw [Sv.rank_perm h1] at hmt
    by_cases hr : Sv.rank (List.range l.length) (Sv.bef P.toNat (Sv.tot (List.range l.length) (wN l)) (wN l) (ltN l)) i < Sv.left (List.range l.length) P.toNat (wN l)
    · rw [if_pos hr, if_pos (hmt.2 ⟨hiσ, hr⟩)]
    · rw [if_neg hr, if_neg fun h => hr (hmt.1 h).2]
  rw [hc]
  simp
end
end
section
open Go Go.RowKit Go.Shelf

def NamesAt (w : World) (v : Value) (l : List ByteArray) : Prop :=
  ∃ a cap, v = .slice a l.length cap ∧ (l.length ≤ cap ∧ l.length ≤ 1000000000000000) ∧ ∀ i (h : i < l.length), ∃ b off, a = some ⟨b, off, none⟩ ∧ b < w.heap.size ∧ w.cell? ⟨b, off + i, none⟩ = some (.string l[i])
/-- The place of a name, or -1. -/
def placeN (l : List ByteArray) (n : ByteArray) : Int := match l.findIdx? (fun x => x.toList == n.toList) with | some i => (i : Int) | none => -1
theorem placeN_at {l : List ByteArray} {n : ByteArray} {k : Nat} (h : k < l.length) (h0 : ∀ j, j < k → ((l.getD j ByteArray.empty).toList == n.toList) = false) (h1 : l[k].toList = n.toList) : placeN l n = k := by
  unfold placeN
  have : l.findIdx? (fun x => x.toList == n.toList) = some k := by
    rw [List.findIdx?_eq_some_iff_getElem]
    refine ⟨h, by simp [h1], fun j hj => ?_⟩
    have := h0 j hj
    rw [getD_of (by omega)] at this
    simpa using this
  rw [this]
theorem placeN_none {l : List ByteArray} {n : ByteArray} (h0 : ∀ j, j < l.length → ((l.getD j ByteArray.empty).toList == n.toList) = false) : placeN l n = -1 := by
  unfold placeN
  have : l.findIdx? (fun x => x.toList == n.toList) = none := by
    rw [List.findIdx?_eq_none_iff]
    intro x hx
    obtain ⟨j, hj, rfl⟩ := List.getElem_of_mem hx
    have := h0 j hj
    rw [getD_of hj] at this
    exact this
  rw [this]
set_option maxHeartbeats 1000000 in
theorem PlaceOf_any (v : Value) (l : List ByteArray) (n : ByteArray) (w : World) (hv : NamesAt w v l) :
    Cal 73 #[v, .string n] w fun e w' => e = .returned (.int .i64 (placeN l n)) ∧ w = w' := by
  obtain ⟨a, cap, rfl, ⟨hcap, hlen⟩, hc⟩ := hv
  have HC := hid hc
  clear hc
  gi_enter Tryz.func73, Tryz.ntmps73
  gi_wp2
  gi_loop [5] (fun i => ∃ k : Nat, k ≤ l.length ∧ i = .int .i64 k ∧ Hid (∀ j, j < k → ((l.getD j ByteArray.empty).toList == n.toList) = false)) (fun i => l.length - (intOf i).toNat)
  case atStart => exact ⟨0, Nat.zero_le _, rfl, fun _ h => absurd h (by omega)⟩
  case round =>
    obtain ⟨k, hk, rfl, HG⟩ := hrel
    by_cases hlt : k < l.length
    · have hki : (k : Int) < (l.length : Int) := by omega
      obtain ⟨b, off, rfl, hbb, hck⟩ := HC.out k hlt
      by_cases he : l[k].toList = n.toList
      · have HF := hid (placeN_at hlt HG.out he)
        clear HG
        generalize l[k] = x at *
        have heb : (x.toList == n.toList) = true := by simp [he]
        clear he
        gi_wp2
        go_ret
        exact ⟨by rw [HF.out]; rfl, rfl⟩
      · have HU : Hid (∀ j, j < k + 1 → ((l.getD j ByteArray.empty).toList == n.toList) = false) := fun j hj => by
          by_cases hjk : j < k
          · exact HG.out j hjk
          · obtain rfl : j = k := by omega
            rw [getD_of hlt]; simpa using he
        clear HG
        generalize l[k] = x at *
        have heb : (x.toList == n.toList) = false := by simpa using he
        clear he
        gi_wp2
        go_round
        case rel => exact ⟨k + 1, by omega, by go_num, HU⟩
        case measure => simp [intOf]; omega
    · obtain rfl : k = l.length := by omega
      have HT := hid (placeN_none HG.out)
      clear HG
      gi_wp2
      go_ret
      exact ⟨by rw [HT.out]; rfl, rfl⟩
end
end Go.Proofs.YtjocoadhalimjaaGreat
