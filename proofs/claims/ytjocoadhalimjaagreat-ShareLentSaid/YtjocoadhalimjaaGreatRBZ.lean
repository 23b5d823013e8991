/- A voyage told in another order, or with other loans: the mathematics. -/
import Derived.Test.YtjocoadhalimjaaGreatRBS
import Derived.Test.YtjocoadhalimjaaGreatRBN
import Derived.Test.YtjocoadhalimjaaGreatRBK
import Derived.Test.YtjocoadhalimjaaGreatRBE
import Derived.Test.YtjocoadhalimjaaGreatRAO
import Derived.Test.YtjocoadhalimjaaGreatInv
import Derived.Test.YtjocoadhalimjaaGreatRAT
import Derived.Test.YtjocoadhalimjaaGreatRAZ
set_option linter.unusedSimpArgs false
set_option linter.unusedVariables false
namespace Go.Proofs.YtjocoadhalimjaaGreat
section
open Go Go.RowKit Go.Shelf

theorem isum_perm {a b : List Int} (h : a.Perm b) : a.sum = b.sum := by
  induction h with
  | nil => rfl
  | cons x _ ih => simp [ih]
  | swap x y l => simp; omega
  | trans _ _ h1 h2 => exact h1.trans h2
/-- What a loan changes for a name. -/
def dlt (nm : ByteArray) (x : Ln) : Int × Int := if nm = x.g then (x.n, (8 - x.r) * x.n) else if nm = x.f then (-x.n, -((8 - x.r) * x.n)) else (0, 0)
theorem step_dlt {l : List Stk} (hd : (l.map (·.name)).Nodup) (S : LSt) (x : Ln) {i : Nat} (hi : i < l.length) :
    (lnStep l S x i).1 = (S i).1 + (dlt (l.getD i noStk).name x).1 ∧ (lnStep l S x i).2 = (S i).2 + (dlt (l.getD i noStk).name x).2 := by
  have hn : (nmsOf l)[i]'(by simpa [nmsOf] using hi) = (l.getD i noStk).name := by rw [getD_of hi]; simp [nmsOf]
  have hg := placeN_iff (l := nmsOf l) hd (n := x.g) (i := i) (by simpa [nmsOf] using hi)
  have hf := placeN_iff (l := nmsOf l) hd (n := x.f) (i := i) (by simpa [nmsOf] using hi)
  rw [hn] at hg hf
  unfold lnStep dlt
  by_cases h1 : (l.getD i noStk).name = x.g
  · rw [if_pos (hg.2 h1).symm, if_pos h1]; exact ⟨rfl, rfl⟩
  · rw [if_neg (fun e => h1 (hg.1 e.symm)), if_neg h1]
    by_cases h2 : (l.getD i noStk).name = x.f
    · rw [if_pos (hf.2 h2).symm, if_pos h2]; simp only; omega
    · rw [if_neg (fun e => h2 (hf.1 e.symm)), if_neg h2]; simp only; omega
theorem fold_dlt {l : List Stk} (hd : (l.map (·.name)).Nodup) {i : Nat} (hi : i < l.length) : ∀ (xs : List Ln) (S : LSt),
    (xs.foldl (lnStep l) S i).1 = (S i).1 + (xs.map fun x => (dlt (l.getD i noStk).name x).1).sum ∧ (xs.foldl (lnStep l) S i).2 = (S i).2 + (xs.map fun x => (dlt (l.getD i noStk).name x).2).sum
  | [], S => by simp
  | x :: xs, S => by
    have h1 := fold_dlt hd hi xs (lnStep l S x)
    have h2 := step_dlt hd S x hi
    simp only [List.foldl_cons, List.map_cons, List.sum_cons]
    omega
theorem lent_dlt {l : List Stk} (hd : (l.map (·.name)).Nodup) {i : Nat} (hi : i < l.length) (xs : List Ln) :
    (lentTo l xs xs.length i).1 = (l.getD i noStk).weight + (xs.map fun x => (dlt (l.getD i noStk).name x).1).sum ∧ (lentTo l xs xs.length i).2 = 8 * (l.getD i noStk).weight + (xs.map fun x => (dlt (l.getD i noStk).name x).2).sum := by
  unfold lentTo
  rw [List.take_length]
  exact fold_dlt hd hi xs (lent0 l)
theorem place_mem {l : List ByteArray} {n : ByteArray} : 0 ≤ placeN l n ↔ n ∈ l := by
  constructor
  · intro h
    rcases placeN_range l n with h1 | ⟨i, hi, _, h2⟩
    · omega
    · rw [← h2]; exact List.getElem_mem hi
  · intro h
    obtain ⟨i, hi, rfl⟩ := List.getElem_of_mem h
    unfold placeN
    cases hf : l.findIdx? (fun x => x.toList == l[i].toList) with
    | none =>
      have := List.findIdx?_eq_none_iff.1 hf l[i] (List.getElem_mem hi)
      simp at this
    | some j => simp only; omega
theorem good_iff {l : List Stk} {x : Ln} : lnGood l x = true ↔ x.f ∈ nmsOf l ∧ x.g ∈ nmsOf l ∧ loanB x.f x.g x.n x.r = true := by
  unfold lnGood
  rw [Bool.and_eq_true, Bool.and_eq_true, decide_eq_true_eq, decide_eq_true_eq, place_mem, place_mem]
theorem lend_mk {l : List Stk} {xs : List Ln} (h1 : xs.length ≤ 12) (h2 : ∀ x ∈ xs, lnGood l x = true) (h3 : ∀ i, i < l.length → 0 ≤ (lentTo l xs xs.length i).1 ∧ 0 ≤ (lentTo l xs xs.length i).2) : lendB l xs = true := by
  unfold lendB allTo
  simp only [Bool.and_eq_true, decide_eq_true_eq, List.all_eq_true, List.mem_range]
  refine ⟨h1, fun j hj => ?_, fun i hi => ?_⟩
  · rw [getD_of hj]; exact h2 _ (List.getElem_mem hj)
  · have := h3 i hi
    simp [notLess]; omega
theorem lend_all {l : List Stk} {xs : List Ln} (h : lendB l xs = true) : ∀ x ∈ xs, lnGood l x = true := fun x hx => by
  obtain ⟨j, hj, rfl⟩ := List.getElem_of_mem hx
  have := (lend_ok h).2.1 j hj
  rwa [getD_of hj] at this
section
variable {l T : List Stk} {I : List Nat}
/-- Each name gets the same, by claims, too. -/
theorem Turn.same2 (h : Turn l T I) {P : Int} (hc : CanDiv P l) {i k : Nat} (hi : i < l.length) (hk : k < l.length) (hn : (T.getD k noStk).name = (l.getD i noStk).name) : giveTo P T k = giveTo P l i := by
  rcases hc.pos with h0 | hA
  · subst h0; rw [give_none, give_none]
  have hw : ∀ s ∈ l, 0 ≤ s.weight := fun s hs => (hc.w s hs).1
  have hp0 := h.permT
  have hwT : ∀ s ∈ T, 0 ≤ s.weight := fun s hs => hw s (hp0.mem_iff.1 hs)
  have hndT : (T.map (·.name)).Nodup := (hp0.map (·.name)).nodup_iff.2 hc.nd
  have hAT : 0 < sumW T := by rw [sumW_perm h.permT]; exact hA
  have hlen := h.len
  let π : Nat → Nat := fun i => if i < l.length then I.getD i 0 else i
  have hTg : ∀ i, T.getD i noStk = l.getD (π i) noStk := fun i => by
    by_cases hi : i < l.length
    · obtain ⟨j, _, h2, h3⟩ := h.get hi
      show _ = l.getD (if i < l.length then I.getD i 0 else i) noStk
      rw [if_pos hi, h2, h3]
    · show _ = l.getD (if i < l.length then I.getD i 0 else i) noStk
      rw [if_neg hi, List.getD_eq_getElem?_getD, List.getD_eq_getElem?_getD, List.getElem?_eq_none (by omega), List.getElem?_eq_none (by omega)]
  have hw' : wN T = fun i => wN l (π i) := by funext i; unfold wN; rw [hTg i]
  have hlt' : ltN T = fun i j => ltN l (π i) (π j) := by funext i j; unfold ltN; rw [hTg i, hTg j]
  have hmap : (List.range l.length).map π = I := by
    refine List.ext_getElem (by simp [hlen.2]) fun i h1 h2 => ?_
    have hi : i < l.length := by simpa using h1
    rw [List.getElem_map, List.getElem_range]
    show (if i < l.length then I.getD i 0 else i) = _
    rw [if_pos hi, List.getD_eq_getElem?_getD, List.getElem?_eq_getElem h2]; rfl
  have hp : ((List.range l.length).map π).Perm (List.range l.length) := by rw [hmap]; exact h.perm
  obtain ⟨j, hj, h2, h3⟩ := h.get hk
  have hπ : π k = j := by show (if k < l.length then I.getD k 0 else k) = j; rw [if_pos hk, h2]
  have hji : j = i := by
    rw [h3] at hn
    rcases Nat.lt_trichotomy j i with h4 | h4 | h4
    · have := List.pairwise_iff_getElem.1 hc.nd j i (by simpa using hj) (by simpa using hi) h4
      simp only [List.getElem_map] at this
      rw [getD_of hj, getD_of hi] at hn
      exact absurd hn this
    · exact h4
    · have := List.pairwise_iff_getElem.1 hc.nd i j (by simpa using hi) (by simpa using hj) h4
      simp only [List.getElem_map] at this
      rw [getD_of hj, getD_of hi] at hn
      exact absurd hn.symm this
  rw [giveTo_eq hc.pb.1 hwT hAT hndT (by omega), giveTo_eq hc.pb.1 hw hA hc.nd hi, hlen.1, hw', hlt', Sv.gets_turn hp, hπ, hji]
theorem Turn.val (h : Turn l T I) {P : Int} (hc : CanDiv P l) (nm : ByteArray) : valTo T (giveTo P T) nm T.length = valTo l (giveTo P l) nm l.length := by
  have hp := h.permT
  have hndT : (T.map (·.name)).Nodup := (hp.map (·.name)).nodup_iff.2 hc.nd
  have hl := h.len
  by_cases hin : ∃ i, i < l.length ∧ (l.getD i noStk).name = nm
  · obtain ⟨i, hi, rfl⟩ := hin
    have hm : l.getD i noStk ∈ T := hp.mem_iff.2 (by rw [getD_of hi]; exact List.getElem_mem hi)
    obtain ⟨k, hk, he⟩ := List.getElem_of_mem hm
    have hkn : (T.getD k noStk).name = (l.getD i noStk).name := by rw [getD_of hk, he]
    rw [val_at hc.nd _ (Nat.le_refl _) i hi, ← hkn, val_at hndT _ (Nat.le_refl _) k hk]
    exact h.same2 hc hi (by omega) hkn
  · have hno : ∀ (L : List Stk), L.Perm l → inTo L nm L.length = false := fun L hL => by
      cases hh : inTo L nm L.length with
      | false => rfl
      | true =>
        obtain ⟨s, hs, he⟩ := (inTo_mem (Nat.le_refl _)).1 hh
        rw [List.take_length] at hs
        obtain ⟨i, hi, rfl⟩ := List.getElem_of_mem (hL.mem_iff.1 hs)
        exact absurd ⟨i, hi, by rw [getD_of hi]; exact he⟩ hin
    rw [valTo_out _ (hno T hp), valTo_out _ (hno l (List.Perm.refl _))]
end
/-- A voyage told in another order. -/
structure Other (V X : Voy) : Prop where
  gr : X.gr = V.gr
  bo : X.bo = V.bo
  ne : X.ne = V.ne
  cr : X.cr = V.cr
  cs : X.cs.Perm V.cs
  ow : ∃ I, Turn V.ow X.ow I
  le : ∃ I, Turn V.le X.le I
  ha : ∃ I, Turn V.ha X.ha I
  lo : X.lo.Perm V.lo
section
variable {V X : Voy}
theorem Other.valid (h : Other V X) (hv : ValidV V) : ValidV X := by
  obtain ⟨_, ho⟩ := h.ow
  obtain ⟨_, hl⟩ := h.le
  obtain ⟨_, hh⟩ := h.ha
  have hcs := isum_perm h.cs
  refine ⟨by rw [h.gr]; exact hv.gr, by have := h.cs.length_eq; have := hv.csl; omega, fun x hx => by rw [h.gr]; exact hv.cs x (h.cs.mem_iff.1 hx), by rw [h.gr, hcs]; exact hv.net, by rw [h.bo]; exact hv.bo, by rw [h.ne]; exact hv.ne, by rw [h.cr]; exact hv.cr, by rw [h.bo, h.ne, h.cr]; exact hv.all, ho.ok hv.ow, hl.ok hv.le, hh.ok hv.ha, ?_, ?_, ?_⟩
  · unfold back; rw [sumW_perm ho.permT, h.bo]; exact hv.bbo
  · unfold back; rw [sumW_perm hl.permT, h.ne]; exact hv.bne
  · unfold back; rw [sumW_perm hh.permT, h.cr]; exact hv.bcr
theorem Other.lent (h : Other V X) (hv : ValidV V) {I : List Nat} (hl : Turn V.le X.le I) {k : Nat} (hk : k < V.le.length) : ∃ j, j < V.le.length ∧ I.getD k 0 = j ∧ X.le.getD k noStk = V.le.getD j noStk ∧ lentV X k = lentV V j := by
  obtain ⟨j, hj, h2, h3⟩ := hl.get hk
  have hnd := (stakes_ok hv.le).2.2
  have hndT : (X.le.map (·.name)).Nodup := (hl.permT.map (·.name)).nodup_iff.2 hnd
  have hlen := hl.len
  have e1 := lent_dlt hndT (i := k) (by omega) X.lo
  have e2 := lent_dlt hnd hj V.lo
  rw [h3] at e1
  have p1 := isum_perm (h.lo.map fun x => (dlt (V.le.getD j noStk).name x).1)
  have p2 := isum_perm (h.lo.map fun x => (dlt (V.le.getD j noStk).name x).2)
  refine ⟨j, hj, h2, h3, ?_⟩
  unfold lentV
  exact Prod.ext (by omega) (by omega)
theorem Other.lend (h : Other V X) (hv : ValidV V) (hb : lendB V.le V.lo = true) : lendB X.le X.lo = true := by
  obtain ⟨I, hl⟩ := h.le
  have hok := lend_ok hb
  have hlen := hl.len
  refine lend_mk (by have := h.lo.length_eq; omega) (fun x hx => ?_) fun k hk => ?_
  · have hg := good_iff.1 (lend_all hb x (h.lo.mem_iff.1 hx))
    have hn : (nmsOf X.le).Perm (nmsOf V.le) := hl.permT.map (fun s : Stk => s.name)
    exact good_iff.2 ⟨hn.mem_iff.2 hg.1, hn.mem_iff.2 hg.2.1, hg.2.2⟩
  · obtain ⟨j, hj, _, _, he⟩ := h.lent hv hl (k := k) (by omega)
    have : lentTo X.le X.lo X.lo.length k = lentTo V.le V.lo V.lo.length j := he
    rw [this]
    exact hok.2.2 j hj
theorem Other.errE (h : Other V X) (hE : voyE V = 0) : voyE X = 0 := by
  have ho := voyE_ok hE
  unfold voyE
  rw [if_pos (valid_iff.2 (h.valid ho.1)), if_pos (h.lend ho.1 ho.2)]
theorem Other.parts (h : Other V X) (hv : ValidV V) : ∀ j, j < 3 → ∃ I, Turn (partL V j) (partL X j) I := by
  intro j hj
  rcases (by omega : j = 0 ∨ j = 1 ∨ j = 2) with rfl | rfl | rfl
  · exact h.ow
  · obtain ⟨I, hl⟩ := h.le
    have hlen := hl.len
    refine ⟨I, ?_, ?_⟩
    · show I.Perm (List.range (clm _ _ _).length)
      rw [clm_len]; exact hl.perm
    · show clm X.le (lentV X) X.le.length = I.map fun i => (clm V.le (lentV V) V.le.length).getD i noStk
      refine List.ext_getElem (by rw [clm_len, List.length_map]; omega) fun k h1 h2 => ?_
      have hk : k < V.le.length := by rw [clm_len] at h1; omega
      obtain ⟨j, hj, e1, e2, e3⟩ := h.lent hv hl hk
      have e4 : I[k]'(by omega) = j := by
        rw [List.getD_eq_getElem?_getD, List.getElem?_eq_getElem (by omega)] at e1; exact e1
      rw [List.getElem_map, e4, getD_of (by rw [clm_len]; exact hj)]
      simp only [clm, List.getElem_map, List.getElem_range]
      rw [e2, e3]
  · exact h.ha
theorem Other.net (h : Other V X) : netV X = netV V := by unfold netV; rw [h.gr, isum_perm h.cs]
theorem Other.pence (h : Other V X) (j : Nat) : partP X j = partP V j := by unfold partP; rw [h.net, h.bo, h.ne, h.cr]
theorem Other.gets (h : Other V X) (hE : voyE V = 0) (nm : ByteArray) {j : Nat} (hj : j < 3) : dvv X nm j = dvv V nm j := by
  have ho := voyE_ok hE
  obtain ⟨I, ht⟩ := h.parts ho.1 j hj
  have hv := ht.val (can_div ho.1 ho.2 j hj) nm
  unfold dvv valsD partG lensV
  rw [h.pence j]
  exact hv
theorem Other.names (h : Other V X) (hv : ValidV V) {ns : List ByteArray} (hn : DueNames X ns) : DueNames V ns := by
  refine ⟨hn.rise, fun nm => (hn.mem nm).trans ?_⟩
  have hm : ∀ j, j < 3 → ∀ s, s ∈ partL X j ↔ s ∈ partL V j := fun j hj s => by
    obtain ⟨I, ht⟩ := h.parts hv j hj
    exact ht.permT.mem_iff
  rw [inAny_mem, inAny_mem]
  constructor
  · rintro ⟨s, hs, he⟩
    exact ⟨s, by rwa [hm 0 (by omega), hm 1 (by omega), hm 2 (by omega)] at hs, he⟩
  · rintro ⟨s, hs, he⟩
    exact ⟨s, by rwa [hm 0 (by omega), hm 1 (by omega), hm 2 (by omega)], he⟩
theorem Other.dues (h : Other V X) (hE : voyE V = 0) (ns : List ByteArray) : dueF X ns = dueF V ns := by
  have e : ∀ nm, dueC X nm = dueC V nm := fun nm => by
    have h0 := h.gets hE nm (j := 0) (by omega)
    have h1 := h.gets hE nm (j := 1) (by omega)
    have h2 := h.gets hE nm (j := 2) (by omega)
    unfold dvv at h0 h1 h2
    unfold dueC
    rw [h0, h1, h2]
  unfold dueF
  rw [show dueC X = dueC V from funext e]
end
end
section
open Go Go.RowKit Go.Shelf

def rixF (f m k : Nat) : Nat := if k ≤ f then f - k else f + m - k
theorem rix_lt {f m k : Nat} (hf : f < m) (hk : k < m) : rixF f m k < m := by unfold rixF; split <;> omega
theorem rix_mod {f m k : Nat} (hf : f < m) (hk : k < m) : modI ((f : Int) - (k : Int)) (m : Int) = (rixF f m k : Int) := by
  unfold modI rixF
  by_cases h : k ≤ f
  · rw [if_pos h, Int.tmod_eq_of_lt (by omega) (by omega), if_neg (by omega)]; omega
  · have e : (f : Int) - (k : Int) = -((k : Int) - f) := by omega
    rw [if_neg h, e, Int.neg_tmod, Int.tmod_eq_of_lt (by omega) (by omega), if_pos (by omega)]; omega
theorem rix_perm {f m : Nat} (hf : f < m) : ((List.range m).map (rixF f m)).Perm (List.range m) := by
  have e : (List.range m).map (rixF f m) = ((List.range m).take (f + 1)).reverse ++ ((List.range m).drop (f + 1)).reverse := by
    refine List.ext_getElem (by simp; omega) fun i h1 h2 => ?_
    have hi : i < m := by simpa using h1
    rw [List.getElem_map, List.getElem_range]
    unfold rixF
    by_cases h : i ≤ f
    · rw [if_pos h, List.getElem_append_left (by simp; omega), List.getElem_reverse]
      simp; omega
    · rw [if_neg h, List.getElem_append_right (by simp; omega), List.getElem_reverse]
      simp; omega
  rw [e]
  exact ((List.reverse_perm _).append (List.reverse_perm _)).trans (by rw [List.take_append_drop])
theorem rix_list {α : Type} (l : List α) (d : α) {f : Nat} (hf : f < l.length) : ((List.range l.length).map fun i => l.getD (rixF f l.length i) d).Perm l := by
  have h := (rix_perm hf).map fun i => l.getD i d
  rw [List.map_map] at h
  have e : (List.range l.length).map (fun i => l.getD i d) = l := by
    refine List.ext_getElem (by simp) fun i h1 h2 => ?_
    rw [List.getElem_map, List.getElem_range, getD_of h2]
  rw [e] at h
  exact h
/-- Stakes, in another order. -/
def rndL (n0 : Int) (l : List Stk) : List Stk := (List.range l.length).map fun i => l.getD (rixF (modI n0 l.length).toNat l.length i) noStk
theorem rndL_len (n0 : Int) (l : List Stk) : (rndL n0 l).length = l.length := by simp [rndL]
theorem rnd_turn (n0 : Int) (l : List Stk) : ∃ I, Turn l (rndL n0 l) I := by
  refine ⟨(List.range l.length).map (rixF (modI n0 l.length).toNat l.length), ?_, ?_⟩
  · by_cases h : 1 ≤ l.length
    · have := modI_ok n0 (m := (l.length : Int)) (by omega)
      exact rix_perm (by omega)
    · have : l.length = 0 := by omega
      rw [this]; simp
  · unfold rndL; rw [List.map_map]; rfl
theorem rndL_succ (n0 : Int) {l : List Stk} {k : Nat} (h : k < l.length) : stkF ((rndL n0 l).take (k + 1)) = stkF ((rndL n0 l).take k) ++ stkC (l.getD (rixF (modI n0 l.length).toNat l.length k) noStk) := by
  unfold stkF
  rw [List.take_succ_eq_append_getElem (by rw [rndL_len]; exact h), List.flatMap_append]
  congr 1
  simp [rndL]
set_option maxRecDepth 100000 in
set_option maxHeartbeats 8000000 in
theorem round_any (n0 : Int) (v : Value) (l : List Stk) (w : World) (hv : StakesAt w v l) (hl : l.length ≤ 1000) : Cal 36 #[v, .int .i64 n0] w fun e w' => ∃ r, e = .returned r ∧ Ext w w' ∧ Hid (Row w' 49 2 r l.length (stkF (rndL n0 l))) ∧ ∀ g, r.ownBlock = some g → w.heap.size ≤ g := by
  obtain ⟨a, cap, rfl, ⟨hcap, hlen⟩, hc⟩ := hv
  have HC := hid hc
  have HN := hid (fun (k : Nat) (h : k < l.length) => rndL_succ n0 h)
  have HT : Hid ((rndL n0 l).take l.length = rndL n0 l) := hid (by rw [List.take_of_length_le (by rw [rndL_len]; omega)])
  have HMI := hid (fun (k : Nat) (hk : k < l.length) => (show ∃ f : Nat, modI n0 l.length = f ∧ f < l.length ∧ (modI n0 l.length).toNat = f from by
    have := modI_ok n0 (m := (l.length : Int)) (by omega)
    exact ⟨(modI n0 l.length).toNat, by omega, by omega, rfl⟩))
  have HM1 := hid (fun (k : Nat) (hk : k < l.length) (u : World) => mod_any n0 l.length u (by omega))
  obtain ⟨i, hi, hz0, hz1, hz2⟩ := info_parts info49
  have HZ := hid (And.intro hi (And.intro hz0 (And.intro hz1 hz2)))
  clear hc hi hz0 hz1 hz2
  gi_enter Tryz.func36, Tryz.ntmps36
  gi_wp2_with fail
  gi_loopw [5, 6] (fun r i wr => ∃ k : Nat, k ≤ l.length ∧ i = .int .i64 k ∧ Hid (Ext w wr ∧ Row wr 49 2 r k (stkF ((rndL n0 l).take k)) ∧ ∀ g, r.ownBlock = some g → w.heap.size ≤ g)) (fun _ i _ => l.length - (intOf i).toNat)
  case atStart => exact ⟨0, Nat.zero_le _, rfl, hid ⟨Ext.refl _, by simpa [stkF] using Row.nil _ _ _, fun g h => by simp [Value.ownBlock] at h⟩⟩
  case round =>
    obtain ⟨k, hk, rfl, HI⟩ := hrel
    by_cases hlt : k < l.length
    · have hki : (k : Int) < (l.length : Int) := by omega
      obtain ⟨f, hf1, hf2, hf3⟩ := HMI.out k hlt
      have HM1 := hid (fun (u : World) => HM1.out k hlt u)
      rw [hf1] at HM1
      have hjm := rix_mod hf2 hlt
      have hjl := rix_lt hf2 hlt
      have HM2 := hid (fun (u : World) => mod_any ((f : Int) - (k : Int)) l.length u (by omega))
      rw [hjm] at HM2
      have HN2 := hid (HN.out k hlt)
      rw [hf3] at HN2
      obtain ⟨b, off, rfl, hb, c0, c1⟩ := HC.out _ hjl
      rw [getD_of hjl] at HN2
      generalize rixF f l.length k = j at *
      clear HN HMI hf1 hf3 hjm
      obtain ⟨hx, hrow, hown⟩ := HI.out
      have hbr : b < wr.heap.size := Nat.lt_of_lt_of_le hb hx.size
      rw [← hx.cell (p := ⟨b, _, none⟩) hb] at c0 c1
      generalize l[j] = x at *
      have HX := hid hx
      have HR := hid hrow
      have HO := hid hown
      obtain ⟨na, nc, rfl⟩ := hrow.isSliceN
      clear HI hx hrow hown
      have hxa : Ext wr (wr.alloc (.cells #[.string x.name, .int .i64 x.weight] 49)) := (Ext.refl _).alloc _
      have hce : (wr.alloc (.cells #[.string x.name, .int .i64 x.weight] 49)).heap[wr.heap.size]? = some (.cells #[.string x.name, .int .i64 x.weight] 49 (0, 0)) := Ext.new (Ext.refl _)
      have HNW : Hid (∀ j u, (stkC x)[j]? = some u → (wr.alloc (.cells #[.string x.name, .int .i64 x.weight] 49)).cell? ((⟨wr.heap.size, 0, none⟩ : Addr).add j) = some u) := hid (fun j u hj => by rw [Addr.add_mid, Nat.zero_add, new_cell _ _ rfl]; simpa [stkC] using hj)
      have HXA := hid hxa
      clear hxa hce
      have hwA : wrap64 ((f : Int) - (k : Int)) = (f : Int) - (k : Int) := by unfold wrap64; omega
      have hwB : IntKind.i64.wrap ((f : Int) - (k : Int)) = (f : Int) - (k : Int) := by rw [IntKind.wrap_i64]; omega
      have hji : (j : Int) < (l.length : Int) := by omega
      gi_wp2_with (first | (gi_at_call 32; first | ((with_reducible refine (HM1.out _).mono ?_); rintro e w3 ⟨rfl, rfl⟩) | ((with_reducible refine (HM2.out _).mono ?_); rintro e w3 ⟨rfl, rfl⟩)) | (refine wpIn_append_row (fun _ => trivial) rfl (.tmp 13) (.tmp 26) rfl Tryz.underlying22 HZ.out.1 HZ.out.2.1 HZ.out.2.2.1 HZ.out.2.2.2 (by simp [Value.cells]) (by omega) (v := .slice na k nc) rfl (HR.out.mono HXA.out) ⟨wr.heap.size, 0, none⟩ 1 rfl (stkC x) rfl HNW.out (fun u hu => by simp [stkC] at hu; rcases hu with rfl | rfl <;> rfl) (by omega) (by omega) ?_; intro v' w' hrow' hgr' how'))
      have hn := own_next (HX.out.trans HXA.out) HO.out hgr' how'
      go_roundw
      case rel => exact ⟨k + 1, by omega, by go_num, hid ⟨hn.1, by rw [HN2.out]; exact hrow', hn.2⟩⟩
      case measure => simp [intOf]; omega
    · obtain rfl : k = l.length := by omega
      have hki : ¬ (l.length : Int) < (l.length : Int) := by omega
      gi_wp2_with fail
      go_ret
      exact ⟨_, rfl, HI.out.1, hid (by rw [← HT.out]; exact HI.out.2.1), HI.out.2.2⟩
end
section
open Go Go.RowKit Go.Shelf

theorem info59 : (Tryz.prog.info? 59).map (fun i => (i.zero, i.size, i.bytes)) = some (some (.agg #[.string ByteArray.empty, .string ByteArray.empty, .int .i64 0, .int .i64 0]), 4, 48) := by kernel_rfl
theorem gives_callJ {o : Oper} {f : Nat} {fn : Func} {args : Array Operand} {ts : Array TypeId} {a : Act} {u : World} {vs : Array Value} {K : Value → World → Prop} (ho : o.op = .call { callee := .value (.func f), args := args, argTypes := ts }) (hfn : Tryz.prog.funcs[f]? = some fn) (hn : (fn.name == "runtime.NumGoroutine") = false) (hb : fn.body.isNone = false) (he : args.map a.eval = vs) (hc : Cal f vs u fun e w' => ∃ v, e = .returned v ∧ K v w') :
    gives Fence.wide 0 Tryz.prog (fun _ _ => True) o a u K := by
  unfold gives
  rw [Oper.semAt_eq _ _ _ (by rw [ho]; intro c h; cases h)]
  unfold execOp
  simp only [ho, resolve, invoke, Sem.run_bind, Sem.run_pure, Result.andThen_ok, he]
  have hf : a.eval (.func f) = .func (.func f) #[] #[] := rfl
  rw [hf]
  simp only [Deferred.ofValue, Sem.run_pure, Result.andThen_ok, callFunc, Array.append_empty, Array.empty_append]
  rw [Sem.run_bind, show (program).run Tryz.prog u = .ok Tryz.prog u from rfl, Result.andThen_ok, hfn]
  simp only [hn, hb, Bool.false_eq_true, if_false, Sem.run_pure]
  unfold giveUpon
  exact CallsIn.mono hc fun e w' ⟨v, h1, h2⟩ => ⟨v, h1, h2, trivial⟩
def lnC (x : Ln) : List Value := [.string x.f, .string x.g, .int .i64 x.n, .int .i64 x.r]
def lnF (l : List Ln) : List Value := l.flatMap lnC
theorem lnF_len : ∀ l : List Ln, (lnF l).length = l.length * 4
  | [] => rfl
  | a :: l => by
    have := lnF_len l
    unfold lnF at this ⊢
    rw [List.flatMap_cons, List.length_append, this, List.length_cons]
    simp [lnC]; omega
theorem lnF_get : ∀ (l : List Ln) (i : Nat) (h : i < l.length), (lnF l)[i * 4]? = some (.string l[i].f) ∧ (lnF l)[i * 4 + 1]? = some (.string l[i].g) ∧ (lnF l)[i * 4 + 2]? = some (.int .i64 l[i].n) ∧ (lnF l)[i * 4 + 3]? = some (.int .i64 l[i].r)
  | a :: l, 0, _ => by unfold lnF; rw [List.flatMap_cons]; exact ⟨rfl, rfl, rfl, rfl⟩
  | a :: l, i + 1, h => by
    have := lnF_get l i (by simpa using h)
    unfold lnF at this ⊢
    rw [List.flatMap_cons, show (i + 1) * 4 = i * 4 + 1 + 1 + 1 + 1 by omega]
    exact this
theorem lnF_one (l : List Ln) : ∀ u ∈ lnF l, u.oneCell' = true := by
  intro u hu
  unfold lnF at hu
  obtain ⟨x, _, hx⟩ := List.mem_flatMap.1 hu
  simp [lnC] at hx
  rcases hx with rfl | rfl | rfl | rfl <;> rfl
theorem lnF_app (a b : List Ln) : lnF (a ++ b) = lnF a ++ lnF b := by unfold lnF; rw [List.flatMap_append]
theorem LoansAt.of_row {w : World} {v : Value} {l : List Ln} (h : Row w 59 4 v l.length (lnF l)) (hl : l.length ≤ 1000) : LoansAt w v l := by
  obtain ⟨_, h⟩ := h
  rcases h with ⟨rfl, h0⟩ | ⟨g, cap, cur, rfl, hg, h1, h2, h3, h4⟩
  · exact ⟨none, 0, by rw [h0], ⟨by omega, by omega⟩, fun i hi => by omega⟩
  · refine ⟨_, cap, rfl, ⟨h1, by omega⟩, fun i hi => ⟨g, 0, rfl, lt_of_block hg, ?_⟩⟩
    have k := lnF_get l i hi
    rw [← k.1, ← k.2.1, ← k.2.2.1, ← k.2.2.2, cell_of hg, cell_of hg, cell_of hg, cell_of hg, Nat.zero_add, ← h4, List.getElem?_take, List.getElem?_take, List.getElem?_take, List.getElem?_take, if_pos (by omega), if_pos (by omega), if_pos (by omega), if_pos (by omega), Array.getElem?_toList, Array.getElem?_toList, Array.getElem?_toList, Array.getElem?_toList]
    exact ⟨rfl, rfl, rfl, rfl⟩
theorem loans_cells {w : World} {p : Addr} {n sc : Nat} {l : List Ln} (h : LoansAt w (.slice (some p) n sc) l) (j : Nat) (u : Value) (hj : (lnF l)[j]? = some u) : w.cell? (p.add j) = some u := by
  obtain ⟨a', c', e, _, hc⟩ := h
  cases e
  have hj2 : j < l.length * 4 := by rw [← lnF_len]; exact (List.getElem?_eq_some_iff.1 hj).1
  obtain ⟨q, r, hr, rfl⟩ : ∃ q r, r < 4 ∧ j = q * 4 + r := ⟨j / 4, j % 4, by omega, by omega⟩
  have hq : q < l.length := by omega
  obtain ⟨b, o, e, _, c0, c1, c2, c3⟩ := hc q hq
  cases e
  have k := lnF_get l q hq
  rw [Addr.add_mid]
  rcases (by omega : r = 0 ∨ r = 1 ∨ r = 2 ∨ r = 3) with rfl | rfl | rfl | rfl
  · rw [Nat.add_zero, k.1] at hj; cases hj; exact c0
  · rw [k.2.1] at hj; cases hj; rw [← Nat.add_assoc]; exact c1
  · rw [k.2.2.1] at hj; cases hj; rw [← Nat.add_assoc]; exact c2
  · rw [k.2.2.2] at hj; cases hj; rw [← Nat.add_assoc]; exact c3
theorem row_blk2 {w : World} {T : TypeId} {sz n : Nat} {v : Value} {xs : List Value} (h : Row w T sz v n xs) {g : Nat} (hg : v.ownBlock = some g) : g < w.heap.size := by
  rcases h.2 with ⟨rfl, _⟩ | ⟨g', cap, cur, rfl, hb, _⟩
  · simp [Value.ownBlock] at hg
  · simp [Value.ownBlock] at hg; subst hg; exact lt_of_block hb
/-- A row that is built beside a box of the call's own; what is appended next, if it has been made. -/
structure Bld (v0 w0 u : World) (b : Nat) (T : TypeId) (sz : Nat) (cur : Value) (n : Nat) (xs : List Value) (made : Bool) (bx : Value) (m : Nat) (ne : List Value) : Prop where
  ext : Ext v0 u
  km : KM b w0 u
  blt : v0.heap.size ≤ b ∧ b < w0.heap.size
  row : Row u T sz cur n xs
  own : ∀ g, cur.ownBlock = some g → w0.heap.size ≤ g
  box : made = true → ∃ g, bx = .slice (some ⟨g, 0, none⟩) m m ∧ u.heap[g]? = some (.cells ne.toArray T (0, 0)) ∧ w0.heap.size ≤ g ∧ cur.ownBlock ≠ some g
section
variable {v0 w0 u u' : World} {b : Nat} {T : TypeId} {sz : Nat} {cur cur' : Value} {n : Nat} {xs : List Value} {made : Bool} {bx : Value} {m : Nat} {ne : List Value}
theorem KM.cell_set {b : Nat} {u v : World} (h : KM b u v) (off : Nat) (x : Value) : KM b u (v.setCell ⟨b, off, none⟩ x) := ⟨by simpa using h.1, fun q o hq ho => by rw [set_other hq]; exact h.2 q o hq ho⟩
theorem KM.drawn {b : Nat} {u v : World} (h : KM b u v) : KM b u { v with drawn := v.drawn + 1 } := h.trans (KM.of_ext (Ext.drawn _))
theorem Bld.ext' (h : Bld v0 w0 u b T sz cur n xs made bx m ne) (hx : Ext u u') : Bld v0 w0 u' b T sz cur n xs made bx m ne :=
  ⟨h.ext.trans hx, h.km.trans (KM.of_ext hx), h.blt, h.row.mono hx, h.own, fun hm => by
    obtain ⟨g, h1, h2, h3, h4⟩ := h.box hm
    exact ⟨g, h1, hx.block h2, h3, h4⟩⟩
theorem Bld.make (h : Bld v0 w0 u b T sz cur n xs made bx m ne) {cs : Array Value} (hcs : cs = ne.toArray) : Bld v0 w0 (u.alloc (.cells cs T)) b T sz cur n xs true (.slice (some ⟨u.heap.size, 0, none⟩) m m) m ne := by
  subst hcs
  have hx : Ext u (u.alloc (.cells ne.toArray T)) := (Ext.refl _).alloc _
  refine ⟨h.ext.trans hx, h.km.trans (KM.of_ext hx), h.blt, h.row.mono hx, h.own, fun _ => ⟨u.heap.size, rfl, Ext.new (Ext.refl _), h.km.1, fun hq => ?_⟩⟩
  have := row_blk2 h.row hq; omega
theorem Bld.empty (h : Bld v0 w0 u b T sz cur n xs made bx m ne) : Bld v0 w0 (u.alloc (.cells #[] T)) b T sz (.slice (some ⟨u.heap.size, 0, none⟩) 0 0) 0 [] made bx m ne := by
  have hx : Ext u (u.alloc (.cells #[] T)) := (Ext.refl _).alloc _
  refine ⟨h.ext.trans hx, h.km.trans (KM.of_ext hx), h.blt, row_empty u T sz, fun g hg => ?_, fun hm => ?_⟩
  · simp [Value.ownBlock] at hg; subst hg
    exact h.km.1
  · obtain ⟨g, h1, h2, h3, h4⟩ := h.box hm
    refine ⟨g, h1, hx.block h2, h3, fun hq => ?_⟩
    simp [Value.ownBlock] at hq; subst hq
    have := lt_of_block h2; omega
theorem Bld.grow (h : Bld v0 w0 u b T sz cur n xs made bx m ne) {n' : Nat} {ys : List Value} (hr : Row u' T sz cur' n' ys) (hg : u.grownBy u' cur.ownBlock) (how : cur'.ownBlock = cur.ownBlock ∨ cur'.ownBlock = some u.heap.size) : Bld v0 w0 u' b T sz cur' n' ys made bx m ne := by
  have hx' : Ext v0 u' := ext_grown h.ext hg fun g hq => by have := h.own g hq; have := h.blt; omega
  refine ⟨hx', ⟨Nat.le_trans h.km.1 hg.size, fun q o hq ho => grownBy_block hg (h.km.2 q o hq ho) fun e => by have := h.own q e.symm; have := lt_of_block ho; omega⟩, h.blt, hr, fun g hq => ?_, fun hm => ?_⟩
  · rcases how with e | e
    · exact h.own g (by rw [← e]; exact hq)
    · rw [hq] at e; cases e
      exact h.km.1
  · obtain ⟨g, h1, h2, h3, h4⟩ := h.box hm
    refine ⟨g, h1, grownBy_block hg h2 (fun e => h4 e.symm), h3, fun hq => ?_⟩
    rcases how with e | e
    · exact h4 (by rw [← e]; exact hq)
    · rw [hq] at e; cases e
      have := lt_of_block h2; omega
theorem Bld.keep (h : Bld v0 w0 u b T sz cur n xs made bx m ne) (hg : u.grownBy u' cur.ownBlock) {o : Obj} (hb : u.heap[b]? = some o) : u'.heap[b]? = some o :=
  grownBy_block hg hb fun e => by have := h.own b e.symm; have := h.blt; omega
theorem Bld.store (h : Bld v0 w0 u b T sz cur n xs made bx m ne) (off : Nat) (y : Value) : Bld v0 w0 (u.setCell ⟨b, off, none⟩ y) b T sz cur n xs made bx m ne := by
  refine ⟨h.ext.set h.blt.1 _ _, h.km.cell_set _ _, h.blt, h.row.kept fun k o hk ho => ?_, h.own, fun hm => ?_⟩
  · rw [set_other (by have := h.own k hk; have := h.blt; omega)]; exact ho
  · obtain ⟨g, h1, h2, h3, h4⟩ := h.box hm
    exact ⟨g, h1, by rw [set_other (by have := h.blt; omega)]; exact h2, h3, h4⟩
/-- The append of what was made. -/
theorem Bld.app (h : Bld v0 w0 u b T sz cur n xs true bx m ne) {t ty : TypeId} {bytes : Nat} {i : TypeInfo} {z : Value} (ht : Tryz.prog.underlying t = some (.slice T)) (hi : Tryz.prog.info? T = some i) (hz : i.zero = some z) (hs : i.size = sz) (hby : i.bytes = bytes) (hzs : z.cells.size = sz) (hsz : 0 < sz) (hm : 0 < m)
    (hl : ne.length = m * sz) (h1 : ∀ u ∈ ne, u.oneCell' = true) (h63 : n + m ≤ 1000000000) (hbytes : bytes ≤ 1000) :
    ∃ v' u', (Builtin.append_ #[t, t] ty #[cur, bx]).run Tryz.prog u = .ok v' u' ∧ Bld v0 w0 u' b T sz v' (n + m) (xs ++ ne) true bx m ne ∧ u.grownBy u' cur.ownBlock := by
  obtain ⟨g, hg1, hg2, hg3, hg4⟩ := h.box rfl
  subst hg1
  obtain ⟨v', u', k1, k2, k3, k4⟩ := append_rows (ty := ty) ht hi hz hs hby hzs hsz hm h.row ⟨g, 0, none⟩ m ne hl (fun j q hq => by
    rw [Addr.add_mid, Nat.zero_add, cell_of hg2]
    simpa using hq) h1 h63 hbytes
  exact ⟨v', u', k1, h.grow k2 k3 k4, k3⟩
/-- The append of a list of loans that lies in memory. -/
theorem Bld.loans {v : Value} {n : Nat} {xs : List Value} (h : Bld v0 w0 u b 59 4 cur n xs made bx m ne) {sa : Option Addr} {k sc : Nat} {l : List Ln} (hl : LoansAt v0 (.slice sa k sc) l) (hb : n + l.length ≤ 100000) (hn : ∃ ca cc, cur = .slice ca n cc ∧ n ≤ cc) :
    ∃ v' u', (Builtin.append_ #[30, 30] 30 #[cur, .slice sa k sc]).run Tryz.prog u = .ok v' u' ∧ Bld v0 w0 u' b 59 4 v' (n + l.length) (xs ++ lnF l) made bx m ne ∧ u.grownBy u' cur.ownBlock := by
  obtain ⟨i, hi, hz0, hz1, hz2⟩ := info_parts info59
  have hl2 := hl.mono h.ext
  obtain ⟨a', c', e, _, hc⟩ := id hl
  cases e
  by_cases h0 : l.length = 0
  · obtain ⟨ca, cc, rfl, hcc⟩ := hn
    have : l = [] := List.eq_nil_of_length_eq_zero h0
    subst this
    refine ⟨_, u, append_none (w := u) (ty := 30) Tryz.underlying30 hi hcc sa sc, by simpa [lnF] using h, ⟨rfl, rfl, rfl, Nat.le_refl _, fun _ h _ => rfl⟩⟩
  · obtain ⟨bb, off, e, _⟩ := hc 0 (by omega)
    subst e
    obtain ⟨v', u', k1, k2, k3, k4⟩ := append_rows (ty := 30) Tryz.underlying30 hi hz0 hz1 hz2 (by simp [Value.cells]) (by omega) (m := l.length) (by omega) h.row ⟨bb, off, none⟩ sc (lnF l) (lnF_len l) (fun j q hq => loans_cells hl2 j q hq) (lnF_one l) (by omega) (by omega)
    exact ⟨v', u', k1, h.grow k2 k3 k4, k3⟩
end
/-- In a region: the box is made by operation i, appended by j, the row is stored by st; ld reads it. -/
def bldJ (v0 w0 : World) (b : Nat) (T : TypeId) (sz i j st ld : Nat) (arr : Value → Array Value) (ty : TypeId) (v : Value) (n : Nat) (xs : List Value) (m : Nat) (ne : List Value) : InvJ := fun L x u =>
  Bld v0 w0 u b T sz (if L j then x j else v) (if L j then n + m else n) (if L j then xs ++ ne else xs) (L i) (x i) m ne ∧ u.heap[b]? = some (.cells (arr (if L st then x j else v)) ty (0, 0)) ∧ (L st = true → L ld = true ∧ L j = true) ∧ (L j = true → L i = true)
section
variable {v0 w0 u : World} {b : Nat} {T : TypeId} {sz i j st ld : Nat} {arr : Value → Array Value} {ty : TypeId} {v : Value} {n : Nat} {xs : List Value} {m : Nat} {ne : List Value} {L : Nat → Bool} {x : Nat → Value}
theorem bldJ_start (h : Bld v0 w0 u b T sz v n xs false undef m ne) (hb : u.heap[b]? = some (.cells (arr v) ty (0, 0))) : bldJ v0 w0 b T sz i j st ld arr ty v n xs m ne (fun _ => false) (fun _ => undef) { u with drawn := u.drawn + 1 } :=
  ⟨h.ext' (Ext.drawn _), hb, fun h => (by cases h), fun h => (by cases h)⟩
theorem bldJ_skip {k : Nat} (hk : (i != k && j != k && st != k) = true) (h : bldJ v0 w0 b T sz i j st ld arr ty v n xs m ne L x u) : bldJ v0 w0 b T sz i j st ld arr ty v n xs m ne (updL L k) x u := by
  simp only [Bool.and_eq_true, bne_iff_ne, ne_eq] at hk
  unfold bldJ updL at *
  rw [if_neg hk.1.1, if_neg hk.1.2, if_neg hk.2]
  refine ⟨h.1, h.2.1, fun e => ⟨?_, (h.2.2.1 e).2⟩, h.2.2.2⟩
  split
  · rfl
  · exact (h.2.2.1 e).1
theorem bldJ_make (hk : (j != i && st != i && st != j) = true) (h : bldJ v0 w0 b T sz i j st ld arr ty v n xs m ne L x u) (hL : L i = false) {cs : Array Value} (hcs : cs = ne.toArray) : bldJ v0 w0 b T sz i j st ld arr ty v n xs m ne (updL L i) (updX x i (.slice (some ⟨u.heap.size, 0, none⟩) m m)) (u.alloc (.cells cs T)) := by
  simp only [Bool.and_eq_true, bne_iff_ne, ne_eq] at hk
  obtain ⟨h1, h2, h3, h4⟩ := h
  have hLj : L j = false := by
    cases e : L j with
    | false => rfl
    | true => rw [h4 e] at hL; cases hL
  have hLs : L st = false := by
    cases e : L st with
    | false => rfl
    | true => rw [(h3 e).2] at hLj; cases hLj
  rw [hLj] at h1
  rw [hLs] at h2
  unfold bldJ updL updX
  rw [if_neg hk.1.1, if_neg hk.1.2, if_pos rfl, if_pos rfl, hLj, hLs]
  exact ⟨h1.make hcs, ((Ext.refl u).alloc _).block h2, fun e => (by cases e), fun e => (by cases e)⟩
theorem bldJ_app (hk : (j != i && st != i && st != j) = true) (h : bldJ v0 w0 b T sz i j st ld arr ty v n xs m ne L x u) (hi : L i = true) (hL : L j = false) {t ty' : TypeId} {bytes : Nat} {inf : TypeInfo} {z : Value} (ht : Tryz.prog.underlying t = some (.slice T)) (hif : Tryz.prog.info? T = some inf) (hz : inf.zero = some z) (hs : inf.size = sz) (hby : inf.bytes = bytes) (hzs : z.cells.size = sz) (hsz : 0 < sz) (hm : 0 < m)
    (hl : ne.length = m * sz) (h1 : ∀ u ∈ ne, u.oneCell' = true) (h63 : n + m ≤ 1000000000) (hbytes : bytes ≤ 1000) :
    ∃ v' u', (Builtin.append_ #[t, t] ty' #[v, x i]).run Tryz.prog u = .ok v' u' ∧ bldJ v0 w0 b T sz i j st ld arr ty v n xs m ne (updL L j) (updX x j v') u' := by
  simp only [Bool.and_eq_true, bne_iff_ne, ne_eq] at hk
  obtain ⟨k1, k2, k3, k4⟩ := h
  have hLs : L st = false := by
    cases e : L st with
    | false => rfl
    | true => rw [(k3 e).2] at hL; cases hL
  rw [hL, hi] at k1
  simp only [Bool.false_eq_true, if_false] at k1
  rw [hLs] at k2
  obtain ⟨v', u', e1, e2, e3⟩ := Bld.app (ty := ty') k1 ht hif hz hs hby hzs hsz hm hl h1 h63 hbytes
  refine ⟨v', u', e1, ?_⟩
  unfold bldJ updL updX
  rw [if_pos rfl, if_neg (Ne.symm hk.1.1), if_neg hk.2, if_neg (Ne.symm hk.1.1), if_pos rfl, hi, hLs]
  simp only [if_true]
  exact ⟨e2, k1.keep e3 k2, fun e => (by cases e), fun _ => trivial⟩
theorem bldJ_store (hk : (j != i && st != i && st != j) = true) (h : bldJ v0 w0 b T sz i j st ld arr ty v n xs m ne L x u) (hj : L j = true) (hld : L ld = true) {off : Nat} (harr : ∀ y z, (arr y).setIfInBounds off z = arr z) : bldJ v0 w0 b T sz i j st ld arr ty v n xs m ne (updL L st) x (u.setCell ⟨b, off, none⟩ (x j)) := by
  simp only [Bool.and_eq_true, bne_iff_ne, ne_eq] at hk
  obtain ⟨k1, k2, k3, k4⟩ := h
  have e := set_same k2 off (x j)
  rw [harr] at e
  unfold bldJ updL
  rw [if_neg (Ne.symm hk.2), if_neg (Ne.symm hk.1.2), if_pos rfl]
  refine ⟨k1.store off _, e, fun _ => ⟨?_, hj⟩, k4⟩
  split
  · rfl
  · exact hld
theorem bldJ_load (h : bldJ v0 w0 b T sz i j st ld arr ty v n xs m ne L x u) (hL : L ld = false) : u.heap[b]? = some (.cells (arr v) ty (0, 0)) := by
  obtain ⟨k1, k2, k3, k4⟩ := h
  have hLs : L st = false := by
    cases e : L st with
    | false => rfl
    | true => rw [(k3 e).1] at hL; cases hL
  rw [hLs] at k2
  exact k2
theorem bldJ_old (h : bldJ v0 w0 b T sz i j st ld arr ty v n xs m ne L x u) (hL : L st = false) : u.heap[b]? = some (.cells (arr v) ty (0, 0)) := by
  have k2 := h.2.1
  rw [hL] at k2
  exact k2
theorem bldJ_end (h : bldJ v0 w0 b T sz i j st ld arr ty v n xs m ne L x u) (hj : L j = true) (hs : L st = true) : Bld v0 w0 u b T sz (x j) (n + m) (xs ++ ne) (L i) (x i) m ne ∧ u.heap[b]? = some (.cells (arr (x j)) ty (0, 0)) := by
  obtain ⟨k1, k2, _⟩ := h
  rw [hj] at k1
  rw [hs] at k2
  exact ⟨k1, k2⟩
theorem bldJ_row (h : bldJ v0 w0 b T sz i j st ld arr ty v n xs m ne L x u) (hj : L j = true) : ∃ a c, x j = .slice a (n + m) c := by
  have k1 := h.1.row
  rw [hj] at k1
  exact k1.isSliceN
end
theorem Row.slice_le {w : World} {T : TypeId} {sz : Nat} {v : Value} {n : Nat} {xs : List Value} (h : Row w T sz v n xs) : ∃ ca cc, v = .slice ca n cc ∧ n ≤ cc := by
  rcases h.2 with ⟨rfl, rfl⟩ | ⟨g, cap, cur, rfl, _, h1, _⟩
  · exact ⟨none, 0, rfl, Nat.le_refl _⟩
  · exact ⟨_, cap, rfl, h1⟩
end
end Go.Proofs.YtjocoadhalimjaaGreat
