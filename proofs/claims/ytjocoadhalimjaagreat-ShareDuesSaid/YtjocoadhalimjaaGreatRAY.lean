/- Who gets what: the map of dues. -/
import Derived.Test.YtjocoadhalimjaaGreatRAW
import Derived.Test.YtjocoadhalimjaaGreatRAX
set_option linter.unusedSimpArgs false
set_option linter.unusedVariables false
namespace Go.Proofs.YtjocoadhalimjaaGreat
section
open Go Go.RowKit Go.Shelf Go.MapKept

def valTo (L : List Stk) (A : Nat → Int) (nm : ByteArray) : Nat → Int
  | 0 => 0
  | k + 1 => if (L.getD k noStk).name = nm then A k else valTo L A nm k
def inTo (L : List Stk) (nm : ByteArray) : Nat → Bool
  | 0 => false
  | k + 1 => decide ((L.getD k noStk).name = nm) || inTo L nm k
theorem valTo_out {L : List Stk} {A : Nat → Int} {nm : ByteArray} : ∀ k, inTo L nm k = false → valTo L A nm k = 0
  | 0, _ => rfl
  | k + 1, h => by
    unfold inTo at h
    simp only [Bool.or_eq_false_iff, decide_eq_false_iff_not] at h
    unfold valTo
    rw [if_neg h.1]; exact valTo_out k h.2
def valsD (L : Nat → List Stk) (A : Nat → Nat → Int) (ks : Nat → Nat) (nm : ByteArray) : Nat → Int := fun j => valTo (L j) (A j) nm (ks j)
def inAny (L : Nat → List Stk) (ks : Nat → Nat) (nm : ByteArray) : Bool := inTo (L 0) nm (ks 0) || (inTo (L 1) nm (ks 1) || inTo (L 2) nm (ks 2))
def dueV (c : Nat → Int) : Value := .agg #[.int .i64 (c 0), .int .i64 (c 1), .int .i64 (c 2)]
structure DueM (L : Nat → List Stk) (A : Nat → Nat → Int) (ks : Nat → Nat) (m : GMap) : Prop where
  all : ∀ p ∈ m, ∃ nm, p = (.string nm, dueV (valsD L A ks nm)) ∧ inAny L ks nm = true
  has : ∀ nm, inAny L ks nm = true → ∃ v, ((.string nm, v) : Value × Value) ∈ m
  len : m.length ≤ ks 0 + ks 1 + ks 2
def bump (ks : Nat → Nat) (i : Nat) : Nat → Nat := fun j => if j = i then ks j + 1 else ks j
def setC (c : Nat → Int) (i : Nat) (x : Int) : Nat → Int := fun j => if j = i then x else c j
theorem zero90 (w : World) : (zeroValue 90).run Tryz.prog w = .ok (dueV fun _ => 0) w := by simp [zeroValue, go_sem, dueV, show Tryz.t90.zero = some (.agg #[.int .i64 0, .int .i64 0, .int .i64 0]) from by kernel_rfl]
section
variable {L : Nat → List Stk} {A : Nat → Nat → Int} {ks : Nat → Nat} {m : GMap} {w : World} {bm : Nat}
theorem DueM.zero (h0 : ks 0 = 0) (h1 : ks 1 = 0) (h2 : ks 2 = 0) : DueM L A ks [] := ⟨by simp, fun nm h => by unfold inAny at h; rw [h0, h1, h2] at h; simp [inTo] at h, by simp⟩
theorem look_due (h : GMapAt .string w bm m) (hD : DueM L A ks m) (nm : ByteArray) :
    (Instr.lookup 123 (.map (some bm)) (.string nm) false).run Tryz.prog w = .ok (dueV (valsD L A ks nm)) w := by
  by_cases hex : ∃ v, ((.string nm, v) : Value × Value) ∈ m
  · obtain ⟨v, hv⟩ := hex
    obtain ⟨nm', he, _⟩ := hD.all _ hv
    have e1 : nm = nm' := Value.string.inj (congrArg Prod.fst he)
    have e2 : v = dueV (valsD L A ks nm') := congrArg Prod.snd he
    subst e1; subst e2
    exact glookup_some h (show IsKey .string (.string nm) from trivial) hv false Tryz.underlying123 Tryz.underlying9
  · have hin : inAny L ks nm = false := by
      cases hh : inAny L ks nm with
      | false => rfl
      | true => exact absurd (hD.has nm hh) hex
    have hv : dueV (valsD L A ks nm) = dueV fun _ => 0 := by
      unfold inAny at hin
      simp only [Bool.or_eq_false_iff] at hin
      unfold dueV valsD
      rw [valTo_out _ hin.1, valTo_out _ hin.2.1, valTo_out _ hin.2.2]
    rw [hv]
    exact glookup_none h (show IsKey .string (.string nm) from trivial) (fun p hp he => hex ⟨p.2, by rw [← he]; exact hp⟩) false Tryz.underlying123 Tryz.underlying9 (zero90 w)
theorem vals_other {nm nm' : ByteArray} {i : Nat} (hn : ((L i).getD (ks i) noStk).name = nm) (hne : nm' ≠ nm) : valsD L A (bump ks i) nm' = valsD L A ks nm' ∧ inAny L (bump ks i) nm' = inAny L ks nm' := by
  have hv : ∀ j, valTo (L j) (A j) nm' (bump ks i j) = valTo (L j) (A j) nm' (ks j) := fun j => by
    unfold bump
    by_cases hj : j = i
    · subst hj; rw [if_pos rfl]
      show (if _ then _ else _) = _
      rw [if_neg (by rw [hn]; exact Ne.symm hne)]
    · rw [if_neg hj]
  have hi : ∀ j, inTo (L j) nm' (bump ks i j) = inTo (L j) nm' (ks j) := fun j => by
    unfold bump
    by_cases hj : j = i
    · subst hj; rw [if_pos rfl]
      show (decide _ || _) = _
      rw [hn, decide_eq_false (Ne.symm hne)]; rfl
    · rw [if_neg hj]
  exact ⟨funext hv, by unfold inAny; rw [hi, hi, hi]⟩
theorem vals_same {nm : ByteArray} {i : Nat} (hi3 : i < 3) (hn : ((L i).getD (ks i) noStk).name = nm) : valsD L A (bump ks i) nm = setC (valsD L A ks nm) i (A i (ks i)) ∧ inAny L (bump ks i) nm = true := by
  constructor
  · funext j
    unfold valsD setC bump
    by_cases hj : j = i
    · subst hj; rw [if_pos rfl, if_pos rfl]
      show (if _ then _ else _) = _
      rw [if_pos hn]
    · rw [if_neg hj, if_neg hj]
  · have hin : inTo (L i) nm (bump ks i i) = true := by
      unfold bump; rw [if_pos rfl]
      show (decide _ || _) = _
      rw [decide_eq_true hn]; rfl
    unfold inAny
    rcases (by omega : i = 0 ∨ i = 1 ∨ i = 2) with rfl | rfl | rfl <;> rw [hin] <;> simp
theorem bump_sum {i : Nat} (hi : i < 3) : bump ks i 0 + bump ks i 1 + bump ks i 2 = ks 0 + ks 1 + ks 2 + 1 := by
  unfold bump
  rcases (by omega : i = 0 ∨ i = 1 ∨ i = 2) with rfl | rfl | rfl <;> simp <;> omega
theorem store_due (h : GMapAt .string w bm m) (hD : DueM L A ks m) {nm : ByteArray} {i : Nat} (hi : i < 3) (hn : ((L i).getD (ks i) noStk).name = nm) :
    ∃ o m', (Instr.mapUpdate 123 (.map (some bm)) (.string nm) (dueV (setC (valsD L A ks nm) i (A i (ks i))))).run Tryz.prog w = .ok () (w.putObj bm o) ∧ GMapAt .string (w.putObj bm o) bm m' ∧ DueM L A (bump ks i) m' := by
  have hs := vals_same (A := A) hi hn
  by_cases hex : ∃ v, ((.string nm, v) : Value × Value) ∈ m
  · obtain ⟨v, hv⟩ := hex
    obtain ⟨a, b, rfl⟩ := List.append_of_mem hv
    obtain ⟨o, h1, h2⟩ := gupdate_old h (show IsKey .string (.string nm) from trivial) (dueV (setC (valsD L A ks nm) i (A i (ks i)))) Tryz.underlying123 Tryz.underlying9
    have hk := h.keys
    refine ⟨o, _, h1, h2, ⟨fun p hp => ?_, fun nm' hin => ?_, ?_⟩⟩
    · have other : p ∈ a ∨ p ∈ b → ∃ nm', p = (.string nm', dueV (valsD L A (bump ks i) nm')) ∧ inAny L (bump ks i) nm' = true := fun hpab => by
        obtain ⟨nm', he, hin⟩ := hD.all p (by rcases hpab with h | h <;> simp [h])
        have hne : nm' ≠ nm := by
          rintro rfl
          have hpk : p.1 = .string nm' := by rw [he]
          rw [List.map_append, List.map_cons, List.nodup_append] at hk
          obtain ⟨_, hk2, hk3⟩ := hk
          rcases hpab with h | h
          · exact hk3 p.1 (List.mem_map.2 ⟨p, h, rfl⟩) (.string nm') (by simp) hpk
          · rw [List.nodup_cons] at hk2
            exact hk2.1 (by rw [← hpk]; exact List.mem_map.2 ⟨p, h, rfl⟩)
        have ho := vals_other (A := A) hn hne
        exact ⟨nm', by rw [he, ho.1], by rw [ho.2]; exact hin⟩
      rcases List.mem_append.1 hp with hpa | hpb
      · exact other (.inl hpa)
      · rcases List.mem_cons.1 hpb with rfl | hpb
        · exact ⟨nm, by rw [hs.1], hs.2⟩
        · exact other (.inr hpb)
    · by_cases hne : nm' = nm
      · subst hne; exact ⟨_, by simp; exact .inr (.inl rfl)⟩
      · rw [(vals_other (A := A) hn hne).2] at hin
        obtain ⟨v', hv'⟩ := hD.has nm' hin
        refine ⟨v', ?_⟩
        rcases List.mem_append.1 hv' with h | h
        · exact List.mem_append_left _ h
        · rcases List.mem_cons.1 h with h | h
          · exact absurd (Value.string.inj (congrArg Prod.fst h)) hne
          · exact List.mem_append_right _ (List.mem_cons_of_mem _ h)
    · have := hD.len
      rw [bump_sum hi]
      simp only [List.length_append, List.length_cons] at this ⊢
      omega
  · obtain ⟨o, h1, h2⟩ := gupdate_new h (show IsKey .string (.string nm) from trivial) (fun p hp he => hex ⟨p.2, by rw [← he]; exact hp⟩) (dueV (setC (valsD L A ks nm) i (A i (ks i)))) Tryz.underlying123 Tryz.underlying9
    refine ⟨o, _, h1, h2, ⟨fun p hp => ?_, fun nm' hin => ?_, ?_⟩⟩
    · rcases List.mem_append.1 hp with hp1 | hp2
      · obtain ⟨nm', he, hin⟩ := hD.all p hp1
        have hne : nm' ≠ nm := by
          rintro rfl
          exact hex ⟨p.2, by rw [show ((.string nm', p.2) : Value × Value) = p by rw [he]]; exact hp1⟩
        have ho := vals_other (A := A) hn hne
        exact ⟨nm', by rw [he, ho.1], by rw [ho.2]; exact hin⟩
      · simp at hp2
        subst hp2
        exact ⟨nm, by rw [hs.1], hs.2⟩
    · by_cases hne : nm' = nm
      · subst hne; exact ⟨_, by simp; exact .inr rfl⟩
      · rw [(vals_other (A := A) hn hne).2] at hin
        obtain ⟨v', hv'⟩ := hD.has nm' hin
        exact ⟨v', List.mem_append_left _ hv'⟩
    · have := hD.len
      rw [bump_sum hi]
      simp; omega
end
end
section
open Go Go.RowKit Go.Shelf Go.MapKept

def lensV (V : Voy) : Nat → Nat := fun j => (partL V j).length
/-- What a name gets, in memory. -/
def dueC (V : Voy) (nm : ByteArray) : List Value := [.string nm, .int .i64 (valsD (partL V) (partG V) (lensV V) nm 0), .int .i64 (valsD (partL V) (partG V) (lensV V) nm 1), .int .i64 (valsD (partL V) (partG V) (lensV V) nm 2)]
def dueF (V : Voy) (ns : List ByteArray) : List Value := ns.flatMap (dueC V)
/-- All names, once, increasing. -/
structure DueNames (V : Voy) (ns : List ByteArray) : Prop where
  rise : ns.Pairwise (fun a b => nmLt a b = true)
  mem : ∀ nm, nm ∈ ns ↔ inAny (partL V) (lensV V) nm = true
theorem rise_eq : ∀ {a b : List ByteArray}, a.Pairwise (fun x y => nmLt x y = true) → b.Pairwise (fun x y => nmLt x y = true) → (∀ n, n ∈ a ↔ n ∈ b) → a = b
  | [], [], _, _, _ => rfl
  | [], y :: b, _, _, h => absurd ((h y).2 (by simp)) (by simp)
  | x :: a, [], _, _, h => absurd ((h x).1 (by simp)) (by simp)
  | x :: a, y :: b, ha, hb, h => by
    rw [List.pairwise_cons] at ha hb
    have hxy : x = y := by
      rcases List.mem_cons.1 ((h x).1 (by simp)) with h1 | h1
      · exact h1
      · rcases List.mem_cons.1 ((h y).2 (by simp)) with h2 | h2
        · exact h2.symm
        · have e1 := hb.1 x h1
          have e2 := ha.1 y h2
          have := nmLt_tr e1 e2
          rw [nmLt_irr] at this; cases this
    subst hxy
    congr 1
    refine rise_eq ha.2 hb.2 fun n => ⟨fun hn => ?_, fun hn => ?_⟩
    · rcases List.mem_cons.1 ((h n).1 (List.mem_cons_of_mem _ hn)) with h1 | h1
      · subst h1; have := ha.1 n hn; rw [nmLt_irr] at this; cases this
      · exact h1
    · rcases List.mem_cons.1 ((h n).2 (List.mem_cons_of_mem _ hn)) with h1 | h1
      · subst h1; have := hb.1 n hn; rw [nmLt_irr] at this; cases this
      · exact h1
theorem DueNames.eq {V : Voy} {a b : List ByteArray} (h : DueNames V a) (k : DueNames V b) : a = b := rise_eq h.rise k.rise fun n => (h.mem n).trans (k.mem n).symm
def nmOf (l : List UInt8) : ByteArray := ⟨l.toArray⟩
theorem nmOf_list (l : List UInt8) : (nmOf l).toList = l := by rw [Lib.toList_data]; rfl
theorem nmOf_data (s : ByteArray) : nmOf s.data.toList = s := rfl
theorem inTo_mem {L : List Stk} {nm : ByteArray} : ∀ {k : Nat}, k ≤ L.length → (inTo L nm k = true ↔ ∃ s ∈ L.take k, s.name = nm)
  | 0, _ => by simp [inTo]
  | k + 1, h => by
    have ih := inTo_mem (L := L) (nm := nm) (k := k) (by omega)
    unfold inTo
    rw [Bool.or_eq_true, ih, decide_eq_true_eq, List.take_succ_eq_append_getElem (by omega), getD_of (by omega)]
    constructor
    · rintro (h1 | ⟨s, hs, he⟩)
      · exact ⟨L[k], List.mem_append_right _ (List.mem_singleton.2 rfl), h1⟩
      · exact ⟨s, List.mem_append_left _ hs, he⟩
    · rintro ⟨s, hs, he⟩
      rcases List.mem_append.1 hs with h1 | h1
      · exact .inr ⟨s, h1, he⟩
      · simp at h1; subst h1; exact .inl he
theorem inAny_mem {V : Voy} {nm : ByteArray} : inAny (partL V) (lensV V) nm = true ↔ ∃ s, (s ∈ partL V 0 ∨ s ∈ partL V 1 ∨ s ∈ partL V 2) ∧ s.name = nm := by
  have h := fun j => inTo_mem (L := partL V j) (nm := nm) (k := lensV V j) (Nat.le_refl _)
  have ht : ∀ j, (partL V j).take (lensV V j) = partL V j := fun j => List.take_length
  unfold inAny
  rw [Bool.or_eq_true, Bool.or_eq_true, h, h, h, ht, ht, ht]
  constructor
  · rintro (⟨s, h1, h2⟩ | ⟨s, h1, h2⟩ | ⟨s, h1, h2⟩)
    · exact ⟨s, .inl h1, h2⟩
    · exact ⟨s, .inr (.inl h1), h2⟩
    · exact ⟨s, .inr (.inr h1), h2⟩
  · rintro ⟨s, h1 | h1 | h1, h2⟩
    · exact .inl ⟨s, h1, h2⟩
    · exact .inr (.inl ⟨s, h1, h2⟩)
    · exact .inr (.inr ⟨s, h1, h2⟩)
theorem name_size {nm : ByteArray} (h : nameB nm = true) : nm.size ≤ maxLen := by
  unfold nameB at h
  rw [Bool.and_eq_true] at h
  have := inB_spec h.1
  unfold maxLen; omega
theorem part_name {V : Voy} (h : ValidV V) {nm : ByteArray} (hin : inAny (partL V) (lensV V) nm = true) : nameB nm = true := by
  obtain ⟨s, hs, rfl⟩ := inAny_mem.1 hin
  rcases hs with h1 | h1 | h1
  · exact ((stakes_ok h.ow).2.1 s h1).1
  · have : s.name ∈ (clm V.le (lentV V) V.le.length).map (·.name) := List.mem_map.2 ⟨s, h1, rfl⟩
    rw [clm_names] at this
    obtain ⟨t, ht, he⟩ := List.mem_map.1 this
    rw [← he]
    exact ((stakes_ok h.le).2.1 t ht).1
  · exact ((stakes_ok h.ha).2.1 s h1).1
/-- The keys of the map, sorted. -/
theorem names_sorted {V : Voy} {m : GMap} {w : World} {bm : Nat} {A : Nat → Nat → Int} (hm : GMapAt .string w bm m) (hD : DueM (partL V) A (lensV V) m) {ss : List (List UInt8)} (hp : ss.Perm (m.map fun p => keyB p.1)) :
    DueNames V ((ss.mergeSort fun x y => decide (x ≤ y)).map nmOf) := by
  have tr : ∀ a b c : List UInt8, decide (a ≤ b) = true → decide (b ≤ c) = true → decide (a ≤ c) = true := fun a b c h1 h2 => by simp only [decide_eq_true_eq] at *; exact List.le_trans h1 h2
  have to : ∀ a b : List UInt8, (decide (a ≤ b) || decide (b ≤ a)) = true := fun a b => by simp only [Bool.or_eq_true, decide_eq_true_eq]; exact List.le_total a b
  have hsp := (List.mergeSort_perm ss fun x y => decide (x ≤ y)).trans hp
  have hpw := List.pairwise_mergeSort tr to ss
  have hkey : ∀ p ∈ m, ∃ nm, p.1 = .string nm ∧ inAny (partL V) (lensV V) nm = true := fun p hpm => by
    obtain ⟨nm, he, hin⟩ := hD.all p hpm
    exact ⟨nm, by rw [he], hin⟩
  have hnd : (m.map fun p => keyB p.1).Nodup := by
    have hk := hm.keys
    unfold List.Nodup at hk ⊢
    rw [List.pairwise_map] at hk ⊢
    refine hk.imp_of_mem fun {p q} hpm hqm hne he => hne ?_
    obtain ⟨n1, e1, _⟩ := hkey p hpm
    obtain ⟨n2, e2, _⟩ := hkey q hqm
    rw [e1, e2] at he ⊢
    have : nmOf n1.data.toList = nmOf n2.data.toList := congrArg nmOf he
    rw [nmOf_data, nmOf_data] at this
    rw [this]
  have hnd2 : (ss.mergeSort fun x y => decide (x ≤ y)).Nodup := hsp.nodup_iff.2 hnd
  refine ⟨?_, fun nm => ?_⟩
  · rw [List.pairwise_map]
    refine (List.Pairwise.and hpw hnd2).imp fun {a b} h => ?_
    rw [nmLt_eq, nmOf_list, nmOf_list, decide_eq_true_eq]
    have h1 : a ≤ b := by simpa using h.1
    by_cases hlt : a < b
    · exact hlt
    · exact absurd (List.le_antisymm h1 (List.not_lt.1 hlt)) h.2
  · rw [List.mem_map]
    constructor
    · rintro ⟨l, hl, rfl⟩
      obtain ⟨p, hpm, rfl⟩ := List.mem_map.1 (hsp.mem_iff.1 hl)
      obtain ⟨n1, e1, hin⟩ := hkey p hpm
      rw [e1]
      exact hin
    · intro hin
      obtain ⟨v, hv⟩ := hD.has nm hin
      exact ⟨nm.data.toList, hsp.mem_iff.2 (List.mem_map.2 ⟨_, hv, rfl⟩), rfl⟩
end
end Go.Proofs.YtjocoadhalimjaaGreat
