/- Who gets what: the map of dues. -/
import Derived.Test.YtjocoadhalimjaaGreatRAN
import Derived.Test.YtjocoadhalimjaaGreatRAO
set_option linter.unusedSimpArgs false
set_option linter.unusedVariables false
namespace Go.Proofs.YtjocoadhalimjaaGreat
section
open Go Go.RowKit Go.Shelf Go.MapKept

def valTo (L : List Stk) (A : Nat → Int) (nm : ByteArray) : Nat → Int
  | 0 => 0
  | k + 1 => if (L.getD k noStk).name = nm then A k else valTo L A nm k
def inTo (L : List Stk) (nm : ByteArray) : Nat → Bool
  | 0 => false
  | k + 1 => decide ((L.getD k noStk).name = nm) || inTo L nm k
theorem valTo_out {L : List Stk} {A : Nat → Int} {nm : ByteArray} : ∀ k, inTo L nm k = false → valTo L A nm k = 0
  | 0, _ => rfl
  | k + 1, h => by
    unfold inTo at h
    simp only [Bool.or_eq_false_iff, decide_eq_false_iff_not] at h
    unfold valTo
    rw [if_neg h.1]; exact valTo_out k h.2
def valsD (L : Nat → List Stk) (A : Nat → Nat → Int) (ks : Nat → Nat) (nm : ByteArray) : Nat → Int := fun j => valTo (L j) (A j) nm (ks j)
def inAny (L : Nat → List Stk) (ks : Nat → Nat) (nm : ByteArray) : Bool := inTo (L 0) nm (ks 0) || (inTo (L 1) nm (ks 1) || inTo (L 2) nm (ks 2))
def dueV (c : Nat → Int) : Value := .agg #[.int .i64 (c 0), .int .i64 (c 1), .int .i64 (c 2)]
structure DueM (L : Nat → List Stk) (A : Nat → Nat → Int) (ks : Nat → Nat) (m : GMap) : Prop where
  all : ∀ p ∈ m, ∃ nm, p = (.string nm, dueV (valsD L A ks nm)) ∧ inAny L ks nm = true
  has : ∀ nm, inAny L ks nm = true → ∃ v, ((.string nm, v) : Value × Value) ∈ m
  len : m.length ≤ ks 0 + ks 1 + ks 2
def bump (ks : Nat → Nat) (i : Nat) : Nat → Nat := fun j => if j = i then ks j + 1 else ks j
def setC (c : Nat → Int) (i : Nat) (x : Int) : Nat → Int := fun j => if j = i then x else c j
theorem zero90 (w : World) : (zeroValue 90).run Tryz.prog w = .ok (dueV fun _ => 0) w := by simp [zeroValue, go_sem, dueV, show Tryz.t90.zero = some (.agg #[.int .i64 0, .int .i64 0, .int .i64 0]) from by kernel_rfl]
section
variable {L : Nat → List Stk} {A : Nat → Nat → Int} {ks : Nat → Nat} {m : GMap} {w : World} {bm : Nat}
theorem DueM.zero (h0 : ks 0 = 0) (h1 : ks 1 = 0) (h2 : ks 2 = 0) : DueM L A ks [] := ⟨by simp, fun nm h => by unfold inAny at h; rw [h0, h1, h2] at h; simp [inTo] at h, by simp⟩
theorem look_due (h : GMapAt .string w bm m) (hD : DueM L A ks m) (nm : ByteArray) :
    (Instr.lookup 123 (.map (some bm)) (.string nm) false).run Tryz.prog w = .ok (dueV (valsD L A ks nm)) w := by
  by_cases hex : ∃ v, ((.string nm, v) : Value × Value) ∈ m
  · obtain ⟨v, hv⟩ := hex
    obtain ⟨nm', he, _⟩ := hD.all _ hv
    have e1 : nm = nm' := Value.string.inj (congrArg Prod.fst he)
    have e2 : v = dueV (valsD L A ks nm') := congrArg Prod.snd he
    subst e1; subst e2
    exact glookup_some h (show IsKey .string (.string nm) from trivial) hv false Tryz.underlying123 Tryz.underlying9
  · have hin : inAny L ks nm = false := by
      cases hh : inAny L ks nm with
      | false => rfl
      | true => exact absurd (hD.has nm hh) hex
    have hv : dueV (valsD L A ks nm) = dueV fun _ => 0 := by
      unfold inAny at hin
      simp only [Bool.or_eq_false_iff] at hin
      unfold dueV valsD
      rw [valTo_out _ hin.1, valTo_out _ hin.2.1, valTo_out _ hin.2.2]
    rw [hv]
    exact glookup_none h (show IsKey .string (.string nm) from trivial) (fun p hp he => hex ⟨p.2, by rw [← he]; exact hp⟩) false Tryz.underlying123 Tryz.underlying9 (zero90 w)
theorem vals_other {nm nm' : ByteArray} {i : Nat} (hn : ((L i).getD (ks i) noStk).name = nm) (hne : nm' ≠ nm) : valsD L A (bump ks i) nm' = valsD L A ks nm' ∧ inAny L (bump ks i) nm' = inAny L ks nm' := by
  have hv : ∀ j, valTo (L j) (A j) nm' (bump ks i j) = valTo (L j) (A j) nm' (ks j) := fun j => by
    unfold bump
    by_cases hj : j = i
    · subst hj; rw [if_pos rfl]
      show (if _ then _ else _) = _
      rw [if_neg (by rw [hn]; exact Ne.symm hne)]
    · rw [if_neg hj]
  have hi : ∀ j, inTo (L j) nm' (bump ks i j) = inTo (L j) nm' (ks j) := fun j => by
    unfold bump
    by_cases hj : j = i
    · subst hj; rw [if_pos rfl]
      show (decide _ || _) = _
      rw [hn, decide_eq_false (Ne.symm hne)]; rfl
    · rw [if_neg hj]
  exact ⟨funext hv, by unfold inAny; rw [hi, hi, hi]⟩
theorem vals_same {nm : ByteArray} {i : Nat} (hi3 : i < 3) (hn : ((L i).getD (ks i) noStk).name = nm) : valsD L A (bump ks i) nm = setC (valsD L A ks nm) i (A i (ks i)) ∧ inAny L (bump ks i) nm = true := by
  constructor
  · funext j
    unfold valsD setC bump
    by_cases hj : j = i
    · subst hj; rw [if_pos rfl, if_pos rfl]
      show (if _ then _ else _) = _
      rw [if_pos hn]
    · rw [if_neg hj, if_neg hj]
  · have hin : inTo (L i) nm (bump ks i i) = true := by
      unfold bump; rw [if_pos rfl]
      show (decide _ || _) = _
      rw [decide_eq_true hn]; rfl
    unfold inAny
    rcases (by omega : i = 0 ∨ i = 1 ∨ i = 2) with rfl | rfl | rfl <;> rw [hin] <;> simp
theorem bump_sum {i : Nat} (hi : i < 3) : bump ks i 0 + bump ks i 1 + bump ks i 2 = ks 0 + ks 1 + ks 2 + 1 := by
  unfold bump
  rcases (by omega : i = 0 ∨ i = 1 ∨ i = 2) with rfl | rfl | rfl <;> simp <;> omega
theorem store_due (h : GMapAt .string w bm m) (hD : DueM L A ks m) {nm : ByteArray} {i : Nat} (hi : i < 3) (hn : ((L i).getD (ks i) noStk).name = nm) :
    ∃ o m', (Instr.mapUpdate 123 (.map (some bm)) (.string nm) (dueV (setC (valsD L A ks nm) i (A i (ks i))))).run Tryz.prog w = .ok () (w.putObj bm o) ∧ GMapAt .string (w.putObj bm o) bm m' ∧ DueM L A (bump ks i) m' := by
  have hs := vals_same (A := A) hi hn
  by_cases hex : ∃ v, ((.string nm, v) : Value × Value) ∈ m
  · obtain ⟨v, hv⟩ := hex
    obtain ⟨a, b, rfl⟩ := List.append_of_mem hv
    obtain ⟨o, h1, h2⟩ := gupdate_old h (show IsKey .string (.string nm) from trivial) (dueV (setC (valsD L A ks nm) i (A i (ks i)))) Tryz.underlying123 Tryz.underlying9
    have hk := h.keys
    refine ⟨o, _, h1, h2, ⟨fun p hp => ?_, fun nm' hin => ?_, ?_⟩⟩
    · have other : p ∈ a ∨ p ∈ b → ∃ nm', p = (.string nm', dueV (valsD L A (bump ks i) nm')) ∧ inAny L (bump ks i) nm' = true := fun hpab => by
        obtain ⟨nm', he, hin⟩ := hD.all p (by rcases hpab with h | h <;> simp [h])
        have hne : nm' ≠ nm := by
          rintro rfl
          have hpk : p.1 = .string nm' := by rw [he]
          rw [List.map_append, List.map_cons, List.nodup_append] at hk
          obtain ⟨_, hk2, hk3⟩ := hk
          rcases hpab with h | h
          · exact hk3 p.1 (List.mem_map.2 ⟨p, h, rfl⟩) (.string nm') (by simp) hpk
          · rw [List.nodup_cons] at hk2
            exact hk2.1 (by rw [← hpk]; exact List.mem_map.2 ⟨p, h, rfl⟩)
        have ho := vals_other (A := A) hn hne
        exact ⟨nm', by rw [he, ho.1], by rw [ho.2]; exact hin⟩
      rcases List.mem_append.1 hp with hpa | hpb
      · exact other (.inl hpa)
      · rcases List.mem_cons.1 hpb with rfl | hpb
        · exact ⟨nm, by rw [hs.1], hs.2⟩
        · exact other (.inr hpb)
    · by_cases hne : nm' = nm
      · subst hne; exact ⟨_, by simp; exact .inr (.inl rfl)⟩
      · rw [(vals_other (A := A) hn hne).2] at hin
        obtain ⟨v', hv'⟩ := hD.has nm' hin
        refine ⟨v', ?_⟩
        rcases List.mem_append.1 hv' with h | h
        · exact List.mem_append_left _ h
        · rcases List.mem_cons.1 h with h | h
          · exact absurd (Value.string.inj (congrArg Prod.fst h)) hne
          · exact List.mem_append_right _ (List.mem_cons_of_mem _ h)
    · have := hD.len
      rw [bump_sum hi]
      simp only [List.length_append, List.length_cons] at this ⊢
      omega
  · obtain ⟨o, h1, h2⟩ := gupdate_new h (show IsKey .string (.string nm) from trivial) (fun p hp he => hex ⟨p.2, by rw [← he]; exact hp⟩) (dueV (setC (valsD L A ks nm) i (A i (ks i)))) Tryz.underlying123 Tryz.underlying9
    refine ⟨o, _, h1, h2, ⟨fun p hp => ?_, fun nm' hin => ?_, ?_⟩⟩
    · rcases List.mem_append.1 hp with hp1 | hp2
      · obtain ⟨nm', he, hin⟩ := hD.all p hp1
        have hne : nm' ≠ nm := by
          rintro rfl
          exact hex ⟨p.2, by rw [show ((.string nm', p.2) : Value × Value) = p by rw [he]]; exact hp1⟩
        have ho := vals_other (A := A) hn hne
        exact ⟨nm', by rw [he, ho.1], by rw [ho.2]; exact hin⟩
      · simp at hp2
        subst hp2
        exact ⟨nm, by rw [hs.1], hs.2⟩
    · by_cases hne : nm' = nm
      · subst hne; exact ⟨_, by simp; exact .inr rfl⟩
      · rw [(vals_other (A := A) hn hne).2] at hin
        obtain ⟨v', hv'⟩ := hD.has nm' hin
        exact ⟨v', List.mem_append_left _ hv'⟩
    · have := hD.len
      rw [bump_sum hi]
      simp; omega
end
end
section
open Go Go.RowKit Go.Shelf Go.MapKept

def lensV (V : Voy) : Nat → Nat := fun j => (partL V j).length
/-- What a name gets, in memory. -/
def dueC (V : Voy) (nm : ByteArray) : List Value := [.string nm, .int .i64 (valsD (partL V) (partG V) (lensV V) nm 0), .int .i64 (valsD (partL V) (partG V) (lensV V) nm 1), .int .i64 (valsD (partL V) (partG V) (lensV V) nm 2)]
def dueF (V : Voy) (ns : List ByteArray) : List Value := ns.flatMap (dueC V)
/-- All names, once, increasing. -/
structure DueNames (V : Voy) (ns : List ByteArray) : Prop where
  rise : ns.Pairwise (fun a b => nmLt a b = true)
  mem : ∀ nm, nm ∈ ns ↔ inAny (partL V) (lensV V) nm = true
theorem rise_eq : ∀ {a b : List ByteArray}, a.Pairwise (fun x y => nmLt x y = true) → b.Pairwise (fun x y => nmLt x y = true) → (∀ n, n ∈ a ↔ n ∈ b) → a = b
  | [], [], _, _, _ => rfl
  | [], y :: b, _, _, h => absurd ((h y).2 (by simp)) (by simp)
  | x :: a, [], _, _, h => absurd ((h x).1 (by simp)) (by simp)
  | x :: a, y :: b, ha, hb, h => by
    rw [List.pairwise_cons] at ha hb
    have hxy : x = y := by
      rcases List.mem_cons.1 ((h x).1 (by simp)) with h1 | h1
      · exact h1
      · rcases List.mem_cons.1 ((h y).2 (by simp)) with h2 | h2
        · exact h2.symm
        · have e1 := hb.1 x h1
          have e2 := ha.1 y h2
          have := nmLt_tr e1 e2
          rw [nmLt_irr] at this; cases this
    subst hxy
    congr 1
    refine rise_eq ha.2 hb.2 fun n => ⟨fun hn => ?_, fun hn => ?_⟩
    · rcases List.mem_cons.1 ((h n).1 (List.mem_cons_of_mem _ hn)) with h1 | h1
      · subst h1; have := ha.1 n hn; rw [nmLt_irr] at this; cases this
      · exact h1
    · rcases List.mem_cons.1 ((h n).2 (List.mem_cons_of_mem _ hn)) with h1 | h1
      · subst h1; have := hb.1 n hn; rw [nmLt_irr] at this; cases this
      · exact h1
theorem DueNames.eq {V : Voy} {a b : List ByteArray} (h : DueNames V a) (k : DueNames V b) : a = b := rise_eq h.rise k.rise fun n => (h.mem n).trans (k.mem n).symm
def nmOf (l : List UInt8) : ByteArray := ⟨l.toArray⟩
theorem nmOf_list (l : List UInt8) : (nmOf l).toList = l := by rw [Lib.toList_data]; rfl
theorem nmOf_data (s : ByteArray) : nmOf s.data.toList = s := rfl
theorem inTo_mem {L : List Stk} {nm : ByteArray} : ∀ {k : Nat}, k ≤ L.length → (inTo L nm k = true ↔ ∃ s ∈ L.take k, s.name = nm)
  | 0, _ => by simp [inTo]
  | k + 1, h => by
    have ih := inTo_mem (L := L) (nm := nm) (k := k) (by omega)
    unfold inTo
    rw [Bool.or_eq_true, ih, decide_eq_true_eq, List.take_succ_eq_append_getElem (by omega), getD_of (by omega)]
    constructor
    · rintro (h1 | ⟨s, hs, he⟩)
      · exact ⟨L[k], List.mem_append_right _ (List.mem_singleton.2 rfl), h1⟩
      · exact ⟨s, List.mem_append_left _ hs, he⟩
    · rintro ⟨s, hs, he⟩
      rcases List.mem_append.1 hs with h1 | h1
      · exact .inr ⟨s, h1, he⟩
      · simp at h1; subst h1; exact .inl he
theorem inAny_mem {V : Voy} {nm : ByteArray} : inAny (partL V) (lensV V) nm = true ↔ ∃ s, (s ∈ partL V 0 ∨ s ∈ partL V 1 ∨ s ∈ partL V 2) ∧ s.name = nm := by
  have h := fun j => inTo_mem (L := partL V j) (nm := nm) (k := lensV V j) (Nat.le_refl _)
  have ht : ∀ j, (partL V j).take (lensV V j) = partL V j := fun j => List.take_length
  unfold inAny
  rw [Bool.or_eq_true, Bool.or_eq_true, h, h, h, ht, ht, ht]
  constructor
  · rintro (⟨s, h1, h2⟩ | ⟨s, h1, h2⟩ | ⟨s, h1, h2⟩)
    · exact ⟨s, .inl h1, h2⟩
    · exact ⟨s, .inr (.inl h1), h2⟩
    · exact ⟨s, .inr (.inr h1), h2⟩
  · rintro ⟨s, h1 | h1 | h1, h2⟩
    · exact .inl ⟨s, h1, h2⟩
    · exact .inr (.inl ⟨s, h1, h2⟩)
    · exact .inr (.inr ⟨s, h1, h2⟩)
theorem name_size {nm : ByteArray} (h : nameB nm = true) : nm.size ≤ maxLen := by
  unfold nameB at h
  rw [Bool.and_eq_true] at h
  have := inB_spec h.1
  unfold maxLen; omega
theorem part_name {V : Voy} (h : ValidV V) {nm : ByteArray} (hin : inAny (partL V) (lensV V) nm = true) : nameB nm = true := by
  obtain ⟨s, hs, rfl⟩ := inAny_mem.1 hin
  rcases hs with h1 | h1 | h1
  · exact ((stakes_ok h.ow).2.1 s h1).1
  · have : s.name ∈ (clm V.le (lentV V) V.le.length).map (·.name) := List.mem_map.2 ⟨s, h1, rfl⟩
    rw [clm_names] at this
    obtain ⟨t, ht, he⟩ := List.mem_map.1 this
    rw [← he]
    exact ((stakes_ok h.le).2.1 t ht).1
  · exact ((stakes_ok h.ha).2.1 s h1).1
/-- The keys of the map, sorted. -/
theorem names_sorted {V : Voy} {m : GMap} {w : World} {bm : Nat} {A : Nat → Nat → Int} (hm : GMapAt .string w bm m) (hD : DueM (partL V) A (lensV V) m) {ss : List (List UInt8)} (hp : ss.Perm (m.map fun p => keyB p.1)) :
    DueNames V ((ss.mergeSort fun x y => decide (x ≤ y)).map nmOf) := by
  have tr : ∀ a b c : List UInt8, decide (a ≤ b) = true → decide (b ≤ c) = true → decide (a ≤ c) = true := fun a b c h1 h2 => by simp only [decide_eq_true_eq] at *; exact List.le_trans h1 h2
  have to : ∀ a b : List UInt8, (decide (a ≤ b) || decide (b ≤ a)) = true := fun a b => by simp only [Bool.or_eq_true, decide_eq_true_eq]; exact List.le_total a b
  have hsp := (List.mergeSort_perm ss fun x y => decide (x ≤ y)).trans hp
  have hpw := List.pairwise_mergeSort tr to ss
  have hkey : ∀ p ∈ m, ∃ nm, p.1 = .string nm ∧ inAny (partL V) (lensV V) nm = true := fun p hpm => by
    obtain ⟨nm, he, hin⟩ := hD.all p hpm
    exact ⟨nm, by rw [he], hin⟩
  have hnd : (m.map fun p => keyB p.1).Nodup := by
    have hk := hm.keys
    unfold List.Nodup at hk ⊢
    rw [List.pairwise_map] at hk ⊢
    refine hk.imp_of_mem fun {p q} hpm hqm hne he => hne ?_
    obtain ⟨n1, e1, _⟩ := hkey p hpm
    obtain ⟨n2, e2, _⟩ := hkey q hqm
    rw [e1, e2] at he ⊢
    have : nmOf n1.data.toList = nmOf n2.data.toList := congrArg nmOf he
    rw [nmOf_data, nmOf_data] at this
    rw [this]
  have hnd2 : (ss.mergeSort fun x y => decide (x ≤ y)).Nodup := hsp.nodup_iff.2 hnd
  refine ⟨?_, fun nm => ?_⟩
  · rw [List.pairwise_map]
    refine (List.Pairwise.and hpw hnd2).imp fun {a b} h => ?_
    rw [nmLt_eq, nmOf_list, nmOf_list, decide_eq_true_eq]
    have h1 : a ≤ b := by simpa using h.1
    by_cases hlt : a < b
    · exact hlt
    · exact absurd (List.le_antisymm h1 (List.not_lt.1 hlt)) h.2
  · rw [List.mem_map]
    constructor
    · rintro ⟨l, hl, rfl⟩
      obtain ⟨p, hpm, rfl⟩ := List.mem_map.1 (hsp.mem_iff.1 hl)
      obtain ⟨n1, e1, hin⟩ := hkey p hpm
      rw [e1]
      exact hin
    · intro hin
      obtain ⟨v, hv⟩ := hD.has nm hin
      exact ⟨nm.data.toList, hsp.mem_iff.2 (List.mem_map.2 ⟨_, hv, rfl⟩), rfl⟩
end
section
open Go Go.RowKit Go.Shelf

def ksAt (V : Voy) (i k : Nat) : Nat → Nat := fun j => if j < i then lensV V j else if j = i then k else 0
theorem ksAt_bump (V : Voy) (i k : Nat) : bump (ksAt V i k) i = ksAt V i (k + 1) := by
  funext j
  unfold bump ksAt
  by_cases h1 : j = i
  · subst h1; simp
  · rw [if_neg h1]
    by_cases h2 : j < i
    · rw [if_pos h2, if_pos h2]
    · rw [if_neg h2, if_neg h2, if_neg h1, if_neg h1]
theorem ksAt_next (V : Voy) (i : Nat) : ksAt V i (lensV V i) = ksAt V (i + 1) 0 := by
  funext j
  unfold ksAt
  by_cases h1 : j < i
  · rw [if_pos h1, if_pos (by omega)]
  · by_cases h2 : j = i
    · subst h2; rw [if_neg h1, if_pos rfl, if_pos (by omega)]
    · rw [if_neg h1, if_neg h2, if_neg (by omega)]; split <;> rfl
theorem StakesAt.of_claims {w : World} {v : Value} {V : Voy} (h : Row w 49 2 v V.le.length (stkF (clm V.le (lentV V) V.le.length))) (hl : V.le.length ≤ 1000) : StakesAt w v (partL V 1) := by
  have e : (clm V.le (lentV V) V.le.length).length = V.le.length := clm_len _ _ _
  exact StakesAt.of_row (l := clm V.le (lentV V) V.le.length) (by rw [e]; exact h) (by omega)
theorem StakesAt.here {w : World} {a : Option Addr} {n c : Nat} {l : List Stk} (h : StakesAt w (.slice a n c) l) : n = l.length ∧ n ≤ c ∧ ∀ j (hj : j < l.length), ∃ b off, a = some ⟨b, off, none⟩ ∧ b < w.heap.size ∧ w.cell? ⟨b, off + j * 2, none⟩ = some (.string l[j].name) := by
  obtain ⟨a', c', e, ⟨h1, h2⟩, h3⟩ := h
  cases e
  refine ⟨rfl, h1, fun j hj => ?_⟩
  obtain ⟨b, off, e, hb, c0, _⟩ := h3 j hj
  exact ⟨b, off, e, hb, c0⟩
/-- All blocks but one are kept. -/
def KM (bm : Nat) (W W' : World) : Prop := W.heap.size ≤ W'.heap.size ∧ ∀ q o, q ≠ bm → W.heap[q]? = some o → W'.heap[q]? = some o
theorem KM.refl (bm : Nat) (W : World) : KM bm W W := ⟨Nat.le_refl _, fun _ _ _ h => h⟩
theorem KM.trans {bm : Nat} {u v w : World} (h : KM bm u v) (k : KM bm v w) : KM bm u w := ⟨Nat.le_trans h.1 k.1, fun q o hq ho => k.2 q o hq (h.2 q o hq ho)⟩
theorem KM.of_ext {bm : Nat} {u v : World} (h : Ext u v) : KM bm u v := ⟨h.size, fun _ _ _ ho => h.block ho⟩
theorem KM.put (bm : Nat) (u : World) (o : Obj) : KM bm u (u.putObj bm o) := ⟨by simp, fun q o' hq ho => by rw [World.putObj_heap_other hq]; exact ho⟩
theorem KM.set {bm : Nat} {u v : World} (h : KM bm u v) {b : Nat} (hb : u.heap.size ≤ b) (off : Nat) (x : Value) : KM bm u (v.setCell ⟨b, off, none⟩ x) := ⟨by simpa using h.1, fun q o hq ho => by rw [set_other (by have := lt_of_block ho; omega)]; exact h.2 q o hq ho⟩
theorem KM.cell {bm : Nat} {u v : World} (h : KM bm u v) {cs : Array Value} {t : TypeId} {g : Nat} (hg : u.heap[g]? = some (.cells cs t (0, 0))) (hne : g ≠ bm) : v.heap[g]? = some (.cells cs t (0, 0)) := h.2 _ _ hne hg
theorem KM.cell? {bm : Nat} {u v : World} (h : KM bm u v) {b off : Nat} (hb : b < u.heap.size) (hne : b ≠ bm) : v.cell? ⟨b, off, none⟩ = u.cell? ⟨b, off, none⟩ := by
  obtain ⟨o, ho⟩ : ∃ o, u.heap[b]? = some o := ⟨u.heap[b], by simp [hb]⟩
  unfold World.cell?
  rw [h.2 b o hne ho, ho]
theorem dueV_0 (c : Nat → Int) (x : Int) : dueV (setC c 0 x) = .agg #[.int .i64 x, .int .i64 (c 1), .int .i64 (c 2)] := by simp [dueV, setC]
theorem dueV_1 (c : Nat → Int) (x : Int) : dueV (setC c 1 x) = .agg #[.int .i64 (c 0), .int .i64 x, .int .i64 (c 2)] := by simp [dueV, setC]
theorem dueV_2 (c : Nat → Int) (x : Int) : dueV (setC c 2 x) = .agg #[.int .i64 (c 0), .int .i64 (c 1), .int .i64 x] := by simp [dueV, setC]
/-- The map of dues, all parts gone through. -/
def DuesIn (V : Voy) (w : World) (bm i k : Nat) : Prop := ∃ m, GMapAt .string w bm m ∧ DueM (partL V) (partG V) (ksAt V i k) m
theorem ks_end (V : Voy) (nm : ByteArray) : inAny (partL V) (ksAt V 3 0) nm = inAny (partL V) (lensV V) nm ∧ dueV (valsD (partL V) (partG V) (ksAt V 3 0) nm) = dueV (valsD (partL V) (partG V) (lensV V) nm) := ⟨rfl, rfl⟩
theorem DueM.ended {V : Voy} {m : GMap} (h : DueM (partL V) (partG V) (ksAt V 3 0) m) : DueM (partL V) (partG V) (lensV V) m := ⟨fun p hp => by obtain ⟨nm, he, hi⟩ := h.all p hp; exact ⟨nm, he, hi⟩, fun nm hi => h.has nm hi, h.len⟩
theorem info53 : (Tryz.prog.info? 53).map (fun i => (i.zero, i.size, i.bytes)) = some (some (.agg #[.string ByteArray.empty, .int .i64 0, .int .i64 0, .int .i64 0]), 4, 40) := by kernel_rfl
theorem dueF_succ (V : Voy) (ns : List ByteArray) {k : Nat} (h : k < ns.length) : dueF V (ns.take (k + 1)) = dueF V (ns.take k) ++ dueC V ns[k] := by
  unfold dueF
  rw [List.take_succ_eq_append_getElem h, List.flatMap_append]; simp
set_option maxRecDepth 100000 in
set_option maxHeartbeats 16000000 in
theorem dues_any (V : Voy) (s : VS) (bv : Nat) (w : World) (hv : VoyAt w V s) (hok : ValidV V) (hle : lendB V.le V.lo = true) (hm : GMapAt .string w bv (entM V.le (lentV V) V.le.length)) :
    Cal 60 #[.agg #[.int .i64 V.gr, .slice s.ca V.cs.length s.cc, .int .i64 V.bo, .int .i64 V.ne, .int .i64 V.cr, .slice s.oa V.ow.length s.oc, .slice s.la V.le.length s.lc, .slice s.ha V.ha.length s.hc, .slice s.xa V.lo.length s.xc, .map (some bv)]] w fun e w' => ∃ r ns, e = .returned r ∧ Ext w w' ∧ DueNames V ns ∧ ns.length ≤ 30 ∧ Hid (Row w' 53 4 r ns.length (dueF V ns)) := by
  have HOK := hid hok
  have HCD := hid (can_div hok hle)
  have hn := net_bound hok
  have HPN := hid (fun (u : World) (hu : Ext w u) => vpence_any V.gr V.bo V.ne V.cr (.slice s.xa V.lo.length s.xc) (.map (some bv)) s.ca s.oa s.la s.ha s.cc V.ow.length s.oc V.le.length s.lc V.ha.length s.hc V.cs u (hv.cs.mono hu) (fun x hx => by have := hok.cs x hx; have := hok.gr; omega) (by have := hok.csl; omega) (by have := hok.gr; omega) hn hok.bo hok.ne hok.cr hok.all)
  have HPN : Hid (∀ u, Ext w u → Cal 58 #[.agg #[.int .i64 V.gr, .slice s.ca V.cs.length s.cc, .int .i64 V.bo, .int .i64 V.ne, .int .i64 V.cr, .slice s.oa V.ow.length s.oc, .slice s.la V.le.length s.lc, .slice s.ha V.ha.length s.hc, .slice s.xa V.lo.length s.xc, .map (some bv)]] u fun e w' => e = .returned (.agg #[.int .i64 (partP V 0), .int .i64 (partP V 1), .int .i64 (partP V 2)]) ∧ Ext u w') := HPN
  have HPA := hid (fun (u : World) => parts_any u)
  have c0 := (hv.ow.capped)
  have c2 := (hv.ha.capped)
  have l1 := (stakes_ok hok.le).1
  have H96 := hid (fun (u : World) => owners_any V.gr V.bo V.ne V.cr (.slice s.ca V.cs.length s.cc) (.slice s.xa V.lo.length s.xc) (.map (some bv)) s.oa s.la s.ha V.ow.length s.oc V.le.length s.lc V.ha.length s.hc u c0.1)
  have H98 := hid (fun (u : World) => hands_any V.gr V.bo V.ne V.cr (.slice s.ca V.cs.length s.cc) (.slice s.xa V.lo.length s.xc) (.map (some bv)) s.oa s.la s.ha V.ow.length s.oc V.le.length s.lc V.ha.length s.hc u c2.1)
  have H55 := hid (fun (u : World) (hu : Ext w u) => claims_any V.gr V.bo V.ne V.cr (.slice s.ca V.cs.length s.cc) (.slice s.oa V.ow.length s.oc) (.slice s.ha V.ha.length s.hc) (.slice s.xa V.lo.length s.xc) s.la s.lc bv V.le (lentV V) u (hv.le.mono hu) (hm.mono hu) (by omega))
  have HS0 := hid (fun (u : World) (hu : Ext w u) => (c0.2.2.mono hu : StakesAt u _ (partL V 0)))
  have HS2 := hid (fun (u : World) (hu : Ext w u) => (c2.2.2.mono hu : StakesAt u _ (partL V 2)))
  have HDV := hid (fun (i : Nat) (hi : i < 3) (v : Value) (u : World) (hs : StakesAt u v (partL V i)) => (divide_any (partP V i) v (partL V i) u hs (HCD.out i hi).pb (HCD.out i hi).w (HCD.out i hi).len (HCD.out i hi).pos (HCD.out i hi).nd))
  have HI0 := hid index120_0
  have HI1 := hid index120_1
  have HI2 := hid index120_2
  have HL1 := hid l1
  clear hv hok hle hm hn c0 c2 l1
  have hmm := @run_makeMap Tryz.prog
  have hX0 : Ext w (w.alloc (.cells #[.int .i64 V.gr, .slice s.ca V.cs.length s.cc, .int .i64 V.bo, .int .i64 V.ne, .int .i64 V.cr, .slice s.oa V.ow.length s.oc, .slice s.la V.le.length s.lc, .slice s.ha V.ha.length s.hc, .slice s.xa V.lo.length s.xc, .map (some bv)] 83)) := (Ext.refl _).alloc _
  have hB0 := Ext.new (w := w) (o := .cells #[.int .i64 V.gr, .slice s.ca V.cs.length s.cc, .int .i64 V.bo, .int .i64 V.ne, .int .i64 V.cr, .slice s.oa V.ow.length s.oc, .slice s.la V.le.length s.lc, .slice s.ha V.ha.length s.hc, .slice s.xa V.lo.length s.xc, .map (some bv)] 83) (Ext.refl _)
  gi_enter Tryz.func60, Tryz.ntmps60
  gi_upto_region 2 with fail
  clear hmm
  have hxm : Ext w ((w.alloc (.cells #[.int .i64 V.gr, .slice s.ca V.cs.length s.cc, .int .i64 V.bo, .int .i64 V.ne, .int .i64 V.cr, .slice s.oa V.ow.length s.oc, .slice s.la V.le.length s.lc, .slice s.ha V.ha.length s.hc, .slice s.xa V.lo.length s.xc, .map (some bv)] 83)).alloc (.map #[] 0)) := hX0.alloc _
  have hbx : ((w.alloc (.cells #[.int .i64 V.gr, .slice s.ca V.cs.length s.cc, .int .i64 V.bo, .int .i64 V.ne, .int .i64 V.cr, .slice s.oa V.ow.length s.oc, .slice s.la V.le.length s.lc, .slice s.ha V.ha.length s.hc, .slice s.xa V.lo.length s.xc, .map (some bv)] 83)).alloc (.map #[] 0)).heap[w.heap.size]? = some (.cells #[.int .i64 V.gr, .slice s.ca V.cs.length s.cc, .int .i64 V.bo, .int .i64 V.ne, .int .i64 V.cr, .slice s.oa V.ow.length s.oc, .slice s.la V.le.length s.lc, .slice s.ha V.ha.length s.hc, .slice s.xa V.lo.length s.xc, .map (some bv)] 83 (0, 0)) := ((Ext.refl _).alloc _).block hB0
  have hmp : GMapAt .string ((w.alloc (.cells #[.int .i64 V.gr, .slice s.ca V.cs.length s.cc, .int .i64 V.bo, .int .i64 V.ne, .int .i64 V.cr, .slice s.oa V.ow.length s.oc, .slice s.la V.le.length s.lc, .slice s.ha V.ha.length s.hc, .slice s.xa V.lo.length s.xc, .map (some bv)] 83)).alloc (.map #[] 0)) (w.heap.size + 1) [] := by
    have := GMapAt.made .string (w.alloc (.cells #[.int .i64 V.gr, .slice s.ca V.cs.length s.cc, .int .i64 V.bo, .int .i64 V.ne, .int .i64 V.cr, .slice s.oa V.ow.length s.oc, .slice s.la V.le.length s.lc, .slice s.ha V.ha.length s.hc, .slice s.xa V.lo.length s.xc, .map (some bv)] 83)); rwa [World.size_alloc] at this
  clear hX0 hB0
  generalize (w.alloc (.cells #[.int .i64 V.gr, .slice s.ca V.cs.length s.cc, .int .i64 V.bo, .int .i64 V.ne, .int .i64 V.cr, .slice s.oa V.ow.length s.oc, .slice s.la V.le.length s.lc, .slice s.ha V.ha.length s.hc, .slice s.xa V.lo.length s.xc, .map (some bv)] 83)).alloc (.map #[] 0) = W at *
  generalize hbm : w.heap.size + 1 = bm at *
  have HBM : Hid (w.heap.size < bm) := hid (by omega)
  clear hbm
  have cb := cell_of hbx
  have HXM := hid hxm
  have HBX := hid hbx
  have HMP := hid hmp
  clear hxm hbx hmp
  gi_upto_region 3 with (gi_at_call 58; ((with_reducible refine (HPN.out _ HXM.out).mono ?_); rintro e w1 ⟨rfl, hx1⟩))
  have hxa : Ext W (w1.alloc (.cells #[.int .i64 (partP V 0), .int .i64 (partP V 1), .int .i64 (partP V 2)] 90)) := hx1.alloc _
  have hg : (w1.alloc (.cells #[.int .i64 (partP V 0), .int .i64 (partP V 1), .int .i64 (partP V 2)] 90)).heap[w1.heap.size]? = some (.cells #[.int .i64 (partP V 0), .int .i64 (partP V 1), .int .i64 (partP V 2)] 90 (0, 0)) := Ext.new (Ext.refl _)
  have HXn := hid (HXM.out.trans hxa)
  have HBn := hid (hxa.block HBX.out)
  have HMn := hid (HMP.out.mono hxa)
  have HGL : Hid (w.heap.size ≤ w1.heap.size ∧ bm < w1.heap.size) := hid ⟨(HXM.out.trans hx1).size, Nat.lt_of_lt_of_le HMP.out.lt hx1.size⟩
  have HG := hid hg
  clear hxa hg cb HXM HBX HMP hx1
  generalize w1.alloc (.cells #[.int .i64 (partP V 0), .int .i64 (partP V 1), .int .i64 (partP V 2)] 90) = W1 at *
  generalize w1.heap.size = g at *
  clear W w1
  gi_wp2_with (gi_at_call 78; ((with_reducible refine (HPA.out _).mono ?_); rintro e w2 ⟨rfl, hx2⟩))
  have HJ : Hid (Ext w w2 ∧ w2.heap[w.heap.size]? = some (.cells #[.int .i64 V.gr, .slice s.ca V.cs.length s.cc, .int .i64 V.bo, .int .i64 V.ne, .int .i64 V.cr, .slice s.oa V.ow.length s.oc, .slice s.la V.le.length s.lc, .slice s.ha V.ha.length s.hc, .slice s.xa V.lo.length s.xc, .map (some bv)] 83 (0, 0)) ∧ w2.heap[g]? = some (.cells #[.int .i64 (partP V 0), .int .i64 (partP V 1), .int .i64 (partP V 2)] 90 (0, 0)) ∧ DuesIn V w2 bm 0 0) := hid ⟨HXn.out.trans hx2, hx2.block HBn.out, hx2.block HG.out, _, HMn.out.mono hx2, DueM.zero rfl rfl rfl⟩
  clear HXn HBn HMn HG hx2
  gi_loopw [5, 6, 7, 8, 9, 10, 19] (fun u5 u6 u7 u8 u9 u10 i wr => ∃ k : Nat, k ≤ 3 ∧ i = .int .i64 k ∧ Hid (Ext w wr ∧ wr.heap[w.heap.size]? = some (.cells #[.int .i64 V.gr, .slice s.ca V.cs.length s.cc, .int .i64 V.bo, .int .i64 V.ne, .int .i64 V.cr, .slice s.oa V.ow.length s.oc, .slice s.la V.le.length s.lc, .slice s.ha V.ha.length s.hc, .slice s.xa V.lo.length s.xc, .map (some bv)] 83 (0, 0)) ∧ wr.heap[g]? = some (.cells #[.int .i64 (partP V 0), .int .i64 (partP V 1), .int .i64 (partP V 2)] 90 (0, 0)) ∧ DuesIn V wr bm k 0)) (fun _ _ _ _ _ _ i _ => 3 - (intOf i).toNat)
  case atStart => exact ⟨0, by omega, rfl, HJ⟩
  case round =>
    obtain ⟨i, hk, rfl, HI⟩ := hrel
    clear HJ
    rcases (by omega : i = 0 ∨ i = 1 ∨ i = 2 ∨ i = 3) with rfl | rfl | rfl | rfl
    · have hix := HI0.out wr
      gi_wp2_with (refine wpIn_store_fresh (fun _ => trivial) 119 (.tmp 6) (.tmp 22) rfl (W := wr) (c' := #[.string ⟨#[98, 111, 97, 116]⟩, fnV 96, fnV 96]) rfl rfl rfl size119 rfl (by simp [Value.oneCell']) ?_; refine Hid.out ?_)
      have hxa : Ext wr (wr.alloc (.cells #[.string ⟨#[98, 111, 97, 116]⟩, fnV 96, fnV 96] 119)) := (Ext.refl _).alloc _
      have hn : (wr.alloc (.cells #[.string ⟨#[98, 111, 97, 116]⟩, fnV 96, fnV 96] 119)).heap[wr.heap.size]? = some (.cells #[.string ⟨#[98, 111, 97, 116]⟩, fnV 96, fnV 96] 119 (0, 0)) := Ext.new (Ext.refl _)
      have HXn := hid (HI.out.1.trans hxa)
      have HBn := hid (hxa.block HI.out.2.1)
      have HGn := hid (hxa.block HI.out.2.2.1)
      obtain ⟨m0, hm0, hd0⟩ := HI.out.2.2.2
      have HMn := hid (And.intro (hm0.mono hxa) hd0)
      clear HI hxa hix hm0 hd0
      refine hid ?_
      generalize wr.alloc (.cells #[.string ⟨#[98, 111, 97, 116]⟩, fnV 96, fnV 96] 119) = W3 at *
      generalize wr.heap.size = nb at *
      have cn := cell_of hn
      have cB := cell_of HBn.out
      gi_upto_region 7 with (gi_at_call 96; ((with_reducible refine (H96.out _).mono ?_); rintro e w4 ⟨rfl, hx4⟩; have hst := HS0.out _ (HXn.out.trans hx4)))
      have cP := cell_of (hx4.block HGn.out)
      clear cn cB hn
      gi_wp2_with (gi_at_call 49; ((with_reducible refine (HDV.out 0 (by omega) _ _ hst).mono ?_); rintro e w5 ⟨r5, rfl, hx5, hr5⟩; obtain ⟨na5, nc5, rfl⟩ := hr5.out.isSliceN))
      have cc := (hst.mono hx5).here
      clear hst cP
      have HSTK : Hid (∀ j (hj : j < (partL V 0).length), ∃ b off, s.oa = some ⟨b, off, none⟩ ∧ b < w5.heap.size ∧ w5.cell? ⟨b, off + j * 2, none⟩ = some (.string (partL V 0)[j].name)) := hid cc.2.2
      have hlen : V.ow.length = (partL V 0).length := cc.1
      have HXX := hid ((HXn.out.trans hx4).trans hx5)
      have HM5 := hid (And.intro (HMn.out.1.mono (hx4.trans hx5)) HMn.out.2)
      have HB5 := hid ((hx4.trans hx5).block HBn.out)
      have HG5 := hid ((hx4.trans hx5).block HGn.out)
      have HR5 := hid hr5.out
      have HKI : Hid (Ext w w5 ∧ KM bm w5 w5 ∧ DuesIn V w5 bm 0 0) := hid ⟨HXX.out, KM.refl _ _, m0, HM5.out.1, HM5.out.2⟩
      have HNM := hid (fun (j : Nat) (hj : j < (partL V 0).length) => (by rw [getD_of hj] : ((partL V 0).getD j noStk).name = (partL V 0)[j].name))
      have HBNE : Hid (∀ b, b < w5.heap.size → (∃ off x, w5.cell? ⟨b, off, none⟩ = some x) → b ≠ bm) := hid fun b _ hc e => by
        obtain ⟨off, x, hc⟩ := hc
        obtain ⟨es, clock, hbm, _⟩ := HM5.out.1
        rw [e] at hc
        simp [World.cell?, hbm] at hc
      clear cc hr5 hx4 hx5 HXn HMn HBn HGn
      have hl10 : (partL V 0).length ≤ 10 := (HCD.out 0 (by omega)).len
      obtain ⟨w5', hw5⟩ : ∃ w5', w5' = w5 := ⟨w5, rfl⟩
      have HW5 := hid hw5
      clear hw5
      gi_loopw [8, 9, 10, 33] (fun u8 u9 u10 j wr => ∃ k : Nat, k ≤ (partL V 0).length ∧ j = .int .i64 k ∧ Hid (Ext w wr ∧ KM bm w5' wr ∧ DuesIn V wr bm 0 k)) (fun _ _ _ j _ => (partL V 0).length - (intOf j).toNat)
      case atStart => exact ⟨0, Nat.zero_le _, rfl, by rw [HW5.out]; exact HKI⟩
      case round =>
        obtain ⟨k, hk, rfl, HQ⟩ := hrel
        clear HKI
        by_cases hlt : k < (partL V 0).length
        · have hki : (k : Int) < ((partL V 0).length : Int) := by omega
          have hki2 : (k : Int) < (V.ow.length : Int) := by omega
          obtain ⟨b, off, hsa, hbb, c0⟩ := HSTK.out k hlt
          rw [hsa]
          have hkm : KM bm w5 wr := by rw [← HW5.out]; exact HQ.out.2.1
          rw [← hkm.cell? hbb (HBNE.out _ hbb ⟨_, _, c0⟩)] at c0
          obtain ⟨g5, cap5, cur5, e5, _, hb5, hc5, _⟩ := Row.cells1 HR5.out hlt
          cases e5
          have hg5 : g5 ≠ bm := HM5.out.1.notCells hb5
          rw [show (intsF (partL V 0).length (giveTo (partP V 0) (partL V 0)))[k]? = some (.int .i64 (partG V 0 k)) by simp [intsF, hlt, partG], ← hkm.cell? (lt_of_block hb5) hg5] at hc5
          have HNK := hid (HNM.out k hlt)
          obtain ⟨nm, hnm⟩ : ∃ nm, (partL V 0)[k].name = nm := ⟨_, rfl⟩
          rw [hnm] at c0 HNK
          obtain ⟨m, hm, hD⟩ := HQ.out.2.2
          have hlk := look_due hm hD nm
          have HX := hid HQ.out.1
          have HKM := hid HQ.out.2.1
          have HMM := hid hm
          have HDD := hid hD
          have hksv : ksAt V 0 k 0 = k := by simp [ksAt]
          have HSD := hid (fun (u : World) (hu : GMapAt .string u bm m) => store_due (nm := nm) hu hD (i := 0) (by omega) (by rw [hksv]; exact HNK.out))
          rw [hksv] at HSD
          obtain ⟨x, hx⟩ : ∃ x, partG V 0 k = x := ⟨_, rfl⟩
          rw [hx] at hc5 HSD
          obtain ⟨c, hc⟩ : ∃ c, valsD (partL V) (partG V) (ksAt V 0 k) nm = c := ⟨_, rfl⟩
          rw [hc] at hlk HSD
          rw [dueV_0] at HSD
          unfold dueV at hlk
          clear hx hc hm hD hnm HQ hksv hb5
          have hxb : Ext wr (wr.alloc (.cells #[.int .i64 (c 0), .int .i64 (c 1), .int .i64 (c 2)] 90)) := (Ext.refl _).alloc _
          have hnb2 : (wr.alloc (.cells #[.int .i64 (c 0), .int .i64 (c 1), .int .i64 (c 2)] 90)).heap[wr.heap.size]? = some (.cells #[.int .i64 (c 0), .int .i64 (c 1), .int .i64 (c 2)] 90 (0, 0)) := Ext.new (Ext.refl _)
          have hcn : (wr.alloc (.cells #[.int .i64 (c 0), .int .i64 (c 1), .int .i64 (c 2)] 90)).cell? ⟨b, off + k * 2, none⟩ = some (.string nm) := by rw [hxb.cell (p := ⟨b, off + k * 2, none⟩) (Nat.lt_of_lt_of_le hbb hkm.1)]; exact c0
          gi_upto_region 11 with fail
          clear hlk c0 hc5
          have HXA := hid (HX.out.trans hxb)
          have HKA := hid (HKM.out.trans (KM.of_ext (bm := bm) hxb))
          have HMA := hid (HMM.out.mono hxb)
          have HBL : Hid (b < wr.heap.size) := hid (Nat.lt_of_lt_of_le hbb hkm.1)
          have HW5L : Hid (w5'.heap.size ≤ wr.heap.size ∧ w.heap.size ≤ wr.heap.size) := hid ⟨HKM.out.1, HX.out.size⟩
          clear HX HKM HMM hxb
          generalize wr.alloc (.cells #[.int .i64 (c 0), .int .i64 (c 1), .int .i64 (c 2)] 90) = W6 at *
          have HBR : Hid (wr.heap.size < W6.heap.size) := hid (lt_of_block hnb2)
          have c6 := cell_of hnb2
          have f6 := free_of hnb2
          have l6 := HBR.out
          generalize wr.heap.size = q6 at *
          gi_upto_region 12 with fail
          have hs6 := set_same hnb2 0 (.int .i64 x)
          have HX7 := hid (HXA.out.set HW5L.out.2 0 (.int .i64 x))
          have HK7 := hid (HKA.out.set HW5L.out.1 0 (.int .i64 x))
          have HM7 : Hid (GMapAt .string (W6.setCell ⟨q6, 0, none⟩ (.int .i64 x)) bm m) := hid (HMA.out.kept fun o ho => by rw [set_other (fun e => (HMA.out.notCells hnb2) e.symm)]; exact ho)
          have hcn7 : (W6.setCell ⟨q6, 0, none⟩ (.int .i64 x)).cell? ⟨b, off + k * 2, none⟩ = some (.string nm) := by
            rw [← hcn]; unfold World.cell?; rw [set_other (show b ≠ q6 by have := HBL.out; omega)]
          have HB7L : Hid (b < (W6.setCell ⟨q6, 0, none⟩ (.int .i64 x)).heap.size) := hid (Nat.lt_of_lt_of_le (Nat.lt_trans HBL.out HBR.out) (by simp))
          clear c6 f6 HXA HKA HMA hnb2 hcn l6
          generalize W6.setCell ⟨q6, 0, none⟩ (.int .i64 x) = W7 at *
          have HS6 := hid hs6
          have HCN7 := hid hcn7
          clear hs6 hcn7
          refine quiet_wide 7 (by kernel_rfl) (by kernel_rfl) ?_
          simp only [List.take_succ_cons, List.take_zero, List.drop_succ_cons, List.drop_zero]
          have q0 := fun e : Later W7 => cell_of (Ext.block e.grown HS6.out)
          have q1 : ∀ e : Later W7, e.1.cell? ⟨b, off + k * 2, none⟩ = some (.string nm) := fun e => by rw [Below.cell e.grown (p := ⟨b, _, none⟩) HB7L.out]; exact HCN7.out
          repeat (any_goals (first | go_big_quiet_step (fail) | quiet_step (fail)))
          refine wpQuiet_nil ?_
          rintro w8 ⟨⟨w8q, hx8⟩, hew8⟩
          obtain rfl : w8 = w8q := hew8
          have hx8 : Ext W7 w8 := hx8
          clear q0 q1
          obtain ⟨o, m', hup, hma, hdd⟩ := HSD.out w8 (HM7.out.mono hx8)
          have HMA := hid (And.intro hma hdd)
          clear hma hdd
          gi_wp2_with fail
          go_roundw
          case rel => exact ⟨k + 1, by omega, by go_num, hid ⟨below_put (HX7.out.trans hx8) (Nat.le_of_lt HBM.out) o, (HK7.out.trans (KM.of_ext hx8)).trans (KM.put bm w8 o), m', HMA.out.1, by rw [← ksAt_bump]; exact HMA.out.2⟩⟩
          case measure => simp [intOf]; omega
        · obtain rfl : k = (partL V 0).length := by omega
          have HF : Hid (Ext w wr ∧ wr.heap[w.heap.size]? = some (.cells #[.int .i64 V.gr, .slice s.ca V.cs.length s.cc, .int .i64 V.bo, .int .i64 V.ne, .int .i64 V.cr, .slice s.oa V.ow.length s.oc, .slice s.la V.le.length s.lc, .slice s.ha V.ha.length s.hc, .slice s.xa V.lo.length s.xc, .map (some bv)] 83 (0, 0)) ∧ wr.heap[g]? = some (.cells #[.int .i64 (partP V 0), .int .i64 (partP V 1), .int .i64 (partP V 2)] 90 (0, 0)) ∧ DuesIn V wr bm 1 0) := hid ⟨HQ.out.1, (by have := HQ.out.2.1; rw [HW5.out] at this; exact this.cell HB5.out (HM5.out.1.notCells HB5.out)), (by have := HQ.out.2.1; rw [HW5.out] at this; exact this.cell HG5.out (HM5.out.1.notCells HG5.out)), (by obtain ⟨m, hm, hD⟩ := HQ.out.2.2; exact ⟨m, hm, by rw [← ksAt_next]; exact hD⟩)⟩
          clear HQ
          gi_wp2_with fail
          go_roundw
          case rel => exact ⟨1, by omega, by go_num, HF⟩
          case measure => simp [intOf]
    · have hix := HI1.out wr
      gi_wp2_with (refine wpIn_store_fresh (fun _ => trivial) 119 (.tmp 6) (.tmp 22) rfl (W := wr) (c' := #[.string ⟨#[110, 101, 116, 115]⟩, fnV 97, fnV 55]) rfl rfl rfl size119 rfl (by simp [Value.oneCell']) ?_; refine Hid.out ?_)
      have hxa : Ext wr (wr.alloc (.cells #[.string ⟨#[110, 101, 116, 115]⟩, fnV 97, fnV 55] 119)) := (Ext.refl _).alloc _
      have hn : (wr.alloc (.cells #[.string ⟨#[110, 101, 116, 115]⟩, fnV 97, fnV 55] 119)).heap[wr.heap.size]? = some (.cells #[.string ⟨#[110, 101, 116, 115]⟩, fnV 97, fnV 55] 119 (0, 0)) := Ext.new (Ext.refl _)
      have HXn := hid (HI.out.1.trans hxa)
      have HBn := hid (hxa.block HI.out.2.1)
      have HGn := hid (hxa.block HI.out.2.2.1)
      obtain ⟨m0, hm0, hd0⟩ := HI.out.2.2.2
      have HMn := hid (And.intro (hm0.mono hxa) hd0)
      clear HI hxa hix hm0 hd0
      refine hid ?_
      generalize wr.alloc (.cells #[.string ⟨#[110, 101, 116, 115]⟩, fnV 97, fnV 55] 119) = W3 at *
      generalize wr.heap.size = nb at *
      have cn := cell_of hn
      have cB := cell_of HBn.out
      gi_upto_region 7 with (gi_at_call 55; ((with_reducible refine (H55.out _ HXn.out).mono ?_); rintro e w4 ⟨rr, rfl, hx4, hr4⟩; obtain ⟨ra4, rc4, rfl⟩ := hr4.out.isSliceN; have hst := StakesAt.of_claims hr4.out (by have := HL1.out; omega)))
      have cP := cell_of (hx4.block HGn.out)
      clear cn cB hn
      gi_wp2_with (gi_at_call 49; ((with_reducible refine (HDV.out 1 (by omega) _ _ hst).mono ?_); rintro e w5 ⟨r5, rfl, hx5, hr5⟩; obtain ⟨na5, nc5, rfl⟩ := hr5.out.isSliceN))
      have cc := (hst.mono hx5).here
      clear hst cP
      have HSTK : Hid (∀ j (hj : j < (partL V 1).length), ∃ b off, ra4 = some ⟨b, off, none⟩ ∧ b < w5.heap.size ∧ w5.cell? ⟨b, off + j * 2, none⟩ = some (.string (partL V 1)[j].name)) := hid cc.2.2
      have hlen : V.le.length = (partL V 1).length := cc.1
      have HXX := hid ((HXn.out.trans hx4).trans hx5)
      have HM5 := hid (And.intro (HMn.out.1.mono (hx4.trans hx5)) HMn.out.2)
      have HB5 := hid ((hx4.trans hx5).block HBn.out)
      have HG5 := hid ((hx4.trans hx5).block HGn.out)
      have HR5 := hid hr5.out
      have HKI : Hid (Ext w w5 ∧ KM bm w5 w5 ∧ DuesIn V w5 bm 1 0) := hid ⟨HXX.out, KM.refl _ _, m0, HM5.out.1, HM5.out.2⟩
      have HNM := hid (fun (j : Nat) (hj : j < (partL V 1).length) => (by rw [getD_of hj] : ((partL V 1).getD j noStk).name = (partL V 1)[j].name))
      have HBNE : Hid (∀ b, b < w5.heap.size → (∃ off x, w5.cell? ⟨b, off, none⟩ = some x) → b ≠ bm) := hid fun b _ hc e => by
        obtain ⟨off, x, hc⟩ := hc
        obtain ⟨es, clock, hbm, _⟩ := HM5.out.1
        rw [e] at hc
        simp [World.cell?, hbm] at hc
      clear cc hr5 hx4 hx5 HXn HMn HBn HGn
      have hl10 : (partL V 1).length ≤ 10 := (HCD.out 1 (by omega)).len
      obtain ⟨w5', hw5⟩ : ∃ w5', w5' = w5 := ⟨w5, rfl⟩
      have HW5 := hid hw5
      clear hw5
      gi_loopw [8, 9, 10, 33] (fun u8 u9 u10 j wr => ∃ k : Nat, k ≤ (partL V 1).length ∧ j = .int .i64 k ∧ Hid (Ext w wr ∧ KM bm w5' wr ∧ DuesIn V wr bm 1 k)) (fun _ _ _ j _ => (partL V 1).length - (intOf j).toNat)
      case atStart => exact ⟨0, Nat.zero_le _, rfl, by rw [HW5.out]; exact HKI⟩
      case round =>
        obtain ⟨k, hk, rfl, HQ⟩ := hrel
        clear HKI
        by_cases hlt : k < (partL V 1).length
        · have hki : (k : Int) < ((partL V 1).length : Int) := by omega
          have hki2 : (k : Int) < (V.le.length : Int) := by omega
          obtain ⟨b, off, hsa, hbb, c0⟩ := HSTK.out k hlt
          subst hsa
          have hkm : KM bm w5 wr := by rw [← HW5.out]; exact HQ.out.2.1
          rw [← hkm.cell? hbb (HBNE.out _ hbb ⟨_, _, c0⟩)] at c0
          obtain ⟨g5, cap5, cur5, e5, _, hb5, hc5, _⟩ := Row.cells1 HR5.out hlt
          cases e5
          have hg5 : g5 ≠ bm := HM5.out.1.notCells hb5
          rw [show (intsF (partL V 1).length (giveTo (partP V 1) (partL V 1)))[k]? = some (.int .i64 (partG V 1 k)) by simp [intsF, hlt, partG], ← hkm.cell? (lt_of_block hb5) hg5] at hc5
          have HNK := hid (HNM.out k hlt)
          obtain ⟨nm, hnm⟩ : ∃ nm, (partL V 1)[k].name = nm := ⟨_, rfl⟩
          rw [hnm] at c0 HNK
          obtain ⟨m, hm, hD⟩ := HQ.out.2.2
          have hlk := look_due hm hD nm
          have HX := hid HQ.out.1
          have HKM := hid HQ.out.2.1
          have HMM := hid hm
          have HDD := hid hD
          have hksv : ksAt V 1 k 1 = k := by simp [ksAt]
          have HSD := hid (fun (u : World) (hu : GMapAt .string u bm m) => store_due (nm := nm) hu hD (i := 1) (by omega) (by rw [hksv]; exact HNK.out))
          rw [hksv] at HSD
          obtain ⟨x, hx⟩ : ∃ x, partG V 1 k = x := ⟨_, rfl⟩
          rw [hx] at hc5 HSD
          obtain ⟨c, hc⟩ : ∃ c, valsD (partL V) (partG V) (ksAt V 1 k) nm = c := ⟨_, rfl⟩
          rw [hc] at hlk HSD
          rw [dueV_1] at HSD
          unfold dueV at hlk
          clear hx hc hm hD hnm HQ hksv hb5
          have hxb : Ext wr (wr.alloc (.cells #[.int .i64 (c 0), .int .i64 (c 1), .int .i64 (c 2)] 90)) := (Ext.refl _).alloc _
          have hnb2 : (wr.alloc (.cells #[.int .i64 (c 0), .int .i64 (c 1), .int .i64 (c 2)] 90)).heap[wr.heap.size]? = some (.cells #[.int .i64 (c 0), .int .i64 (c 1), .int .i64 (c 2)] 90 (0, 0)) := Ext.new (Ext.refl _)
          have hcn : (wr.alloc (.cells #[.int .i64 (c 0), .int .i64 (c 1), .int .i64 (c 2)] 90)).cell? ⟨b, off + k * 2, none⟩ = some (.string nm) := by rw [hxb.cell (p := ⟨b, off + k * 2, none⟩) (Nat.lt_of_lt_of_le hbb hkm.1)]; exact c0
          gi_upto_region 11 with fail
          clear hlk c0 hc5
          have HXA := hid (HX.out.trans hxb)
          have HKA := hid (HKM.out.trans (KM.of_ext (bm := bm) hxb))
          have HMA := hid (HMM.out.mono hxb)
          have HBL : Hid (b < wr.heap.size) := hid (Nat.lt_of_lt_of_le hbb hkm.1)
          have HW5L : Hid (w5'.heap.size ≤ wr.heap.size ∧ w.heap.size ≤ wr.heap.size) := hid ⟨HKM.out.1, HX.out.size⟩
          clear HX HKM HMM hxb
          generalize wr.alloc (.cells #[.int .i64 (c 0), .int .i64 (c 1), .int .i64 (c 2)] 90) = W6 at *
          have HBR : Hid (wr.heap.size < W6.heap.size) := hid (lt_of_block hnb2)
          have c6 := cell_of hnb2
          have f6 := free_of hnb2
          have l6 := HBR.out
          generalize wr.heap.size = q6 at *
          gi_upto_region 12 with fail
          have hs6 := set_same hnb2 1 (.int .i64 x)
          have HX7 := hid (HXA.out.set HW5L.out.2 1 (.int .i64 x))
          have HK7 := hid (HKA.out.set HW5L.out.1 1 (.int .i64 x))
          have HM7 : Hid (GMapAt .string (W6.setCell ⟨q6, 1, none⟩ (.int .i64 x)) bm m) := hid (HMA.out.kept fun o ho => by rw [set_other (fun e => (HMA.out.notCells hnb2) e.symm)]; exact ho)
          have hcn7 : (W6.setCell ⟨q6, 1, none⟩ (.int .i64 x)).cell? ⟨b, off + k * 2, none⟩ = some (.string nm) := by
            rw [← hcn]; unfold World.cell?; rw [set_other (show b ≠ q6 by have := HBL.out; omega)]
          have HB7L : Hid (b < (W6.setCell ⟨q6, 1, none⟩ (.int .i64 x)).heap.size) := hid (Nat.lt_of_lt_of_le (Nat.lt_trans HBL.out HBR.out) (by simp))
          clear c6 f6 HXA HKA HMA hnb2 hcn l6
          generalize W6.setCell ⟨q6, 1, none⟩ (.int .i64 x) = W7 at *
          have HS6 := hid hs6
          have HCN7 := hid hcn7
          clear hs6 hcn7
          refine quiet_wide 7 (by kernel_rfl) (by kernel_rfl) ?_
          simp only [List.take_succ_cons, List.take_zero, List.drop_succ_cons, List.drop_zero]
          have q0 := fun e : Later W7 => cell_of (Ext.block e.grown HS6.out)
          have q1 : ∀ e : Later W7, e.1.cell? ⟨b, off + k * 2, none⟩ = some (.string nm) := fun e => by rw [Below.cell e.grown (p := ⟨b, _, none⟩) HB7L.out]; exact HCN7.out
          repeat (any_goals (first | go_big_quiet_step (fail) | quiet_step (fail)))
          refine wpQuiet_nil ?_
          rintro w8 ⟨⟨w8q, hx8⟩, hew8⟩
          obtain rfl : w8 = w8q := hew8
          have hx8 : Ext W7 w8 := hx8
          clear q0 q1
          obtain ⟨o, m', hup, hma, hdd⟩ := HSD.out w8 (HM7.out.mono hx8)
          have HMA := hid (And.intro hma hdd)
          clear hma hdd
          gi_wp2_with fail
          go_roundw
          case rel => exact ⟨k + 1, by omega, by go_num, hid ⟨below_put (HX7.out.trans hx8) (Nat.le_of_lt HBM.out) o, (HK7.out.trans (KM.of_ext hx8)).trans (KM.put bm w8 o), m', HMA.out.1, by rw [← ksAt_bump]; exact HMA.out.2⟩⟩
          case measure => simp [intOf]; omega
        · obtain rfl : k = (partL V 1).length := by omega
          have HF : Hid (Ext w wr ∧ wr.heap[w.heap.size]? = some (.cells #[.int .i64 V.gr, .slice s.ca V.cs.length s.cc, .int .i64 V.bo, .int .i64 V.ne, .int .i64 V.cr, .slice s.oa V.ow.length s.oc, .slice s.la V.le.length s.lc, .slice s.ha V.ha.length s.hc, .slice s.xa V.lo.length s.xc, .map (some bv)] 83 (0, 0)) ∧ wr.heap[g]? = some (.cells #[.int .i64 (partP V 0), .int .i64 (partP V 1), .int .i64 (partP V 2)] 90 (0, 0)) ∧ DuesIn V wr bm 2 0) := hid ⟨HQ.out.1, (by have := HQ.out.2.1; rw [HW5.out] at this; exact this.cell HB5.out (HM5.out.1.notCells HB5.out)), (by have := HQ.out.2.1; rw [HW5.out] at this; exact this.cell HG5.out (HM5.out.1.notCells HG5.out)), (by obtain ⟨m, hm, hD⟩ := HQ.out.2.2; exact ⟨m, hm, by rw [← ksAt_next]; exact hD⟩)⟩
          clear HQ
          gi_wp2_with fail
          go_roundw
          case rel => exact ⟨2, by omega, by go_num, HF⟩
          case measure => simp [intOf]
    · have hix := HI2.out wr
      gi_wp2_with (refine wpIn_store_fresh (fun _ => trivial) 119 (.tmp 6) (.tmp 22) rfl (W := wr) (c' := #[.string ⟨#[99, 114, 101, 119]⟩, fnV 98, fnV 98]) rfl rfl rfl size119 rfl (by simp [Value.oneCell']) ?_; refine Hid.out ?_)
      have hxa : Ext wr (wr.alloc (.cells #[.string ⟨#[99, 114, 101, 119]⟩, fnV 98, fnV 98] 119)) := (Ext.refl _).alloc _
      have hn : (wr.alloc (.cells #[.string ⟨#[99, 114, 101, 119]⟩, fnV 98, fnV 98] 119)).heap[wr.heap.size]? = some (.cells #[.string ⟨#[99, 114, 101, 119]⟩, fnV 98, fnV 98] 119 (0, 0)) := Ext.new (Ext.refl _)
      have HXn := hid (HI.out.1.trans hxa)
      have HBn := hid (hxa.block HI.out.2.1)
      have HGn := hid (hxa.block HI.out.2.2.1)
      obtain ⟨m0, hm0, hd0⟩ := HI.out.2.2.2
      have HMn := hid (And.intro (hm0.mono hxa) hd0)
      clear HI hxa hix hm0 hd0
      refine hid ?_
      generalize wr.alloc (.cells #[.string ⟨#[99, 114, 101, 119]⟩, fnV 98, fnV 98] 119) = W3 at *
      generalize wr.heap.size = nb at *
      have cn := cell_of hn
      have cB := cell_of HBn.out
      gi_upto_region 7 with (gi_at_call 98; ((with_reducible refine (H98.out _).mono ?_); rintro e w4 ⟨rfl, hx4⟩; have hst := HS2.out _ (HXn.out.trans hx4)))
      have cP := cell_of (hx4.block HGn.out)
      clear cn cB hn
      gi_wp2_with (gi_at_call 49; ((with_reducible refine (HDV.out 2 (by omega) _ _ hst).mono ?_); rintro e w5 ⟨r5, rfl, hx5, hr5⟩; obtain ⟨na5, nc5, rfl⟩ := hr5.out.isSliceN))
      have cc := (hst.mono hx5).here
      clear hst cP
      have HSTK : Hid (∀ j (hj : j < (partL V 2).length), ∃ b off, s.ha = some ⟨b, off, none⟩ ∧ b < w5.heap.size ∧ w5.cell? ⟨b, off + j * 2, none⟩ = some (.string (partL V 2)[j].name)) := hid cc.2.2
      have hlen : V.ha.length = (partL V 2).length := cc.1
      have HXX := hid ((HXn.out.trans hx4).trans hx5)
      have HM5 := hid (And.intro (HMn.out.1.mono (hx4.trans hx5)) HMn.out.2)
      have HB5 := hid ((hx4.trans hx5).block HBn.out)
      have HG5 := hid ((hx4.trans hx5).block HGn.out)
      have HR5 := hid hr5.out
      have HKI : Hid (Ext w w5 ∧ KM bm w5 w5 ∧ DuesIn V w5 bm 2 0) := hid ⟨HXX.out, KM.refl _ _, m0, HM5.out.1, HM5.out.2⟩
      have HNM := hid (fun (j : Nat) (hj : j < (partL V 2).length) => (by rw [getD_of hj] : ((partL V 2).getD j noStk).name = (partL V 2)[j].name))
      have HBNE : Hid (∀ b, b < w5.heap.size → (∃ off x, w5.cell? ⟨b, off, none⟩ = some x) → b ≠ bm) := hid fun b _ hc e => by
        obtain ⟨off, x, hc⟩ := hc
        obtain ⟨es, clock, hbm, _⟩ := HM5.out.1
        rw [e] at hc
        simp [World.cell?, hbm] at hc
      clear cc hr5 hx4 hx5 HXn HMn HBn HGn
      have hl10 : (partL V 2).length ≤ 10 := (HCD.out 2 (by omega)).len
      obtain ⟨w5', hw5⟩ : ∃ w5', w5' = w5 := ⟨w5, rfl⟩
      have HW5 := hid hw5
      clear hw5
      gi_loopw [8, 9, 10, 33] (fun u8 u9 u10 j wr => ∃ k : Nat, k ≤ (partL V 2).length ∧ j = .int .i64 k ∧ Hid (Ext w wr ∧ KM bm w5' wr ∧ DuesIn V wr bm 2 k)) (fun _ _ _ j _ => (partL V 2).length - (intOf j).toNat)
      case atStart => exact ⟨0, Nat.zero_le _, rfl, by rw [HW5.out]; exact HKI⟩
      case round =>
        obtain ⟨k, hk, rfl, HQ⟩ := hrel
        clear HKI
        by_cases hlt : k < (partL V 2).length
        · have hki : (k : Int) < ((partL V 2).length : Int) := by omega
          have hki2 : (k : Int) < (V.ha.length : Int) := by omega
          obtain ⟨b, off, hsa, hbb, c0⟩ := HSTK.out k hlt
          rw [hsa]
          have hkm : KM bm w5 wr := by rw [← HW5.out]; exact HQ.out.2.1
          rw [← hkm.cell? hbb (HBNE.out _ hbb ⟨_, _, c0⟩)] at c0
          obtain ⟨g5, cap5, cur5, e5, _, hb5, hc5, _⟩ := Row.cells1 HR5.out hlt
          cases e5
          have hg5 : g5 ≠ bm := HM5.out.1.notCells hb5
          rw [show (intsF (partL V 2).length (giveTo (partP V 2) (partL V 2)))[k]? = some (.int .i64 (partG V 2 k)) by simp [intsF, hlt, partG], ← hkm.cell? (lt_of_block hb5) hg5] at hc5
          have HNK := hid (HNM.out k hlt)
          obtain ⟨nm, hnm⟩ : ∃ nm, (partL V 2)[k].name = nm := ⟨_, rfl⟩
          rw [hnm] at c0 HNK
          obtain ⟨m, hm, hD⟩ := HQ.out.2.2
          have hlk := look_due hm hD nm
          have HX := hid HQ.out.1
          have HKM := hid HQ.out.2.1
          have HMM := hid hm
          have HDD := hid hD
          have hksv : ksAt V 2 k 2 = k := by simp [ksAt]
          have HSD := hid (fun (u : World) (hu : GMapAt .string u bm m) => store_due (nm := nm) hu hD (i := 2) (by omega) (by rw [hksv]; exact HNK.out))
          rw [hksv] at HSD
          obtain ⟨x, hx⟩ : ∃ x, partG V 2 k = x := ⟨_, rfl⟩
          rw [hx] at hc5 HSD
          obtain ⟨c, hc⟩ : ∃ c, valsD (partL V) (partG V) (ksAt V 2 k) nm = c := ⟨_, rfl⟩
          rw [hc] at hlk HSD
          rw [dueV_2] at HSD
          unfold dueV at hlk
          clear hx hc hm hD hnm HQ hksv hb5
          have hxb : Ext wr (wr.alloc (.cells #[.int .i64 (c 0), .int .i64 (c 1), .int .i64 (c 2)] 90)) := (Ext.refl _).alloc _
          have hnb2 : (wr.alloc (.cells #[.int .i64 (c 0), .int .i64 (c 1), .int .i64 (c 2)] 90)).heap[wr.heap.size]? = some (.cells #[.int .i64 (c 0), .int .i64 (c 1), .int .i64 (c 2)] 90 (0, 0)) := Ext.new (Ext.refl _)
          have hcn : (wr.alloc (.cells #[.int .i64 (c 0), .int .i64 (c 1), .int .i64 (c 2)] 90)).cell? ⟨b, off + k * 2, none⟩ = some (.string nm) := by rw [hxb.cell (p := ⟨b, off + k * 2, none⟩) (Nat.lt_of_lt_of_le hbb hkm.1)]; exact c0
          gi_upto_region 11 with fail
          clear hlk c0 hc5
          have HXA := hid (HX.out.trans hxb)
          have HKA := hid (HKM.out.trans (KM.of_ext (bm := bm) hxb))
          have HMA := hid (HMM.out.mono hxb)
          have HBL : Hid (b < wr.heap.size) := hid (Nat.lt_of_lt_of_le hbb hkm.1)
          have HW5L : Hid (w5'.heap.size ≤ wr.heap.size ∧ w.heap.size ≤ wr.heap.size) := hid ⟨HKM.out.1, HX.out.size⟩
          clear HX HKM HMM hxb
          generalize wr.alloc (.cells #[.int .i64 (c 0), .int .i64 (c 1), .int .i64 (c 2)] 90) = W6 at *
          have HBR : Hid (wr.heap.size < W6.heap.size) := hid (lt_of_block hnb2)
          have c6 := cell_of hnb2
          have f6 := free_of hnb2
          have l6 := HBR.out
          generalize wr.heap.size = q6 at *
          gi_upto_region 12 with fail
          have hs6 := set_same hnb2 2 (.int .i64 x)
          have HX7 := hid (HXA.out.set HW5L.out.2 2 (.int .i64 x))
          have HK7 := hid (HKA.out.set HW5L.out.1 2 (.int .i64 x))
          have HM7 : Hid (GMapAt .string (W6.setCell ⟨q6, 2, none⟩ (.int .i64 x)) bm m) := hid (HMA.out.kept fun o ho => by rw [set_other (fun e => (HMA.out.notCells hnb2) e.symm)]; exact ho)
          have hcn7 : (W6.setCell ⟨q6, 2, none⟩ (.int .i64 x)).cell? ⟨b, off + k * 2, none⟩ = some (.string nm) := by
            rw [← hcn]; unfold World.cell?; rw [set_other (show b ≠ q6 by have := HBL.out; omega)]
          have HB7L : Hid (b < (W6.setCell ⟨q6, 2, none⟩ (.int .i64 x)).heap.size) := hid (Nat.lt_of_lt_of_le (Nat.lt_trans HBL.out HBR.out) (by simp))
          clear c6 f6 HXA HKA HMA hnb2 hcn l6
          generalize W6.setCell ⟨q6, 2, none⟩ (.int .i64 x) = W7 at *
          have HS6 := hid hs6
          have HCN7 := hid hcn7
          clear hs6 hcn7
          refine quiet_wide 7 (by kernel_rfl) (by kernel_rfl) ?_
          simp only [List.take_succ_cons, List.take_zero, List.drop_succ_cons, List.drop_zero]
          have q0 := fun e : Later W7 => cell_of (Ext.block e.grown HS6.out)
          have q1 : ∀ e : Later W7, e.1.cell? ⟨b, off + k * 2, none⟩ = some (.string nm) := fun e => by rw [Below.cell e.grown (p := ⟨b, _, none⟩) HB7L.out]; exact HCN7.out
          repeat (any_goals (first | go_big_quiet_step (fail) | quiet_step (fail)))
          refine wpQuiet_nil ?_
          rintro w8 ⟨⟨w8q, hx8⟩, hew8⟩
          obtain rfl : w8 = w8q := hew8
          have hx8 : Ext W7 w8 := hx8
          clear q0 q1
          obtain ⟨o, m', hup, hma, hdd⟩ := HSD.out w8 (HM7.out.mono hx8)
          have HMA := hid (And.intro hma hdd)
          clear hma hdd
          gi_wp2_with fail
          go_roundw
          case rel => exact ⟨k + 1, by omega, by go_num, hid ⟨below_put (HX7.out.trans hx8) (Nat.le_of_lt HBM.out) o, (HK7.out.trans (KM.of_ext hx8)).trans (KM.put bm w8 o), m', HMA.out.1, by rw [← ksAt_bump]; exact HMA.out.2⟩⟩
          case measure => simp [intOf]; omega
        · obtain rfl : k = (partL V 2).length := by omega
          have HF : Hid (Ext w wr ∧ wr.heap[w.heap.size]? = some (.cells #[.int .i64 V.gr, .slice s.ca V.cs.length s.cc, .int .i64 V.bo, .int .i64 V.ne, .int .i64 V.cr, .slice s.oa V.ow.length s.oc, .slice s.la V.le.length s.lc, .slice s.ha V.ha.length s.hc, .slice s.xa V.lo.length s.xc, .map (some bv)] 83 (0, 0)) ∧ wr.heap[g]? = some (.cells #[.int .i64 (partP V 0), .int .i64 (partP V 1), .int .i64 (partP V 2)] 90 (0, 0)) ∧ DuesIn V wr bm 3 0) := hid ⟨HQ.out.1, (by have := HQ.out.2.1; rw [HW5.out] at this; exact this.cell HB5.out (HM5.out.1.notCells HB5.out)), (by have := HQ.out.2.1; rw [HW5.out] at this; exact this.cell HG5.out (HM5.out.1.notCells HG5.out)), (by obtain ⟨m, hm, hD⟩ := HQ.out.2.2; exact ⟨m, hm, by rw [← ksAt_next]; exact hD⟩)⟩
          clear HQ
          gi_wp2_with fail
          go_roundw
          case rel => exact ⟨3, by omega, by go_num, HF⟩
          case measure => simp [intOf]
    · obtain ⟨m, hm, hD0⟩ := HI.out.2.2.2
      have hD := hD0.ended
      have hlen : m.length ≤ 30 := by
        have h0 := (HCD.out 0 (by omega)).len
        have h1 := (HCD.out 1 (by omega)).len
        have h2 := (HCD.out 2 (by omega)).len
        have h3 := hD.len
        unfold lensV at h3
        omega
      have hX := HI.out.1
      have HX := hid hX
      have HSO := hid (sortedKeys_any bm m wr hm (by omega) (fun p hp sx he => by
        obtain ⟨nm, hpe, hin⟩ := hD.all p hp
        have : sx = nm := Value.string.inj (he.symm.trans (by rw [hpe]))
        rw [this]; exact name_size (part_name HOK.out hin)))
      have HMM := hid hm
      have HDD := hid hD
      have HLN := hid hlen
      have HKY := hid (fun (u : World) => mapsKeys_any (some bm) u)
      have hXa : Ext wr (wr.alloc (.cells #[.map (some bm)] 123)) := (Ext.refl _).alloc _
      have HXA := hid hXa
      clear HI hD0 hD hX hm hlen hXa HCD HPN HPA H96 H98 H55 HS0 HS2 HDV HI0 HI1 HI2 HL1 HOK
      gi_wp2_with (first | (gi_at_call 81; ((with_reducible refine (HKY.out _).mono ?_); rintro e w3 ⟨rfl, rfl⟩)) | (gi_at_call 80; ((with_reducible refine (HSO.out).mono ?_); rintro e w4 ⟨v4, ss, rfl, hpm, hrow, hx4⟩; obtain ⟨na4, nc4, rfl⟩ : ∃ a c, v4 = .slice a ss.length c := (by rcases hrow.2 with ⟨h1, h2⟩ | ⟨g4, c4, cur4, h1, _⟩; exact ⟨_, _, by rw [h1, h2]⟩; exact ⟨_, _, h1⟩))))
      obtain ⟨ns, hns⟩ : ∃ ns, (ss.mergeSort fun x y => decide (x ≤ y)).map nmOf = ns := ⟨_, rfl⟩
      have hnl : ns.length = ss.length := by rw [← hns]; simp
      have hl30 : ss.length ≤ 30 := by have := hpm.length_eq; simp at this; have := HLN.out; omega
      have HNS : Hid (DueNames V ns) := hid (by rw [← hns]; exact names_sorted HMM.out HDD.out hpm)
      have HCF : Hid (∀ j (hj : j < ns.length), ∃ g4, na4 = some ⟨g4, 0, none⟩ ∧ g4 < w4.heap.size ∧ w4.cell? ⟨g4, j, none⟩ = some (.string ns[j])) := hid fun j hj => by
        rcases hrow.2 with ⟨h1, h2⟩ | ⟨g4, c4, cur4, h1, _, h3, h4, h5, h6, h7⟩
        · omega
        · cases h1
          refine ⟨g4, rfl, lt_of_block h3, ?_⟩
          rw [cell_of h3, ← Array.getElem?_toList]
          have e1 : cur4.toList[j]? = ((ss.mergeSort fun x y => decide (x ≤ y)).map encStr)[j]? := by rw [← h7, List.getElem?_take, if_pos (by omega)]
          rw [e1, List.getElem?_map]
          have e2 : (ss.mergeSort fun x y => decide (x ≤ y))[j]?.map nmOf = some ns[j] := by rw [← List.getElem?_map, hns]; simp [hj]
          cases hq : (ss.mergeSort fun x y => decide (x ≤ y))[j]? with
          | none => rw [hq] at e2; cases e2
          | some l => rw [hq] at e2; simp at e2; rw [← e2]; rfl
      have HX4 := hid (HX.out.trans (HXA.out.trans hx4))
      have HM4 := hid (HMM.out.mono (HXA.out.trans hx4))
      rw [← hnl]
      have HNL : Hid (ns.length ≤ 30) := hid (by omega)
      have hn30 : ns.length ≤ 30 := by omega
      clear hns hrow hpm hx4 HSO HKY HLN HXA HX HMM hl30 hnl
      have HJ : Hid (Ext w4 w4 ∧ Row w4 53 4 (.slice none 0 0) 0 (dueF V (ns.take 0)) ∧ ∀ q, (Value.slice none 0 0).ownBlock = some q → w4.heap.size ≤ q) := hid ⟨Ext.refl _, Row.nil _ _ _, fun q hq => by simp [Value.ownBlock] at hq⟩
      gi_loopw [11, 13, 14, 61] (fun r u13 u14 j wr => ∃ k : Nat, k ≤ ns.length ∧ j = .int .i64 k ∧ Hid (Ext w4 wr ∧ Row wr 53 4 r k (dueF V (ns.take k)) ∧ ∀ q, r.ownBlock = some q → w4.heap.size ≤ q)) (fun _ _ _ j _ => ns.length - (intOf j).toNat)
      case atStart => exact ⟨0, Nat.zero_le _, rfl, HJ⟩
      case round =>
        obtain ⟨k, hk, rfl, HQ⟩ := hrel
        clear HJ
        by_cases hlt : k < ns.length
        · have hki : (k : Int) < (ns.length : Int) := by omega
          obtain ⟨g4, rfl, hg4, c0⟩ := HCF.out k hlt
          rw [← HQ.out.1.cell (p := ⟨g4, _, none⟩) hg4] at c0
          have HFS := hid (dueF_succ V ns hlt)
          generalize ns[k] = nm at *
          have hlk := look_due (HM4.out.mono HQ.out.1) HDD.out nm
          have HDC : Hid (dueC V nm = [.string nm, .int .i64 (valsD (partL V) (partG V) (lensV V) nm 0), .int .i64 (valsD (partL V) (partG V) (lensV V) nm 1), .int .i64 (valsD (partL V) (partG V) (lensV V) nm 2)]) := hid rfl
          obtain ⟨c, hc⟩ : ∃ c, valsD (partL V) (partG V) (lensV V) nm = c := ⟨_, rfl⟩
          rw [hc] at hlk HDC
          clear hc
          unfold dueV at hlk
          obtain ⟨na, nc, rfl⟩ := HQ.out.2.1.isSliceN
          have hxb : Ext wr (wr.alloc (.cells #[.int .i64 (c 0), .int .i64 (c 1), .int .i64 (c 2)] 90)) := (Ext.refl _).alloc _
          have hnb2 : (wr.alloc (.cells #[.int .i64 (c 0), .int .i64 (c 1), .int .i64 (c 2)] 90)).heap[wr.heap.size]? = some (.cells #[.int .i64 (c 0), .int .i64 (c 1), .int .i64 (c 2)] 90 (0, 0)) := Ext.new (Ext.refl _)
          gi_upto_region 20 with fail
          clear hlk c0
          have HXA := hid (HQ.out.1.trans hxb)
          have HROW := hid (HQ.out.2.1.mono hxb)
          have HOWN := hid HQ.out.2.2
          clear HQ hxb
          generalize wr.alloc (.cells #[.int .i64 (c 0), .int .i64 (c 1), .int .i64 (c 2)] 90) = W6 at *
          generalize wr.heap.size = q6 at *
          have c6 := cell_of hnb2
          obtain ⟨i0, hi0, hz0, hz1, hz2⟩ := info_parts info53
          have HZ := hid (And.intro hi0 (And.intro hz0 (And.intro hz1 hz2)))
          clear hi0 hz0 hz1 hz2
          have hxa : Ext W6 (W6.alloc (.cells #[.string nm, .int .i64 (c 0), .int .i64 (c 1), .int .i64 (c 2)] 53)) := (Ext.refl _).alloc _
          have HRW := hid (HROW.out.mono hxa)
          have HXB := hid (HXA.out.trans hxa)
          have HNW : Hid (∀ j u, ([.string nm, .int .i64 (c 0), .int .i64 (c 1), .int .i64 (c 2)] : List Value)[j]? = some u → (W6.alloc (.cells #[.string nm, .int .i64 (c 0), .int .i64 (c 1), .int .i64 (c 2)] 53)).cell? ((⟨W6.heap.size, 0, none⟩ : Addr).add j) = some u) := fun j u hj => by rw [Addr.add_mid, Nat.zero_add, new_cell _ _ rfl]; simpa using hj
          have hmax : k + 1 ≤ 1000000000 := by omega
          clear hxa HROW HXA hnb2
          gi_wp2_with (refine wpIn_append_row (fun _ => trivial) rfl (.tmp 68) (.tmp 77) rfl Tryz.underlying38 HZ.out.1 HZ.out.2.1 HZ.out.2.2.1 HZ.out.2.2.2 (by simp [Value.cells]) (by omega) (v := .slice na k nc) rfl HRW.out ⟨W6.heap.size, 0, none⟩ 1 rfl [.string nm, .int .i64 (c 0), .int .i64 (c 1), .int .i64 (c 2)] rfl HNW.out (fun u hu => by simp at hu; rcases hu with rfl | rfl | rfl | rfl <;> rfl) hmax (by omega) ?_; intro v' w' hrow' hgr' how')
          have hon := own_next HXB.out HOWN.out hgr' how'
          go_roundw
          case rel => exact ⟨k + 1, by omega, by go_num, hid ⟨hon.1, by rw [HFS.out, HDC.out]; exact hrow', hon.2⟩⟩
          case measure => simp [intOf]; omega
        · obtain rfl : k = ns.length := by omega
          obtain ⟨na, nc, rfl⟩ := HQ.out.2.1.isSliceN
          have HFR : Hid (Row wr 53 4 (.slice na ns.length nc) ns.length (dueF V ns)) := hid (by have := HQ.out.2.1; rwa [List.take_length] at this)
          clear HCF HM4
          gi_wp2_with fail
          go_ret
          exact ⟨_, ns, rfl, HX4.out.trans HQ.out.1, HNS.out, HNL.out, HFR⟩
end
end Go.Proofs.YtjocoadhalimjaaGreat
