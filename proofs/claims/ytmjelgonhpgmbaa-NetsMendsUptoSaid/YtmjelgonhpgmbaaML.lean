/- The least number outside of spans. -/
import Derived.Test.YtmjelgonhpgmbaaMK
import Derived.Test.YtmjelgonhpgmbaaSh
set_option linter.unusedSimpArgs false
set_option linter.unusedVariables false
namespace Go.Proofs.Ytmjelgonhpgmbaa
open Go Go.RowKit Go.Shelf
section
open Go.Lib Go.Sort

def IsFirst (l : List Spn) (r : Int) : Prop := 0 ≤ r ∧ (∀ s ∈ l, ¬ (s.lo ≤ r ∧ r ≤ s.hi)) ∧ ∀ m, 0 ≤ m → m < r → ∃ s ∈ l, s.lo ≤ m ∧ m ≤ s.hi
theorem IsFirst.unique {l : List Spn} {r q : Int} (h : IsFirst l r) (k : IsFirst l q) : r = q := by
  rcases Int.lt_trichotomy r q with hlt | rfl | hlt
  · obtain ⟨s, hs, hin⟩ := k.2.2 r h.1 hlt
    exact absurd hin (h.2.1 s hs)
  · rfl
  · obtain ⟨s, hs, hin⟩ := h.2.2 q k.1 hlt
    exact absurd hin (k.2.1 s hs)
theorem IsFirst.of_mem {l m : List Spn} {r : Int} (h : IsFirst l r) (hm : ∀ s, s ∈ m ↔ s ∈ l) : IsFirst m r :=
  ⟨h.1, fun s hs => h.2.1 s ((hm s).1 hs), fun x h0 hx => by obtain ⟨s, hs, hin⟩ := h.2.2 x h0 hx; exact ⟨s, (hm s).2 hs, hin⟩⟩
def stepOut (n : Int) (s : Spn) : Int := if s.lo ≤ n ∧ n ≤ s.hi then s.hi + 1 else n
def goOut (l : List Spn) : Int := l.foldl stepOut 0
def loSorted (l : List Spn) : Prop := ∀ i j (hi : i < l.length) (hj : j < l.length), i < j → l[i].lo ≤ l[j].lo
theorem goOut_snoc (l : List Spn) (k : Nat) (h : k < l.length) : goOut (l.take (k + 1)) = stepOut (goOut (l.take k)) l[k] := by
  unfold goOut; rw [List.take_succ_eq_append_getElem h, List.foldl_append]; rfl
theorem goOut_upto {l : List Spn} (hs : loSorted l) : ∀ k, k ≤ l.length → IsFirst (l.take k) (goOut (l.take k)) := by
  intro k
  induction k with
  | zero => intro _; exact ⟨by simp [goOut], fun s hs => by simp at hs, fun m h0 hm => by simp [goOut] at hm; omega⟩
  | succ k ih =>
    intro hk
    obtain ⟨h1, h2, h3⟩ := ih (by omega)
    have hlo : ∀ s ∈ l.take k, s.lo ≤ l[k].lo := fun s hsm => by
      obtain ⟨i, hi, rfl⟩ := List.getElem_of_mem hsm
      rw [List.length_take] at hi
      rw [List.getElem_take]
      exact hs i k (by omega) (by omega) (by omega)
    rw [goOut_snoc l k (by omega)]
    generalize goOut (l.take k) = n at *
    have hm : ∀ s, s ∈ l.take (k + 1) ↔ (s ∈ l.take k ∨ s = l[k]) := fun s => by
      rw [List.take_succ_eq_append_getElem (by omega), List.mem_append, List.mem_singleton]
    generalize l[k] = t at *
    unfold stepOut
    split
    · next hin =>
      refine ⟨by omega, fun s hsm hc => ?_, fun m h0 hlt => ?_⟩
      · rcases (hm s).1 hsm with h | rfl
        · have := h2 s h
          have := hlo s h
          omega
        · omega
      · by_cases hmn : m < n
        · obtain ⟨s, hsm, hc⟩ := h3 m h0 hmn
          exact ⟨s, (hm s).2 (.inl hsm), hc⟩
        · exact ⟨t, (hm t).2 (.inr rfl), by omega, by omega⟩
    · next hout =>
      refine ⟨h1, fun s hsm hc => ?_, fun m h0 hlt => ?_⟩
      · rcases (hm s).1 hsm with h | rfl
        · exact h2 s h hc
        · exact hout hc
      · obtain ⟨s, hsm, hc⟩ := h3 m h0 hlt
        exact ⟨s, (hm s).2 (.inl hsm), hc⟩
theorem goOut_first {l : List Spn} (hs : loSorted l) : IsFirst l (goOut l) := by
  have := goOut_upto hs l.length (Nat.le_refl _)
  rwa [List.take_length] at this
theorem goOut_small {l : List Spn} (h : ∀ s ∈ l, s.hi ≤ 10000000) : ∀ k, k ≤ l.length → 0 ≤ goOut (l.take k) ∧ goOut (l.take k) ≤ 10000001 := by
  intro k
  induction k with
  | zero => intro _; simp [goOut]
  | succ k ih =>
    intro hk
    have h1 := ih (by omega)
    have h2 := h l[k] (List.getElem_mem _)
    rw [goOut_snoc l k (by omega)]
    unfold stepOut
    split <;> omega
def insSp (s : Spn) : List Spn → List Spn
  | [] => [s]
  | t :: l => if s.lo ≤ t.lo then s :: t :: l else t :: insSp s l
def sortSpn (l : List Spn) : List Spn := l.foldr insSp []
theorem insSp_mem (s x : Spn) : ∀ l, x ∈ insSp s l ↔ (x = s ∨ x ∈ l)
  | [] => by simp [insSp]
  | t :: l => by
    unfold insSp
    split
    · simp
    · simp only [List.mem_cons, insSp_mem s x l]
      constructor
      · rintro (h | h | h)
        · exact .inr (.inl h)
        · exact .inl h
        · exact .inr (.inr h)
      · rintro (h | h | h)
        · exact .inr (.inl h)
        · exact .inl h
        · exact .inr (.inr h)
theorem sortSpn_mem (x : Spn) : ∀ l, x ∈ sortSpn l ↔ x ∈ l
  | [] => by simp [sortSpn]
  | t :: l => by
    show x ∈ insSp t (sortSpn l) ↔ _
    rw [insSp_mem, sortSpn_mem x l, List.mem_cons]
theorem insSp_pair (s : Spn) : ∀ l, l.Pairwise (fun a b => a.lo ≤ b.lo) → (insSp s l).Pairwise (fun a b => a.lo ≤ b.lo)
  | [], _ => by simp [insSp]
  | t :: l, h => by
    unfold insSp
    split
    · next hle =>
      refine List.Pairwise.cons (fun x hx => ?_) h
      rcases List.mem_cons.1 hx with rfl | hx
      · exact hle
      · have := List.rel_of_pairwise_cons h hx; omega
    · next hle =>
      refine List.Pairwise.cons (fun x hx => ?_) (insSp_pair s l (List.Pairwise.of_cons h))
      rcases (insSp_mem s x l).1 hx with rfl | hx
      · omega
      · exact List.rel_of_pairwise_cons h hx
theorem sortSpn_pair : ∀ l, (sortSpn l).Pairwise (fun a b => a.lo ≤ b.lo)
  | [] => List.Pairwise.nil
  | t :: l => insSp_pair t _ (sortSpn_pair l)
theorem sortSpn_sorted (l : List Spn) : loSorted (sortSpn l) := fun i j hi hj hij => List.pairwise_iff_getElem.1 (sortSpn_pair l) i j hi hj hij
/-- The least number from 0 on that lies in none of the spans. -/
def firstOut (l : List Spn) : Int := goOut (sortSpn l)
theorem firstOut_first (l : List Spn) : IsFirst l (firstOut l) := (goOut_first (sortSpn_sorted l)).of_mem fun s => (sortSpn_mem s l).symm
theorem firstOut_of {l : List Spn} {r : Int} (h : IsFirst l r) : r = firstOut l := h.unique (firstOut_first l)

instance : Inhabited Spn := ⟨⟨0, 0⟩⟩
theorem Try.isAgg56 : ∀ w, (isAgg 56).run Try.prog w = .ok true w := fun w => by simp [isAgg, go_sem, Try.underlying56]
theorem Try.sizeOf56 : ∀ w, (Go.sizeOf 56).run Try.prog w = .ok 2 w := fun w => by
  have h : (Try.prog.info? 56).map (·.size) = some 2 := by kernel_rfl
  obtain ⟨i, hi, hs⟩ := Option.map_eq_some_iff.1 h
  simp [Go.sizeOf, go_sem]
  first | rfl | decide | kernel_rfl
set_option maxHeartbeats 1000000 in
theorem closure93 (x y : Spn) (W : World) : Calls Try.prog 93 #[.agg #[.int .i64 x.lo, .int .i64 x.hi], .agg #[.int .i64 y.lo, .int .i64 y.hi]] W fun e w' => e = .returned (.int .i64 (Lib.compareInt x.lo y.lo)) ∧ ∃ q os', w' = grow (W.drewN q) os' := by
  have hcon := fun W' => AnyG.cmp_Compare_int Try.cmpInt x.lo y.lo W'
  change ∀ W', Calls Try.prog 94 _ _ _ at hcon
  generalize Lib.compareInt x.lo y.lo = r at hcon ⊢
  go_enter Try.func93, Try.ntmps93
  go_wp2_with (go_at_call 94; refine (hcon _).mono ?_; rintro e w' ⟨rfl, rfl⟩)
  go_ret
  exact ⟨rfl, 0, _, by rw [alloc_eq_grow, alloc_eq_grow, grow_grow]; rfl⟩
def cmpSp (x y : Spn) : Int := Lib.compareInt x.lo y.lo
theorem cmpLays93 (blk off size : Nat) (w : World) : CmpLays Try.prog 93 #[] spCells 2 cmpSp blk off size w :=
  fun _ _ _ _ x y => closure93 x y _
theorem ltSp (x y : Spn) : ltOf cmpSp x y = decide (x.lo < y.lo) := by
  unfold ltOf cmpSp Lib.compareInt
  by_cases h1 : x.lo < y.lo
  · simp [h1]
  · by_cases h2 : y.lo < x.lo <;> simp [h1, h2]
theorem swoSp : SWO (ltOf cmpSp) where
  irrefl x := by rw [ltSp]; simp
  trans x y z h1 h2 := by rw [ltSp] at *; simp at *; omega
  ntrans x y z h1 h2 := by rw [ltSp] at *; simp at *; omega
theorem holds_row {w : World} {l : List Spn} {g : Nat} {cur : Array Value} (hg : w.heap[g]? = some (.cells cur 56 (0, 0))) (ht : cur.toList.take (l.length * 2) = spFlat l) : HoldsK spCells 2 w g 0 l.toArray := by
  intro j hj
  rw [size_flatK] at hj
  rw [get_flatK _ _ _ _ hj, Nat.zero_add]
  refine ⟨?_, free_of hg j⟩
  simp only [List.size_toArray] at hj
  have hjl : j / 2 < l.length := by omega
  have h1 := (flat_get (sz := 2) (fun i => spCells (l.getD i ⟨0, 0⟩)) (fun _ => rfl) l.length).2 (j / 2) (j % 2) hjl (by omega)
  rw [show (List.range l.length).flatMap (fun i => spCells (l.getD i ⟨0, 0⟩)) = spTo l l.length from rfl, spFlat_to, show j / 2 * 2 + j % 2 = j from by omega, getD_of hjl] at h1
  rw [cell_of hg, id, ← Array.getElem?_toList]
  have h2 : cur.toList[j]? = (spFlat l)[j]? := by rw [← ht, List.getElem?_take, if_pos hj]
  rw [h2, h1]
  simp only [List.getElem!_toArray, List.getElem!_eq_getElem?_getD, List.getElem?_eq_getElem hjl, Option.getD_some]
  rcases (by omega : j % 2 = 0 ∨ j % 2 = 1) with h | h <;> rw [h] <;> rfl
theorem spans_held {w : World} {g cap : Nat} {d : Array Spn} (h : HoldsK spCells 2 w g 0 d) (hg : g < w.heap.size) (hc : d.size ≤ cap) (hl : d.size ≤ 1000000) : SpansAt w (.slice (some ⟨g, 0, none⟩) d.toList.length cap) d.toList := by
  refine ⟨_, cap, rfl, ⟨by simpa using hc, by simp; omega⟩, fun i hi => ⟨g, 0, rfl, hg, ?_⟩⟩
  have hi' : i < d.size := by simpa using hi
  have key : ∀ j, j < 2 → w.cell? ⟨g, 0 + i * 2 + j, none⟩ = some (spCells d.toList[i])[j]! := fun j hj => by
    have h1 := (h (i * 2 + j) (by rw [size_flatK]; omega)).1
    rw [get_flatK _ _ _ _ (by omega), show (i * 2 + j) / 2 = i from by omega, show (i * 2 + j) % 2 = j from by omega] at h1
    rw [Nat.add_assoc, h1]
    simp [hi']
  exact ⟨key 0 (by omega), key 1 (by omega)⟩
theorem grown_sort {w : World} (g n : Nat) (d : Array Spn) (os : Array Obj) : w.grownBy (sortWorldK spCells 2 w g 0 n d os) (some g) := by
  refine ⟨rfl, rfl, rfl, ?_, fun k hk hne => ?_⟩
  · unfold sortWorldK; rw [size_grow, size_putRowK]; exact Nat.le_add_right _ _
  · unfold sortWorldK putRowK putRow mapBlock grow
    have hkb : ¬ g = k := fun e => hne (by rw [e])
    rw [Array.getElem?_append_left (by simpa using hk)]
    show (w.heap.modify g _)[k]? = _
    rw [Array.getElem?_modify, if_neg hkb]
def loOrd (d : Array Spn) : Prop := SortedIn (ltOf cmpSp) 0 d.size d
theorem loOrd_sorted {d : Array Spn} (h : loOrd d) : loSorted d.toList := fun i j hi hj hij => by
  have h1 := h i j (Nat.zero_le _) hij (by simpa using hj)
  rw [ltSp] at h1
  have hi' : i < d.size := by simpa using hi
  have hj' : j < d.size := by simpa using hj
  simp [hi', hj'] at h1
  simpa using h1
theorem loOrd_mem {l : List Spn} {d : Array Spn} (h : PermIn 0 l.toArray.size l.toArray d) (s : Spn) : s ∈ l ↔ s ∈ d.toList := by
  have h2 := h.2.2
  rw [show d.extract 0 l.toArray.size = d from by rw [← h.1]; simp, show l.toArray.extract 0 l.toArray.size = l.toArray from by simp] at h2
  exact ⟨fun hm => h2.mem_iff.2 (by simpa using hm), fun hm => by simpa using h2.mem_iff.1 hm⟩
set_option maxRecDepth 100000 in
set_option maxHeartbeats 4000000 in
theorem ins_nil (w : World) : Cal 106 #[.slice none 0 0, .int .i64 0, .int .i64 0, .func (.func 93) #[] #[]] w fun e w' => e = .returned (.tuple #[]) ∧ Ext w w' := by
  gi_enter Try.func106, Try.ntmps106
  gi_wp2_with fail
  gi_loopw [8] (fun i wr => i = .int .i64 1 ∧ Ext w wr) (fun _ _ => 0)
  case atStart => exact ⟨rfl, Ext.refl _⟩
  case round =>
    obtain ⟨rfl, hx⟩ := hrel
    gi_wp2_with fail
    go_end0
    exact ⟨rfl, hx⟩
theorem pdq_nil (k : Int) (w : World) : Cal 102 #[.slice none 0 0, .int .i64 0, .int .i64 0, .int .i64 k, .func (.func 93) #[] #[]] w fun e w' => e = .returned (.tuple #[]) ∧ Ext w w' := by
  gi_enter Try.func102, Try.ntmps102
  gi_wp2_with fail
  gi_loopw [1, 2] (fun i j wr => i = .int .i64 0 ∧ j = .int .i64 0 ∧ Ext w wr) (fun _ _ _ => 0)
  case atStart => exact ⟨rfl, rfl, Ext.refl _⟩
  case round =>
    obtain ⟨rfl, rfl, hx⟩ := hrel
    have HX := hid hx
    clear hx
    gi_wp2_with (gi_at_call 106; ((with_reducible refine (ins_nil _).mono ?_); rintro e w1 ⟨rfl, hx1⟩))
    exact bodyPost_ret (v := .tuple #[]) (by simp [results, Try.results102, go_sem]) rfl ⟨rfl, HX.out.trans hx1⟩
theorem sort_nil (w : World) : Cal 92 #[.slice none 0 0, .func (.func 93) #[] #[]] w fun e w' => e = .returned (.tuple #[]) ∧ Ext w w' := by
  have h := Any.bits_Len (SlLaysF0.n15.bits (P := Try.prog) (ρ := Try.sortSp_ren) { Try.sortSp with }) (0 : Int) w (by omega) (by omega)
  change Calls Try.prog 103 _ _ _ at h
  have HB := hid (show Cal 103 #[.int .u64 0] w fun e w' => e = .returned (.int .i64 (Lib.bitLen (0 : Int).toNat : Nat)) ∧ w' = w from callsIn_wide.2 h)
  clear h
  generalize ((Lib.bitLen (0 : Int).toNat : Nat) : Int) = kk at *
  gi_enter Try.func92, Try.ntmps92
  gi_wp2_with (first | (gi_at_call 103; ((with_reducible refine HB.out.mono ?_); rintro e w1 ⟨rfl, rfl⟩)) | (gi_at_call 102; ((with_reducible refine (pdq_nil _ _).mono ?_); rintro e w1 ⟨rfl, hx1⟩)))
  go_end0
  exact ⟨rfl, hx1⟩
set_option maxRecDepth 100000 in
set_option maxHeartbeats 4000000 in
theorem firstOutside_any (l : List Spn) (hl : ∀ s ∈ l, SmallSp s) (hlen : l.length ≤ 1000) (v : Value) (w : World) (hrow : Row w 56 2 v l.length (spFlat l)) :
    Cal 63 #[v] w fun e w' => e = .returned (.int .i64 (firstOut l)) ∧ w.grownBy w' v.ownBlock := by
  have HSORT : Hid (∀ u, Ext w u → Cal 92 #[v, .func (.func 93) #[] #[]] u fun e w' => e = .returned (.tuple #[]) ∧ u.grownBy w' v.ownBlock ∧ ∃ m : List Spn, m.length = l.length ∧ (∀ s, s ∈ l ↔ s ∈ m) ∧ loSorted m ∧ SpansAt w' v m) := fun u hu => by
    have hr := hrow.mono hu
    rcases hr.2 with ⟨rfl, h0⟩ | ⟨g, cap, cur, rfl, hg, hc, hcm, hcs, ht⟩
    · refine ((sort_nil u).mono fun e w' ⟨he, hb⟩ => ⟨he, Ext.grown hb _, [], by simp [h0], fun s => ?_, fun i j hi => by simp at hi, ?_⟩)
      · have : l = [] := List.eq_nil_of_length_eq_zero h0
        rw [this]
      · exact ⟨none, 0, rfl, ⟨by simp, by simp⟩, fun i hi => by simp at hi⟩
    · have hH := holds_row hg ht
      have hlt := lt_of_block hg
      have hcon := AnyQ.slices_SortFunc Try.sortSp 2 Try.isAgg56 Try.sizeOf56 spCells (fun _ => rfl) (fun x v hv => by simp [spCells] at hv; rcases hv with rfl | rfl <;> rfl) cmpSp swoSp 93 #[] g 0 cap l.toArray u (enters_of Try.func93 (by kernel_rfl) rfl) (cmpLays93 g 0 l.toArray.size u) hH hlt (by simp; omega)
      change Calls Try.prog 92 _ _ _ at hcon
      refine callsIn_wide.2 (hcon.mono fun e w' ⟨he, d', n, os, hp, hs, hw⟩ => ?_)
      subst hw
      have hsz : d'.size = l.length := by simpa using hp.1
      have hs' : loOrd d' := by unfold loOrd; rw [hp.1]; exact hs
      refine ⟨he, grown_sort g n d' os, d'.toList, by simpa using hsz, fun s => loOrd_mem hp s, loOrd_sorted hs', ?_⟩
      have hh := holdsK_sortWorldK_c spCells 2 u g 0 l.toArray d' n os hH hlt (by simpa using hp.1)
      have := spans_held hh (Nat.lt_of_lt_of_le hlt (size_sortWorldK_c spCells 2 u g 0 n d' os)) (by rw [hsz]; exact hc) (by omega)
      rwa [show d'.toList.length = l.length from by simpa using hsz] at this
  obtain ⟨va, vn, vc, rfl⟩ := hrow.isSlice
  clear hrow
  gi_enter Try.func63, Try.ntmps63
  gi_wp2_with (gi_at_call 92; ((with_reducible refine (HSORT.out _ (Ext.refl _)).mono ?_); rintro e w1 ⟨rfl, hg1, m, hml, hmm, hms, hsp⟩))
  have HM := hid (And.intro hmm hms)
  have hsmall : ∀ s ∈ m, SmallSp s := fun s hs => hl s ((hmm s).2 hs)
  have HSM := hid (fun k hk => goOut_small (l := m) (fun s hs => by have := (hsmall s hs).2.2; omega) k hk)
  have HS := hid hsmall
  obtain ⟨ma, mcap, hve, ⟨hcap, hmlen⟩, hc⟩ := hsp
  cases hve
  have HC := hid hc
  clear hc hsmall hmm hms hl HSORT
  generalize hL : l.length = L at *
  subst hml
  clear hL
  gi_wp2_with fail
  gi_loopw [3, 10] (fun n j wr => ∃ k : Nat, k ≤ m.length ∧ j = .int .i64 k ∧ n = .int .i64 (goOut (m.take k)) ∧ Hid (Ext w1 wr)) (fun _ j _ => m.length - (intOf j).toNat)
  case atStart => exact ⟨0, Nat.zero_le _, rfl, rfl, Ext.refl _⟩
  case round =>
    obtain ⟨k, hk, rfl, rfl, HX⟩ := hrel
    by_cases hlt : k < m.length
    · obtain ⟨b, off, rfl, hbb, c0, c1⟩ := HC.out k hlt
      rw [← HX.out.cell (p := ⟨b, _, none⟩) hbb] at c0 c1
      have HT := hid (goOut_snoc m k hlt)
      have h1 := HSM.out k hk
      have h2 := HS.out m[k] (List.getElem_mem _)
      unfold SmallSp at h2
      generalize m[k] = s at *
      generalize goOut (m.take k) = n at *
      have hkm : (k : Int) < m.length := by omega
      have HW : Hid (wrap64 (s.hi + 1) = s.hi + 1) := by show wrap64 _ = _; unfold wrap64; omega
      have HXA := hid (HX.out.trans ((Ext.refl wr).alloc (.cells #[.int .i64 s.lo, .int .i64 s.hi] 56)))
      cases hin : inB n s.lo s.hi
      case true =>
        have HIN := hid (isIn_b n s.lo s.hi true (wr.alloc (.cells #[.int .i64 s.lo, .int .i64 s.hi] 56)) hin)
        have hsp := inB_spec hin
        have HST : Hid (stepOut n s = s.hi + 1) := by show stepOut n s = _; unfold stepOut; rw [if_pos hsp]
        clear hin hsp
        gi_wp2_with (gi_at_call 62; ((with_reducible refine HIN.out.mono ?_); rintro e w2 ⟨rfl, rfl⟩))
        go_roundw
        case rel => exact ⟨k + 1, by omega, by go_num, by rw [HT.out, HST.out], HXA⟩
        case measure => simp [intOf]; omega
      case false =>
        have HIN := hid (isIn_b n s.lo s.hi false (wr.alloc (.cells #[.int .i64 s.lo, .int .i64 s.hi] 56)) hin)
        have HST : Hid (stepOut n s = n) := by show stepOut n s = _; unfold stepOut; rw [if_neg (fun h => by unfold inB at hin; simp [h.1, h.2] at hin)]
        clear hin
        gi_wp2_with (gi_at_call 62; ((with_reducible refine HIN.out.mono ?_); rintro e w2 ⟨rfl, rfl⟩))
        go_roundw
        case rel => exact ⟨k + 1, by omega, by go_num, by rw [HT.out, HST.out], HXA⟩
        case measure => simp [intOf]; omega
    · obtain rfl : k = m.length := by omega
      have HF : Hid (goOut (m.take m.length) = firstOut l) := by
        show goOut _ = _
        rw [List.take_length]
        exact firstOut_of ((goOut_first HM.out.2).of_mem HM.out.1)
      gi_wp2
      go_ret
      exact ⟨by (try rw [HF.out]); rfl, hg1.trans (HX.out.grown _)⟩

end


def shiftE (F : FleetD) (i most : Int) : Int := if fleetB F then (if inB i 0 ((F.nets.length : Int) - 1) && inB most 0 5000 then (if most < firstOut (barAll F i) then 4 else 0) else 22) else 20
def shiftV (F : FleetD) (i most : Int) : Int := if shiftE F i most = 0 then firstOut (barAll F i) else 0
theorem barAll_small {F : FleetD} (hF : FleetOk F) (i : Int) : ∀ s ∈ barAll F i, SmallSp s := by
  intro s hs
  unfold barAll at hs
  rw [List.mem_filterMap] at hs
  obtain ⟨t, ht, hp⟩ := hs
  obtain ⟨h1, h2, h3, h4⟩ := trips_mem ht
  obtain ⟨hr, a, b⟩ := t
  simp only at h1 h2 h3 h4
  unfold barPick at hp
  split at hp
  · cases hp
    have hh := hF.hours
    unfold lieG at h4
    rw [Bool.and_eq_true, getD_of (by omega), getD_of h3] at h4
    have g1 := inB_spec h4.1
    have g2 := inB_spec h4.2
    have key : ∀ (p q : NetD), NetOk p F.east.length → NetOk q F.east.length → mx p.shot q.shot ≤ (hr : Int) → SmallSp (spAdd (near_eF p q F.gap) (spNeg (apart_eF F p q hr))) := fun p q hp hq hh2 => by
      have e1 := long_e_ok hp.long
      have e2 := long_e_ok hq.long
      have e3 := hF.gap
      have hm := le_mx p.shot q.shot
      have e4 := alone_e_in hF (m := q) hp (h := hr) ⟨by omega, by omega⟩
      have e5 := alone_e_in hF (m := p) hq (h := hr) ⟨by omega, by omega⟩
      have e6 := hp.east
      have e7 := hq.east
      unfold spIn at e4 e5
      unfold SmallSp near_eF apart_eF spNeg spAdd
      simp only
      omega
    have oa := hF.nets _ (List.getElem_mem (show a < F.nets.length by omega))
    have ob := hF.nets _ (List.getElem_mem h3)
    unfold withFirst barOf
    split
    · simp only
      rw [getD_of h3, getD_of (show a < F.nets.length by omega)]
      exact key _ _ ob oa (mx_le g2.1 g1.1)
    · simp only
      rw [getD_of h3, getD_of (show a < F.nets.length by omega)]
      exact key _ _ oa ob (mx_le g1.1 g2.1)
  · cases hp
theorem barAll_len {F : FleetD} (hF : FleetOk F) (i : Int) : (barAll F i).length ≤ 1000 := by
  have h1 := barTo_len F i (trips F).length
  rw [barTo_all] at h1
  have := trips_len hF
  omega
set_option maxRecDepth 100000 in
set_option maxHeartbeats 4000000 in
theorem Shift_any (F : FleetD) (ev nv sv : Value) (i most : Int) (w : World) (he : SpansAt w ev F.east) (hn : SpansAt w nv F.north) (hs : ShotsAt w sv F.nets) : Cal 33 #[.agg #[ev, nv, .int .i64 F.gap, sv], .int .i64 i, .int .i64 most] w fun e w' => e = .returned (.tuple #[.int .i64 (shiftV F i most), .int .i64 (shiftE F i most)]) ∧ Ext w w' := by
  have HIN := hid (fun (u : World) (hu : Ext w u) => And.intro (he.mono hu) (And.intro (hn.mono hu) (hs.mono hu)))
  clear he hn hs
  gi_enter Try.func33, Try.ntmps33
  gi_upto_region 1 with fail
  have hW : Ext w (w.alloc (.cells #[ev, nv, .int .i64 F.gap, sv] 40)) := (Ext.refl _).alloc _
  have hW0 : (w.alloc (.cells #[ev, nv, .int .i64 F.gap, sv] 40)).heap[w.heap.size]? = some (.cells #[ev, nv, .int .i64 F.gap, sv] 40 (0, 0)) := by simp only [alloc_at, World.size_alloc]; (repeat rw [if_neg (by omega)]); first | rfl | rw [if_pos (by omega)] | rw [if_pos trivial]
  generalize w.alloc (.cells #[ev, nv, .int .i64 F.gap, sv] 40) = W at *
  have HW := hid hW
  have hc := cell_of hW0
  clear hW hW0
  cases hF : fleetB F
  case false =>
    have HC : Hid (shiftE F i most = 20) := by show shiftE F i most = 20; unfold shiftE; rw [hF]; rfl
    have HV : Hid (shiftV F i most = 0) := by show shiftV F i most = 0; unfold shiftV; rw [HC.out]; rfl
    gi_wp2_with (gi_at_call 51; ((with_reducible refine (newFleet_no F hF ev nv sv _ (HIN.out _ HW.out).1 (HIN.out _ HW.out).2.1 (HIN.out _ HW.out).2.2).mono ?_); rintro e w1 ⟨rfl, hx1⟩))
    have HXF := hid (HW.out.trans (hx1.alloc (.cells #[.slice none 0 0, .slice none 0 0, .int .i64 0, .slice none 0 0, .slice none 0 0] 108)))
    exact bodyPost_ret (v := .tuple #[.int .i64 (0), .int .i64 (20)]) (by simp [results, Try.results33, go_sem]) rfl ⟨by rw [HC.out, HV.out], HXF.out⟩
  case true =>
    have HOK := hid (fleetB_ok hF)
    gi_upto_region 2 with (gi_at_call 51; ((with_reducible refine (newFleet_yes F hF ev nv sv _ (HIN.out _ HW.out).1 (HIN.out _ HW.out).2.1 (HIN.out _ HW.out).2.2).mono ?_); rintro e w1 ⟨fv, rfl, hx1, hfa⟩; obtain ⟨eb, eo, ec, nb, no, nc, sa, sc, ma, mc, rfl, h1, h2, h3⟩ := hfa.out))
    have hxa := hx1.alloc (.cells #[.slice (some ⟨eb, eo, none⟩) F.east.length ec, .slice (some ⟨nb, no, none⟩) F.north.length nc, .int .i64 F.gap, .slice sa F.nets.length sc, .slice ma F.nets.length mc] 108)
    have HX := hid (HW.out.trans hxa)
    have HBF : Hid ((w1.alloc (.cells #[.slice (some ⟨eb, eo, none⟩) F.east.length ec, .slice (some ⟨nb, no, none⟩) F.north.length nc, .int .i64 F.gap, .slice sa F.nets.length sc, .slice ma F.nets.length mc] 108)).heap[w1.heap.size]? = some (.cells #[.slice (some ⟨eb, eo, none⟩) F.east.length ec, .slice (some ⟨nb, no, none⟩) F.north.length nc, .int .i64 F.gap, .slice sa F.nets.length sc, .slice ma F.nets.length mc] 108 (0, 0))) := Ext.new (Ext.refl _)
    have HM := hid (h3.mono ((Ext.refl w1).alloc (.cells #[.slice (some ⟨eb, eo, none⟩) F.east.length ec, .slice (some ⟨nb, no, none⟩) F.north.length nc, .int .i64 F.gap, .slice sa F.nets.length sc, .slice ma F.nets.length mc] 108)))
    have HE := hid (h1.mono ((Ext.refl w1).alloc (.cells #[.slice (some ⟨eb, eo, none⟩) F.east.length ec, .slice (some ⟨nb, no, none⟩) F.north.length nc, .int .i64 F.gap, .slice sa F.nets.length sc, .slice ma F.nets.length mc] 108)))
    have HN := hid (h2.mono ((Ext.refl w1).alloc (.cells #[.slice (some ⟨eb, eo, none⟩) F.east.length ec, .slice (some ⟨nb, no, none⟩) F.north.length nc, .int .i64 F.gap, .slice sa F.nets.length sc, .slice ma F.nets.length mc] 108)))
    clear hxa hx1 h1 h2 h3 hfa HW HIN hc
    generalize w1.alloc (.cells #[.slice (some ⟨eb, eo, none⟩) F.east.length ec, .slice (some ⟨nb, no, none⟩) F.north.length nc, .int .i64 F.gap, .slice sa F.nets.length sc, .slice ma F.nets.length mc] 108) = W1 at *
    generalize w1.heap.size = GF at *
    have HHA := hid (fun (u : World) => has_any F (.slice (some ⟨eb, eo, none⟩) F.east.length ec) (.slice (some ⟨nb, no, none⟩) F.north.length nc) (.slice sa F.nets.length sc) ma mc (by have := HOK.out.count; omega) i u)
    have hcf := cell_of HBF.out
    cases hh : inB i 0 ((F.nets.length : Int) - 1)
    case false =>
      have HC : Hid (shiftE F i most = 22) := by show shiftE F i most = 22; unfold shiftE; rw [hF, hh]; rfl
      have HV : Hid (shiftV F i most = 0) := by show shiftV F i most = 0; unfold shiftV; rw [HC.out]; rfl
      rw [hh] at HHA
      gi_wp2_with (gi_at_call 61; ((with_reducible refine (HHA.out _).mono ?_); rintro e w2 ⟨rfl, hx2⟩))
      have HXF := hid (HX.out.trans hx2)
      exact bodyPost_ret (v := .tuple #[.int .i64 (0), .int .i64 (22)]) (by simp [results, Try.results33, go_sem]) rfl ⟨by rw [HC.out, HV.out], HXF.out⟩
    case true =>
    rw [hh] at HHA
    cases hm : inB most 0 5000
    case false =>
      have HC : Hid (shiftE F i most = 22) := by show shiftE F i most = 22; unfold shiftE; rw [hF, hh, hm]; rfl
      have HV : Hid (shiftV F i most = 0) := by show shiftV F i most = 0; unfold shiftV; rw [HC.out]; rfl
      have HMO := hid (fun (u : World) => isIn_b most 0 5000 false u hm)
      gi_wp2_with (first | (gi_at_call 62; ((with_reducible refine (HMO.out _).mono ?_); rintro e w3 ⟨rfl, rfl⟩)) | (gi_at_call 61; ((with_reducible refine (HHA.out _).mono ?_); rintro e w2 ⟨rfl, hx2⟩)))
      have HXF := hid (HX.out.trans hx2)
      exact bodyPost_ret (v := .tuple #[.int .i64 (0), .int .i64 (22)]) (by simp [results, Try.results33, go_sem]) rfl ⟨by rw [HC.out, HV.out], HXF.out⟩
    case true =>
    have HMO := hid (fun (u : World) => isIn_b most 0 5000 true u hm)
    have HB := hid (fun (u : World) (hu : Ext W1 u) => barred_any F HOK.out eb eo ec nb no nc mc ma (.slice sa F.nets.length sc) i u (HE.out.mono hu) (HN.out.mono hu) (HM.out.mono hu))
    have HFO := hid (fun (v : Value) (u : World) (hr : Row u 56 2 v (barAll F i).length (spFlat (barAll F i))) => firstOutside_any (barAll F i) (barAll_small HOK.out i) (barAll_len HOK.out i) v u hr)
    have HSM := hid (firstOut_first (barAll F i))
    have HCV : Hid ((most < firstOut (barAll F i) → shiftE F i most = 4 ∧ shiftV F i most = 0) ∧ (¬ most < firstOut (barAll F i) → shiftE F i most = 0 ∧ shiftV F i most = firstOut (barAll F i))) := by
      show _ ∧ _
      unfold shiftV shiftE
      rw [hF, hh, hm]
      constructor
      · intro h; simp [h]
      · intro h; simp [h]
    gi_upto_region 6 with (first | (gi_at_call 62; ((with_reducible refine (HMO.out _).mono ?_); rintro e w3 ⟨rfl, rfl⟩)) | (gi_at_call 61; ((with_reducible refine (HHA.out _).mono ?_); rintro e w2 ⟨rfl, hx2⟩)))
    clear hcf
    have hcf := cell_of (hx2.block HBF.out)
    have HX2 := hid hx2
    clear hx2 HHA HMO
    generalize firstOut (barAll F i) = r at *
    gi_upto_region 7 with (first | (gi_at_call 64; ((with_reducible refine (HB.out _ HX2.out).mono ?_); rintro e w3 ⟨v, rfl, hx3, hrow, hown⟩)) | (gi_at_call 63; ((with_reducible refine (HFO.out v w3 hrow).mono ?_); rintro e w4 ⟨rfl, hg4⟩)))
    have hbel : Ext W1 w4 := Below.trans (HX2.out.trans hx3) ⟨hg4.os, hg4.tape, hg4.output, hg4.size, fun j hj => hg4.block j (Nat.lt_of_lt_of_le hj (HX2.out.trans hx3).size) (fun e => by have := hown j e.symm; have := HX2.out.size; omega)⟩
    have HXF := hid (HX.out.trans hbel)
    clear hx3 hrow hown hg4 hbel hcf HFO HB
    by_cases hlt : most < r
    · have h2 := HCV.out.1 hlt
      have HC := hid h2
      clear h2
      gi_wp2_with fail
      exact bodyPost_ret (v := .tuple #[.int .i64 (0), .int .i64 (4)]) (by simp [results, Try.results33, go_sem]) rfl ⟨by rw [HC.out.1, HC.out.2], HXF.out⟩
    · have h2 := HCV.out.2 (by omega)
      have HC := hid h2
      clear h2
      have hle : r ≤ most := by omega
      gi_wp2_with fail
      exact bodyPost_ret (v := .tuple #[.int .i64 (r), .int .i64 (0)]) (by simp [results, Try.results33, go_sem]) rfl ⟨by rw [HC.out.1, HC.out.2], HXF.out⟩

end Go.Proofs.Ytmjelgonhpgmbaa
