/- A region that draws its order, with an invariant of what was carried out. -/
import Derived.Test.YtfkehbhlagpmcaaLex
set_option linter.unusedSimpArgs false
set_option linter.unusedVariables false
namespace Go.Proofs.Ytfkehbhlagpmcaa
open Go Go.RowKit Go.Shelf

section
variable {F : Fence} {n : Nat} {P : Program} {ops : Array Oper}
def updL (L : Nat → Bool) (k : Nat) : Nat → Bool := fun j => if j = k then true else L j
def updX (x : Nat → Value) (k : Nat) (v : Value) : Nat → Value := fun j => if j = k then v else x j
def depsL (L : Nat → Bool) : List Edge → Prop
  | [] => True
  | e :: es => (Region.binds .any e = true → L e.on = true) ∧ depsL L es
abbrev InvJ := (Nat → Bool) → (Nat → Value) → World → Prop

/-- The walk in the order of the text: each operation keeps the invariant; those of nf are known by it alone, the others have a value. -/
def lexJ (F : Fence) (n : Nat) (P : Program) (ops : Array Oper) (J : InvJ) (nf : List Nat) (tail : Act → World → Prop) : Nat → List Oper → ((Nat → Value) → Act) → Prop
  | k, [], af => ∀ L x w', (∀ i, i < k → L i = true) → J L x w' → tail (af x) w'
  | k, o :: rest, af => if k ∈ nf then
      (∀ L x w', L k = false → depsL L o.after.toList → J L x w' →
          if Region.wanted o (yielded ops (af x).tmps) then gives F n P (fun _ _ => True) o (af x) w' (fun u w'' => J (updL L k) (updX x k u) w'') else J (updL L k) (updX x k undef) w') ∧
        lexJ F n P ops J nf tail (k + 1) rest (fun x => (af x).put o.dst (x k))
    else ∃ v, (∀ L x w', L k = false → depsL L o.after.toList → J L x w' →
          if Region.wanted o (yielded ops (af x).tmps) then gives F n P (fun _ _ => True) o (af x) w' (fun u w'' => u = v ∧ J (updL L k) x w'') else undef = v ∧ J (updL L k) x w') ∧
        lexJ F n P ops J nf tail (k + 1) rest (fun x => (af x).put o.dst v)
def valJ (nf : List Nat) (es x : Nat → Value) (i : Nat) : Value := if i ∈ nf then x i else es i
def opFactJ (F : Fence) (n : Nat) (P : Program) (ops : Array Oper) (J : InvJ) (nf : List Nat) (a : Act) (es : Nat → Value) (i : Nat) : Prop :=
  ∀ o, ops[i]? = some o → ∀ L x w', L i = false → depsL L o.after.toList → J L x w' →
    if Region.wanted o (yielded ops (actAt ops a (valJ nf es x) i).tmps) then
      gives F n P (fun _ _ => True) o (actAt ops a (valJ nf es x) i) w' (fun v w => if i ∈ nf then J (updL L i) (updX x i v) w else v = es i ∧ J (updL L i) x w)
    else (if i ∈ nf then J (updL L i) (updX x i undef) w' else undef = es i ∧ J (updL L i) x w')
theorem lexJ_facts {J : InvJ} {nf : List Nat} {a : Act} {tail : Act → World → Prop} : ∀ (l : List Oper) (k m : Nat) (es : Nat → Value), k + l.length = m → (∀ j, j < l.length → l[j]? = ops[k + j]?) →
    lexJ F n P ops J nf tail k l (fun x => actAt ops a (valJ nf es x) k) →
    ∃ es' : Nat → Value, (∀ i, i < k → es' i = es i) ∧ (∀ i, k ≤ i → i < m → opFactJ F n P ops J nf a es' i) ∧
      ∀ L x w', (∀ i, i < m → L i = true) → J L x w' → tail (actAt ops a (valJ nf es' x) m) w'
  | [], k, m, es, hm, _, h => by
    have : k = m := by simpa using hm
    subst this
    exact ⟨es, fun _ _ => rfl, fun i h1 h2 => absurd h1 (by omega), h⟩
  | o :: l, k, m, es, hm, hl, h => by
    have h0 : ops[k]? = some o := by simpa using (hl 0 (by simp)).symm
    simp only [List.length_cons] at hm hl
    have hl' : ∀ j, j < l.length → l[j]? = ops[(k + 1) + j]? := fun j hj => by
      have := hl (j + 1) (by omega); simpa [Nat.add_assoc, Nat.add_comm 1 j] using this
    by_cases hp : k ∈ nf
    case neg =>
      simp only [lexJ, if_neg hp] at h
      obtain ⟨v, h1, h2⟩ := h
      let es1 : Nat → Value := fun i => if i = k then v else es i
      have hes1 : ∀ i, i < k → es1 i = es i := fun i hi => by simp only [es1]; rw [if_neg (by omega)]
      have hval : ∀ x i, i < k → valJ nf es x i = valJ nf es1 x i := fun x i hi => by simp only [valJ, hes1 i hi]
      have hfr : (fun x => (actAt ops a (valJ nf es x) k).put o.dst v) = fun x => actAt ops a (valJ nf es1 x) (k + 1) := by
        funext x
        have hk : valJ nf es1 x k = v := by simp [valJ, hp, es1]
        simp only [actAt, h0, hk, actAt_congr k (hval x)]
      rw [hfr] at h2
      obtain ⟨es', he, hop, ht⟩ := lexJ_facts l (k + 1) m es1 (by omega) hl' h2
      refine ⟨es', fun i hi => (he i (by omega)).trans (hes1 i hi), fun i hk hi => ?_, ht⟩
      rcases Nat.lt_or_ge k i with hlt | hge
      · exact hop i hlt hi
      · obtain rfl : i = k := by omega
        intro o' ho' L x w' hL hd hJ
        rw [h0] at ho'; cases ho'
        have hek : es' i = v := by rw [he i (by omega)]; simp [es1]
        have hfr2 : actAt ops a (valJ nf es' x) i = actAt ops a (valJ nf es x) i := actAt_congr i fun j hj => by
          simp only [valJ, he j (by omega), hes1 j hj]
        rw [hfr2, hek]
        simp only [if_neg hp]
        exact h1 L x w' hL hd hJ
    case pos =>
      simp only [lexJ, if_pos hp] at h
      obtain ⟨h1, h2⟩ := h
      have hfr : (fun x => (actAt ops a (valJ nf es x) k).put o.dst (x k)) = fun x => actAt ops a (valJ nf es x) (k + 1) := by
        funext x
        have hk : valJ nf es x k = x k := by simp [valJ, hp]
        simp only [actAt, h0, hk]
      rw [hfr] at h2
      obtain ⟨es', he, hop, ht⟩ := lexJ_facts l (k + 1) m es (by omega) hl' h2
      refine ⟨es', fun i hi => he i (by omega), fun i hk hi => ?_, ht⟩
      rcases Nat.lt_or_ge k i with hlt | hge
      · exact hop i hlt hi
      · obtain rfl : i = k := by omega
        intro o' ho' L x w' hL hd hJ
        rw [h0] at ho'; cases ho'
        have hfr2 : actAt ops a (valJ nf es' x) i = actAt ops a (valJ nf es x) i := actAt_congr i fun j hj => by
          simp only [valJ, he j (by omega)]
        rw [hfr2]
        simp only [if_pos hp]
        exact h1 L x w' hL hd hJ

/-- THE LAW: one walk in the order of the text serves every order, with an invariant of what was carried out, the values and the world. -/
theorem wpIn_region_inv {id m : Nat} {Q : Exit → Act → World → Prop} {a : Act} {w : World} {l : List Oper} (nf : List Nat) (J : InvJ) (hF : ∀ f, F.fn f) (hn : F.depth = none)
    (hm : P.follows .mixedOrders = true) (hB : headB l.toArray m = true) (hT : tailB l.toArray m = true)
    (hJ0 : J (fun _ => false) (fun _ => undef) { w with drawn := w.drawn + 1 })
    (h : lexJ F n P l.toArray J nf (fun a' w' => wpOpsIn F n P l.toArray Q (List.range' m (l.length - m)) a' w') 0 (l.take m) (fun _ => a)) :
    (Code.region id l.toArray true).wpIn F n P Q a w := by
  have hf := headB_facts hB
  have hml : m ≤ l.length := by simpa using hf.le
  have htl : (l.take m).length = m := by simp; omega
  obtain ⟨es, _, hop, htail⟩ := lexJ_facts (ops := l.toArray) (a := a) (l.take m) 0 m (fun _ => undef) (by rw [htl]; omega) (fun j hj => by
    rw [htl] at hj; simp [hj]) (by simpa [actAt] using h)
  refine wpIn_region_any hm ?_
  have inv0 : HeadInv .any l.toArray m (Array.replicate l.toArray.size false) :=
    ⟨by simp, fun j oj _ hl => (by rw [getD_replicate_false] at hl; cases hl), fun t _ ht => getD_in (by simpa using ht) (getD_replicate_false _ _)⟩
  -- whatever has been carried out of the first m, the rest goes through
  have key : ∀ (u : Nat) (listed : Array Bool) (x : Nat → Value) (a' : Act) (w' : World), left listed m = u → HeadInv .any l.toArray m listed → J (fun j => listed.getD j false) x w' → Agree l.toArray m a (valJ nf es x) (fun j => listed.getD j false = true) a' →
      wpAnyIn F n P .any l.toArray Q (u + (l.length - m)) listed a' w' := by
    intro u
    induction u with
    | zero =>
      intro listed x a' w' hu inv hR hag
      have hall := left_zero m hu
      have hage := actAt_agree hf a (valJ nf es x) m (Nat.le_refl _)
      have ha' : a' = actAt l.toArray a (valJ nf es x) m := by
        have ht : a'.tmps = (actAt l.toArray a (valJ nf es x) m).tmps := by
          apply Array.ext_getElem?
          intro t
          by_cases hex : ∃ j oj, j < m ∧ l.toArray[j]? = some oj ∧ oj.dst = some t
          · obtain ⟨j, oj, hj, hoj, hd⟩ := hex
            by_cases hlt : t < a.tmps.size
            · rw [hag.held j oj t hj (hall j hj) hoj hd hlt, hage.held j oj t hj hj hoj hd hlt]
            · rw [Array.getElem?_eq_none (by rw [hag.size]; exact Nat.le_of_not_lt hlt), Array.getElem?_eq_none (by rw [hage.size]; exact Nat.le_of_not_lt hlt)]
          · have hno : ∀ j oj, j < m → l.toArray[j]? = some oj → oj.dst ≠ some t := fun j oj hj hoj hd => hex ⟨j, oj, hj, hoj, hd⟩
            rw [hag.other t fun j oj hj _ hoj => hno j oj hj hoj, hage.other t fun j oj hj _ hoj => hno j oj hj hoj]
        have hd : a'.defers = (actAt l.toArray a (valJ nf es x) m).defers := by rw [hag.defers, hage.defers]
        cases a'; cases hacc : actAt l.toArray a (valJ nf es x) m
        rw [hacc] at ht hd
        simp only at ht hd
        rw [ht, hd]
      have hlisted : listed = Array.replicate m true ++ Array.replicate (l.length - m) false := by
        apply Array.ext
        · simp [inv.size]; omega
        · intro i h1 h2
          have hsz : i < l.length := by have := inv.size; simp at this; omega
          rcases Nat.lt_or_ge i m with hlt | hge
          · have := hall i hlt
            rw [Array.getElem_append_left (by simpa using hlt)]
            simpa [h1] using this
          · have := inv.tail i hge (by simpa using hsz)
            rw [Array.getElem_append_right (by simpa using hge)]
            simpa [h1] using this
      have ht := htail (fun j => listed.getD j false) x w' hall hR
      rw [← ha'] at ht
      simp only [tailB, Bool.or_eq_true, decide_eq_true_eq, Bool.and_eq_true] at hT
      rcases hT with hT | hT
      · have hml' : m = l.length := by simpa using hT
        have h0 : l.length - m = 0 := by omega
        rw [h0] at ht ⊢
        refine ⟨?_, by simpa [wpOpsIn] using ht⟩
        cases hr : Region.ready .any l.toArray listed with
        | nil => rfl
        | cons i is =>
          have hi : i ∈ Region.ready .any l.toArray listed := by rw [hr]; simp
          obtain ⟨hun, o, ho, _⟩ := mem_ready.1 hi
          have hilt : i < m := by have := (Array.getElem?_eq_some_iff.1 ho).1; simp at this; omega
          have := hall i hilt
          rw [getD_both hun] at this; cases this
      · have hdl : (l.drop m).length = l.length - m := by simp
        have := wpAnyIn_of_seq (F := F) (n := n) (P := P) (ops := l.toArray) (Q := Q) (l.drop m) m listed a' w' (fun j => by simp [List.getElem?_drop]) (by
          rw [hdl, hlisted]; simpa using hT.2) (by rw [hdl]; exact ht)
        rw [hdl] at this
        simpa using this
    | succ u ih =>
      intro listed x a' w' hu inv hR hag
      have hne : left listed m ≠ 0 := by omega
      obtain ⟨i0, hi0, hun0, hbefore⟩ := exists_left m hne
      have hready0 : i0 ∈ Region.ready .any l.toArray listed := by
        obtain ⟨o, ho, _, _, hed, _⟩ := hf.op i0 hi0
        exact mem_ready.2 ⟨getD_in (by rw [inv.size]; have := hf.le; omega) hun0, o, ho, fun e he hb => hbefore _ (hed e he hb)⟩
      rw [show u + 1 + (l.length - m) = (u + (l.length - m)) + 1 by omega]
      refine ⟨fun h0 => (by rw [h0] at hready0; cases hready0), fun i hi => ?_⟩
      have hilt : i < m := by
        rcases Nat.lt_or_ge i m with h' | h'
        · exact h'
        · exfalso
          simp only [tailB, Bool.or_eq_true, decide_eq_true_eq, Bool.and_eq_true] at hT
          rcases hT with hT | hT
          · obtain ⟨_, o, ho, _⟩ := mem_ready.1 hi
            have := (Array.getElem?_eq_some_iff.1 ho).1
            omega
          · exact tail_waits hT.1.1.2 hT.1.2 hT.1.1.1 inv _ i0 rfl hi0 (getD_in (by rw [inv.size]; have := hf.le; omega) hun0) i h' hi
      obtain ⟨hun, o, ho, hwait⟩ := mem_ready.1 hi
      have hun' := getD_both hun
      obtain ⟨o', ho', hsel, hdef, hed, hlook, _⟩ := hf.op i hilt
      rw [ho] at ho'; cases ho'
      have hsz : i < listed.size := by rw [inv.size]; have := hf.le; omega
      have hdone : ∀ e ∈ o.after, Region.binds .any e = true → listed.getD e.on false = true := fun e he hb => hwait e he hb
      have hfl : depsL (fun j => listed.getD j false) o.after.toList := by
        have : ∀ es : List Edge, (∀ e ∈ es, e ∈ o.after) → depsL (fun j => listed.getD j false) es := by
          intro es
          induction es with
          | nil => intro _; trivial
          | cons e es ihe =>
            intro hes
            exact ⟨fun hb => hdone e (hes e (by simp)) hb, ihe fun e' he' => hes e' (by simp [he'])⟩
        exact this _ (by simp)
      have hfi := hop i (by omega) hilt o ho (fun j => listed.getD j false) x w' hun' hfl hR
      have hage := actAt_agree hf a (valJ nf es x) i (by omega)
      have hsame : ∀ t ∈ o.looksAt l.toArray, (actAt l.toArray a (valJ nf es x) i).tmps[t]? = a'.tmps[t]? := fun t ht =>
        hage.look hag (fun j oj d hj hoj hd hdl => by
          obtain ⟨e, he, heq, hb⟩ := hlook j oj d hj hoj hd hdl
          exact ⟨heq ▸ hed e he hb, heq ▸ hdone e he hb, rfl⟩) ht
      have hwant := wanted_of_look hsame
      rw [hwant] at hfi
      -- what comes behind
      have eL : (fun j => (listed.setIfInBounds i true).getD j false) = updL (fun j => listed.getD j false) i := by
        funext j
        unfold updL
        by_cases hji : j = i
        · subst hji; simp [hsz]
        · rw [getD_set_ne false (Ne.symm hji), if_neg hji]
      have next : ∀ v w'', (if i ∈ nf then J (updL (fun j => listed.getD j false) i) (updX x i v) w'' else v = es i ∧ J (updL (fun j => listed.getD j false) i) x w'') →
          wpAnyIn F n P .any l.toArray Q (u + (l.length - m)) (listed.setIfInBounds i true) (a'.put o.dst v) w'' := by
        intro v w'' hv
        obtain ⟨x', hx', hJ', hv'⟩ : ∃ x' : Nat → Value, (∀ j, j ≠ i → x' j = x j) ∧ J (updL (fun j => listed.getD j false) i) x' w'' ∧ valJ nf es x' i = v := by
          by_cases hin : i ∈ nf
          · rw [if_pos hin] at hv
            exact ⟨updX x i v, fun j hj => by simp [updX, hj], hv, by simp [valJ, hin, updX]⟩
          · rw [if_neg hin] at hv
            exact ⟨x, fun _ _ => rfl, hv.2, by simp [valJ, hin, hv.1]⟩
        have hvx : ∀ j, listed.getD j false = true → valJ nf es x' j = valJ nf es x j := fun j hj => by
          have hne : j ≠ i := fun e => by subst e; rw [hj] at hun'; cases hun'
          simp [valJ, hx' j hne]
        have hD : ¬ listed.getD i false = true := by rw [hun']; simp
        have hag' : Agree l.toArray m a (valJ nf es x') (fun j => listed.getD j false = true) a' :=
          ⟨hag.defers, hag.size, hag.other, fun j oj t hj hDj hoj hd ht => by rw [hvx j hDj]; exact hag.held j oj t hj hDj hoj hd ht⟩
        refine ih _ x' _ _ (by have := left_set hsz hun' m hilt; omega) (inv.set hi hilt) ?_ ?_
        · rw [eL]; exact hJ'
        · have h1 := hag'.put hf hilt ho hD (v := v) hv'
          have e : (fun j => (listed.setIfInBounds i true).getD j false = true) = fun j => listed.getD j false = true ∨ j = i := by
            funext j
            apply propext
            by_cases hji : j = i
            · subst hji
              simp [hsz]
            · rw [getD_set_ne false (Ne.symm hji)]
              simp [hji]
          rw [e]
          exact h1
      unfold wpOpIn
      simp only [ho]
      split
      · rename_i hw
        rw [if_pos hw] at hfi
        exact wpIn_of_gives hF hn (gives_congr hsel hdef hsame hfi) fun v w'' hv _ => next v w'' hv
      · rename_i hw
        rw [if_neg hw] at hfi
        exact ⟨fun f _ => hF f, next undef w' hfi⟩
  have := key m (Array.replicate l.toArray.size false) (fun _ => undef) a { w with drawn := w.drawn + 1 } (left_replicate _ _) inv0 (by
      have e : (fun j => (Array.replicate l.toArray.size false).getD j false) = fun _ => false := by funext j; exact getD_replicate_false _ _
      rw [e]; exact hJ0)
    ⟨rfl, rfl, fun _ _ => rfl, fun j oj t _ hl => (by rw [getD_replicate_false] at hl; cases hl)⟩
  rw [show m + (l.length - m) = l.toArray.size by simp; omega] at this
  exact this
end

section
variable {F : Fence} {n : Nat} {P : Program} {ops : Array Oper} {J : InvJ} {nf : List Nat} {tail : Act → World → Prop} {k : Nat} {o : Oper} {rest : List Oper} {af : (Nat → Value) → Act}
theorem jj_nil (h : ∀ L x w', (∀ i, i < k → L i = true) → J L x w' → tail (af x) w') : lexJ F n P ops J nf tail k [] af := h
theorem jj_fun {v : Value} (hp : k ∉ nf) (h1 : ∀ L x w', L k = false → depsL L o.after.toList → J L x w' →
          if Region.wanted o (yielded ops (af x).tmps) then gives F n P (fun _ _ => True) o (af x) w' (fun u w'' => u = v ∧ J (updL L k) x w'') else undef = v ∧ J (updL L k) x w')
    (h2 : lexJ F n P ops J nf tail (k + 1) rest (fun x => (af x).put o.dst v)) : lexJ F n P ops J nf tail k (o :: rest) af := by
  unfold lexJ; rw [if_neg hp]; exact ⟨v, h1, h2⟩
theorem jj_inv (hp : k ∈ nf) (h1 : ∀ L x w', L k = false → depsL L o.after.toList → J L x w' →
          if Region.wanted o (yielded ops (af x).tmps) then gives F n P (fun _ _ => True) o (af x) w' (fun u w'' => J (updL L k) (updX x k u) w'') else J (updL L k) (updX x k undef) w')
    (h2 : lexJ F n P ops J nf tail (k + 1) rest (fun x => (af x).put o.dst (x k))) : lexJ F n P ops J nf tail k (o :: rest) af := by
  unfold lexJ; rw [if_pos hp]; exact ⟨h1, h2⟩
end
theorem jj_own {id : Nat} {Q : Exit → Act → World → Prop} {a : Act} {w : World} {l : List Oper} (m : Nat) (nf : List Nat) (J : InvJ) (hB : headB l.toArray m = true) (hT : tailB l.toArray m = true)
    (hJ0 : J (fun _ => false) (fun _ => undef) { w with drawn := w.drawn + 1 })
    (h : lexJ Fence.wide 0 Try.prog l.toArray J nf (fun a' w' => wpListIn Fence.wide 0 Try.prog l.toArray Q (l.drop m) a' w') 0 (l.take m) (fun _ => a)) :
    (Code.region id l.toArray true).wpIn Fence.wide 0 Try.prog Q a w := by
  refine wpIn_region_inv nf J (fun _ => trivial) rfl mixed hB hT hJ0 ?_
  have hdl : (l.drop m).length = l.length - m := by simp
  have := wpOpsIn_drop (P := Try.prog) (F := Fence.wide) (Q := Q) (ops := l) (l.drop m) m (fun j => by simp [List.getElem?_drop])
  rw [hdl] at this
  rw [this]
  exact h
end Go.Proofs.Ytfkehbhlagpmcaa
