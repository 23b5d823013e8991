/- One walk in the order of the text serves every order of a region that draws its order, if each operation but the last ones only adds to the world: the law of the regions of this seat. -/
import Derived.StillTail
import Derived.OrdersIn
import Derived.RangeFuncNested
import Derived.RangeFuncCalls
import Derived.WalkKit
import Derived.OwnWalkIn
import Derived.Deep.QuietTactic
import Derived.BigQuiet
set_option linter.unusedSimpArgs false
set_option linter.unusedVariables false
namespace Go.Proofs.Ytfkehbhlagpmcaa
open Go

section
variable {F : Fence} {n : Nat} {P : Program} {ops : Array Oper} {R : World → World → Prop}

/-- What an operation gives: a value of which V says something, and a world beyond. -/
def giveUpon (F : Fence) (n : Nat) (P : Program) (R : World → World → Prop) (V : Value → World → Prop) (w : World) : Result Next → Prop
  | .ok (.value u) w' => V u w' ∧ R w w'
  | .ok .skip w' => V undef w' ∧ R w w'
  | .ok (.enter f args) w' => CallsIn F (n - 1) P f args w' (fun e w'' => ∃ u, e = .returned u ∧ V u w'' ∧ R w w'')
  | _ => False

def gives (F : Fence) (n : Nat) (P : Program) (R : World → World → Prop) (o : Oper) (a : Act) (w : World) (V : Value → World → Prop) : Prop :=
  giveUpon F n P R V w ((o.semAt F.round a.eval).run P w)

abbrev Preds := List (Nat × (Value → World → Prop))

def psAt : Preds → Nat → Option (Value → World → Prop)
  | [], _ => none
  | (i, p) :: ps, k => if k = i then some p else psAt ps k

def factsL (ps : Preds) (x : Nat → Value) (w : World) : List Edge → Prop
  | [] => True
  | e :: es => (Region.binds .any e = true → match psAt ps e.on with | some p => p (x e.on) w | none => True) ∧ factsL ps x w es

/-- The walk in the order of the text: of operation k, whose doing is R k, it is asked in every world of the class C k; what stands behind all, in every world of E. -/
def lexOk (F : Fence) (n : Nat) (P : Program) (ops : Array Oper) (R : Nat → World → World → Prop) (C : Nat → World → Prop) (E : World → Prop) (ps : Preds) (tail : Act → World → Prop) : Nat → List Oper → ((Nat → Value) → Act) → Prop
  | k, [], af => ∀ x w', E w' → (∀ i p, i < k → psAt ps i = some p → p (x i) w') → tail (af x) w'
  | k, o :: rest, af => match psAt ps k with
    | none => ∃ v, (∀ x w', C k w' → factsL ps x w' o.after.toList →
          if Region.wanted o (yielded ops (af x).tmps) then gives F n P (R k) o (af x) w' (fun u _ => u = v) else undef = v) ∧
        lexOk F n P ops R C E ps tail (k + 1) rest (fun x => (af x).put o.dst v)
    | some p => (∀ x w', C k w' → factsL ps x w' o.after.toList →
          if Region.wanted o (yielded ops (af x).tmps) then gives F n P (R k) o (af x) w' p else p undef w') ∧
        lexOk F n P ops R C E ps tail (k + 1) rest (fun x => (af x).put o.dst (x k))

/-- What the kernel looks at: of the first m operations each waits only for earlier ones, and for all whose slots it looks at; no two write one slot; no select, no defer. -/
def headB (ops : Array Oper) (m : Nat) : Bool :=
  (List.range m).all fun i =>
    match ops[i]? with
    | none => false
    | some o =>
      (match o.op with | .select .. => false | .defer _ => false | _ => true) &&
      o.after.toList.all (fun e => decide (e.on < i) || !Region.binds .any e) &&
      (List.range m).all (fun j =>
        match ops[j]? with
        | none => false
        | some oj => match oj.dst with
          | none => true
          | some d => (!(o.looksAt ops).contains d || o.after.toList.any (fun e => e.on == j && Region.binds .any e)) && (decide (i = j) || o.dst != some d))

def tailB (ops : Array Oper) (m : Nat) : Bool :=
  decide (m = ops.size) || (decide (m < ops.size) && Region.sinkB .any ops m && Region.chainB .any ops m &&
    Region.seqB .any ops (ops.size - m) m (Array.replicate m true ++ Array.replicate (ops.size - m) false))

structure HeadFacts (ops : Array Oper) (m : Nat) : Prop where
  le : m ≤ ops.size
  op : ∀ i, i < m → ∃ o, ops[i]? = some o ∧ (∀ cs b, o.op ≠ .select cs b) ∧ (∀ c, o.op ≠ .defer c) ∧ (∀ e ∈ o.after, Region.binds .any e = true → e.on < i) ∧
    (∀ j oj d, j < m → ops[j]? = some oj → oj.dst = some d → d ∈ o.looksAt ops → ∃ e ∈ o.after, e.on = j ∧ Region.binds .any e = true) ∧
    (∀ j oj d, j < m → j ≠ i → ops[j]? = some oj → oj.dst = some d → o.dst ≠ some d)

theorem headB_facts {m : Nat} (h : headB ops m = true) : HeadFacts ops m := by
  have key : ∀ i, i < m → ∃ o, ops[i]? = some o ∧ (∀ cs b, o.op ≠ .select cs b) ∧ (∀ c, o.op ≠ .defer c) ∧ (∀ e ∈ o.after, Region.binds .any e = true → e.on < i) ∧
    (∀ j oj d, j < m → ops[j]? = some oj → oj.dst = some d → d ∈ o.looksAt ops → ∃ e ∈ o.after, e.on = j ∧ Region.binds .any e = true) ∧
    (∀ j oj d, j < m → j ≠ i → ops[j]? = some oj → oj.dst = some d → o.dst ≠ some d) := by
    intro i hi
    have h1 := List.all_eq_true.1 h i (List.mem_range.2 hi)
    cases ho : ops[i]? with
    | none => simp [ho] at h1
    | some o =>
      simp only [ho, Bool.and_eq_true] at h1
      obtain ⟨⟨hop, hed⟩, hj⟩ := h1
      refine ⟨o, rfl, ?_, ?_, ?_, ?_, ?_⟩
      · intro cs b e; rw [e] at hop; cases hop
      · intro c e; rw [e] at hop; cases hop
      · intro e he hb
        have := List.all_eq_true.1 hed e (by simpa using he)
        rw [hb] at this
        simpa using this
      · intro j oj d hjm hoj hd hl
        have h2 := List.all_eq_true.1 hj j (List.mem_range.2 hjm)
        simp only [hoj, hd, Bool.and_eq_true, Bool.or_eq_true, Bool.not_eq_true'] at h2
        rcases h2.1 with h3 | h3
        · have : (o.looksAt ops).contains d = true := by simpa using hl
          rw [this] at h3; cases h3
        · obtain ⟨e, he, heq⟩ := List.any_eq_true.1 h3
          exact ⟨e, by simpa using he, by simpa using heq⟩
      · intro j oj d hjm hne hoj hd
        have h2 := List.all_eq_true.1 hj j (List.mem_range.2 hjm)
        simp only [hoj, hd, Bool.and_eq_true, Bool.or_eq_true, decide_eq_true_eq] at h2
        rcases h2.2 with h3 | h3
        · exact absurd h3.symm hne
        · simpa using h3
  refine ⟨?_, key⟩
  rcases Nat.lt_or_ge ops.size m with hlt | hge
  · obtain ⟨o, ho, _⟩ := key ops.size hlt
    simp at ho
  · exact hge

/-- Where the frame a' stands: the slots of the operations in D hold their values, all others what they held in a. -/
structure Agree (ops : Array Oper) (m : Nat) (a : Act) (val : Nat → Value) (D : Nat → Prop) (a' : Act) : Prop where
  defers : a'.defers = a.defers
  size : a'.tmps.size = a.tmps.size
  other : ∀ t, (∀ j oj, j < m → D j → ops[j]? = some oj → oj.dst ≠ some t) → a'.tmps[t]? = a.tmps[t]?
  held : ∀ j oj t, j < m → D j → ops[j]? = some oj → oj.dst = some t → t < a.tmps.size → a'.tmps[t]? = some (val j)

theorem Agree.put {m : Nat} {a a' : Act} {val : Nat → Value} {D : Nat → Prop} (hf : HeadFacts ops m) (h : Agree ops m a val D a') {i : Nat} {o : Oper} (hi : i < m) (ho : ops[i]? = some o) (hD : ¬ D i) {v : Value} (hv : val i = v) :
    Agree ops m a val (fun j => D j ∨ j = i) (a'.put o.dst v) := by
  have hdist : ∀ j oj d, j < m → j ≠ i → ops[j]? = some oj → oj.dst = some d → o.dst ≠ some d := by
    obtain ⟨o', ho', _, _, _, _, hd⟩ := hf.op i hi
    rw [ho] at ho'; cases ho'; exact hd
  cases hdst : o.dst with
  | none =>
    refine ⟨h.defers, h.size, fun t ht => h.other t fun j oj hj hDj hoj => ht j oj hj (.inl hDj) hoj, fun j oj t hj hDj hoj hd ht => ?_⟩
    rcases hDj with hDj | rfl
    · exact h.held j oj t hj hDj hoj hd ht
    · rw [ho] at hoj; cases hoj; rw [hdst] at hd; cases hd
  | some d =>
    refine ⟨h.defers, by simp [Act.put, h.size], fun t ht => ?_, fun j oj t hj hDj hoj hd ht => ?_⟩
    · have hne : d ≠ t := fun e => ht i o hi (.inr rfl) ho (by rw [hdst, e])
      simp only [Act.put, Array.getElem?_setIfInBounds_ne hne]
      exact h.other t fun j oj hj hDj hoj => ht j oj hj (.inl hDj) hoj
    · by_cases hji : j = i
      · subst hji
        rw [ho] at hoj; cases hoj
        rw [hdst] at hd; cases hd
        have hlt : d < a'.tmps.size := by rw [h.size]; exact ht
        simp [Act.put, Array.getElem?_setIfInBounds_self_of_lt hlt, hv]
      · have hDj' : D j := hDj.resolve_right hji
        have hne : d ≠ t := fun e => hdist j oj t hj hji hoj hd (by rw [hdst, e])
        simp only [Act.put, Array.getElem?_setIfInBounds_ne hne]
        exact h.held j oj t hj hDj' hoj hd ht

/-- Two frames that agree on what an operation waits for give it the same. -/
theorem Agree.look {m : Nat} {a a₁ a₂ : Act} {v₁ v₂ : Nat → Value} {D₁ D₂ : Nat → Prop} (h₁ : Agree ops m a v₁ D₁ a₁) (h₂ : Agree ops m a v₂ D₂ a₂) {o : Oper}
    (hwait : ∀ j oj d, j < m → ops[j]? = some oj → oj.dst = some d → d ∈ o.looksAt ops → D₁ j ∧ D₂ j ∧ v₁ j = v₂ j) {t : Tmp} (ht : t ∈ o.looksAt ops) : a₁.tmps[t]? = a₂.tmps[t]? := by
  by_cases hex : ∃ j oj, j < m ∧ ops[j]? = some oj ∧ oj.dst = some t
  · obtain ⟨j, oj, hj, hoj, hd⟩ := hex
    obtain ⟨hD₁, hD₂, hv⟩ := hwait j oj t hj hoj hd ht
    by_cases hlt : t < a.tmps.size
    · rw [h₁.held j oj t hj hD₁ hoj hd hlt, h₂.held j oj t hj hD₂ hoj hd hlt, hv]
    · rw [Array.getElem?_eq_none (by rw [h₁.size]; exact Nat.le_of_not_lt hlt), Array.getElem?_eq_none (by rw [h₂.size]; exact Nat.le_of_not_lt hlt)]
  · have hno : ∀ j oj, j < m → ops[j]? = some oj → oj.dst ≠ some t := fun j oj hj hoj hd => hex ⟨j, oj, hj, hoj, hd⟩
    rw [h₁.other t fun j oj hj _ hoj => hno j oj hj hoj, h₂.other t fun j oj hj _ hoj => hno j oj hj hoj]

theorem eval_of_look {o : Oper} {a₁ a₂ : Act} (h : ∀ t ∈ o.looksAt ops, a₁.tmps[t]? = a₂.tmps[t]?) : ∀ x ∈ o.op.operands, a₁.eval x = a₂.eval x := by
  intro x hx
  cases x with
  | tmp t =>
    have := h t (List.mem_append_left _ (List.mem_filterMap.2 ⟨.tmp t, by simpa using hx, rfl⟩))
    simp [Act.eval, this]
  | _ => rfl

theorem wanted_of_look {o : Oper} {a₁ a₂ : Act} (h : ∀ t ∈ o.looksAt ops, a₁.tmps[t]? = a₂.tmps[t]?) :
    Region.wanted o (yielded ops a₁.tmps) = Region.wanted o (yielded ops a₂.tmps) := by
  unfold Region.wanted
  cases hg : o.guard with
  | none => rfl
  | some gw =>
    obtain ⟨g, want⟩ := gw
    have hy : yielded ops a₁.tmps g = yielded ops a₂.tmps g := by
      unfold yielded
      cases ht : (ops[g]?).bind (·.dst) with
      | none => rfl
      | some t =>
        have := h t (by simp [Oper.looksAt, hg, ht])
        simp [this]
    simp only [hy]

theorem gives_congr {o : Oper} {a₁ a₂ : Act} {w : World} {V : Value → World → Prop} (hs : ∀ cs b, o.op ≠ .select cs b) (hd : ∀ c, o.op ≠ .defer c) (h : ∀ t ∈ o.looksAt ops, a₁.tmps[t]? = a₂.tmps[t]?) :
    gives F n P R o a₁ w V → gives F n P R o a₂ w V := by
  unfold gives
  rw [Oper.semAt_eq _ _ _ hd, Oper.semAt_eq _ _ _ hd, execOp_congr o hs (eval_of_look h)]
  exact id

/-- An operation that gives goes on. -/
theorem wpIn_of_gives {o : Oper} {a : Act} {w : World} {V : Value → World → Prop} {K : Act → World → Prop} {Q : Exit → Act → World → Prop} (hF : ∀ f, F.fn f) (hn : F.depth = none)
    (h : gives F n P R o a w V) (hK : ∀ v w', V v w' → R w w' → K (a.put o.dst v) w') : o.wpIn F n P a w K Q := by
  unfold gives at h
  refine ⟨fun f _ => hF f, ?_⟩
  generalize (o.semAt F.round a.eval).run P w = r at *
  cases r with
  | halt x w' => simp only [giveUpon] at h
  | ok x w' =>
    cases x <;> simp only [giveUpon] at h <;> simp only [Oper.uponIn]
    case value u => exact hK _ _ h.1 h.2
    case skip => exact hK _ _ h.1 h.2
    case enter f args =>
      refine ⟨(fun h => (by rw [hn] at h; cases h)), h.mono fun e w'' he => ?_⟩
      obtain ⟨u, rfl, hu, hR⟩ := he
      exact hK _ _ hu hR
end

section
variable {F : Fence} {n : Nat} {P : Program} {ops : Array Oper} {R : Nat → World → World → Prop} {C : Nat → World → Prop} {E : World → Prop}

/-- The frames of the walk. -/
def actAt (ops : Array Oper) (a : Act) (val : Nat → Value) : Nat → Act
  | 0 => a
  | k + 1 => match ops[k]? with
    | some o => (actAt ops a val k).put o.dst (val k)
    | none => actAt ops a val k

theorem actAt_agree {m : Nat} (hf : HeadFacts ops m) (a : Act) (val : Nat → Value) : ∀ k, k ≤ m → Agree ops m a val (fun j => j < k) (actAt ops a val k)
  | 0, _ => ⟨rfl, rfl, fun _ _ => rfl, fun _ _ _ _ h => absurd h (by omega)⟩
  | k + 1, hk => by
    obtain ⟨o, ho, _⟩ := hf.op k (by omega)
    have h := (actAt_agree hf a val k (by omega)).put hf (by omega) ho (by simp) rfl
    have e : (fun j => j < k + 1) = fun j => j < k ∨ j = k := by funext j; apply propext; omega
    rw [e, actAt, ho]
    exact h

def valOf (ps : Preds) (es x : Nat → Value) (i : Nat) : Value := if (psAt ps i).isSome then x i else es i

/-- What the walk in the order of the text says, operation by operation. -/
def opFact (F : Fence) (n : Nat) (P : Program) (ops : Array Oper) (R : Nat → World → World → Prop) (C : Nat → World → Prop) (ps : Preds) (a : Act) (es : Nat → Value) (i : Nat) : Prop :=
  ∀ o, ops[i]? = some o → ∀ x w', C i w' → factsL ps x w' o.after.toList →
    if Region.wanted o (yielded ops (actAt ops a (valOf ps es x) i).tmps) then
      gives F n P (R i) o (actAt ops a (valOf ps es x) i) w' (fun v w => match psAt ps i with | some p => p v w | none => v = es i)
    else (match psAt ps i with | some p => p undef w' | none => undef = es i)

theorem actAt_congr {a : Act} {v₁ v₂ : Nat → Value} : ∀ k, (∀ i, i < k → v₁ i = v₂ i) → actAt ops a v₁ k = actAt ops a v₂ k
  | 0, _ => rfl
  | k + 1, h => by
    simp only [actAt, actAt_congr k (fun i hi => h i (by omega)), h k (by omega)]

theorem lexOk_facts {ps : Preds} {a : Act} {tail : Act → World → Prop} : ∀ (l : List Oper) (k m : Nat) (es : Nat → Value), k + l.length = m → (∀ j, j < l.length → l[j]? = ops[k + j]?) →
    lexOk F n P ops R C E ps tail k l (fun x => actAt ops a (valOf ps es x) k) →
    ∃ es' : Nat → Value, (∀ i, i < k → es' i = es i) ∧ (∀ i, k ≤ i → i < m → opFact F n P ops R C ps a es' i) ∧
      ∀ x w', E w' → (∀ i p, i < m → psAt ps i = some p → p (x i) w') → tail (actAt ops a (valOf ps es' x) m) w'
  | [], k, m, es, hm, _, h => by
    have : k = m := by simpa using hm
    subst this
    exact ⟨es, fun _ _ => rfl, fun i h1 h2 => absurd h1 (by omega), h⟩
  | o :: l, k, m, es, hm, hl, h => by
    have h0 : ops[k]? = some o := by simpa using (hl 0 (by simp)).symm
    simp only [List.length_cons] at hm hl
    have hl' : ∀ j, j < l.length → l[j]? = ops[(k + 1) + j]? := fun j hj => by
      have := hl (j + 1) (by omega); simpa [Nat.add_assoc, Nat.add_comm 1 j] using this
    cases hp : psAt ps k with
    | none =>
      simp only [lexOk, hp] at h
      obtain ⟨v, h1, h2⟩ := h
      let es1 : Nat → Value := fun i => if i = k then v else es i
      have hes1 : ∀ i, i < k → es1 i = es i := fun i hi => by simp only [es1]; rw [if_neg (by omega)]
      have hval : ∀ x i, i < k → valOf ps es x i = valOf ps es1 x i := fun x i hi => by simp only [valOf, hes1 i hi]
      have hfr : (fun x => (actAt ops a (valOf ps es x) k).put o.dst v) = fun x => actAt ops a (valOf ps es1 x) (k + 1) := by
        funext x
        have hk : valOf ps es1 x k = v := by simp [valOf, hp, es1]
        simp only [actAt, h0, hk, actAt_congr k (hval x)]
      rw [hfr] at h2
      obtain ⟨es', he, hop, ht⟩ := lexOk_facts l (k + 1) m es1 (by omega) hl' h2
      refine ⟨es', fun i hi => (he i (by omega)).trans (hes1 i hi), fun i hk hi => ?_, ht⟩
      rcases Nat.lt_or_ge k i with hlt | hge
      · exact hop i hlt hi
      · obtain rfl : i = k := by omega
        intro o' ho' x w' hR hf
        rw [h0] at ho'; cases ho'
        have hek : es' i = v := by rw [he i (by omega)]; simp [es1]
        have hfr2 : actAt ops a (valOf ps es' x) i = actAt ops a (valOf ps es x) i := actAt_congr i fun j hj => by
          simp only [valOf, he j (by omega), hes1 j hj]
        rw [hfr2, hp, hek]
        exact h1 x w' hR hf
    | some p =>
      simp only [lexOk, hp] at h
      obtain ⟨h1, h2⟩ := h
      have hfr : (fun x => (actAt ops a (valOf ps es x) k).put o.dst (x k)) = fun x => actAt ops a (valOf ps es x) (k + 1) := by
        funext x
        have hk : valOf ps es x k = x k := by simp [valOf, hp]
        simp only [actAt, h0, hk]
      rw [hfr] at h2
      obtain ⟨es', he, hop, ht⟩ := lexOk_facts l (k + 1) m es (by omega) hl' h2
      refine ⟨es', fun i hi => he i (by omega), fun i hk hi => ?_, ht⟩
      rcases Nat.lt_or_ge k i with hlt | hge
      · exact hop i hlt hi
      · obtain rfl : i = k := by omega
        intro o' ho' x w' hR hf
        rw [h0] at ho'; cases ho'
        have hfr2 : actAt ops a (valOf ps es' x) i = actAt ops a (valOf ps es x) i := actAt_congr i fun j hj => by
          simp only [valOf, he j (by omega)]
        rw [hfr2, hp]
        exact h1 x w' hR hf
end

section
variable {F : Fence} {n : Nat} {P : Program} {ops : Array Oper}

/-- How many of the first m are still to come. -/
def left (listed : Array Bool) : Nat → Nat
  | 0 => 0
  | m + 1 => left listed m + if listed.getD m false = true then 0 else 1

theorem left_zero {listed : Array Bool} : ∀ m, left listed m = 0 → ∀ i, i < m → listed.getD i false = true
  | 0, _, i, hi => absurd hi (by omega)
  | m + 1, h, i, hi => by
    simp only [left] at h
    by_cases hm : listed.getD m false = true
    · rw [if_pos hm] at h
      rcases Nat.lt_or_ge i m with h' | h'
      · exact left_zero m (by omega) i h'
      · obtain rfl : i = m := by omega
        exact hm
    · rw [if_neg hm] at h; omega

theorem left_set_past {listed : Array Bool} {i : Nat} : ∀ m, m ≤ i → left (listed.setIfInBounds i true) m = left listed m
  | 0, _ => rfl
  | m + 1, h => by
    have h1 : m ≤ i := by omega
    have h2 : i ≠ m := by omega
    rw [left, left, left_set_past m h1, getD_set_ne false h2]

theorem left_set {listed : Array Bool} {i : Nat} (hi : i < listed.size) (hf : listed.getD i false = false) : ∀ m, i < m → left (listed.setIfInBounds i true) m + 1 = left listed m
  | 0, h => absurd h (by omega)
  | m + 1, h => by
    simp only [left]
    rcases Nat.lt_or_ge i m with h' | h'
    · rw [getD_set_ne false (by omega)]
      have := left_set hi hf m h'
      omega
    · obtain rfl : i = m := by omega
      rw [left_set_past i (Nat.le_refl _)]
      have : (listed.setIfInBounds i true).getD i false = true := by simp [hi]
      rw [if_pos this, if_neg (by simp [hf])]

theorem exists_left {listed : Array Bool} : ∀ m, left listed m ≠ 0 → ∃ i, i < m ∧ listed.getD i false = false ∧ ∀ j, j < i → listed.getD j false = true
  | 0, h => absurd rfl h
  | m + 1, h => by
    by_cases h0 : left listed m = 0
    · refine ⟨m, by omega, ?_, left_zero m h0⟩
      cases hm : listed.getD m false with
      | false => rfl
      | true => simp [left, h0, hm] at h
    · obtain ⟨i, hi, h1, h2⟩ := exists_left m h0
      exact ⟨i, by omega, h1, h2⟩

theorem left_replicate (s : Nat) : ∀ m, left (Array.replicate s false) m = m
  | 0 => rfl
  | m + 1 => by simp only [left, left_replicate s m, getD_replicate_false]; simp

/-- The last operations, one behind the other. -/
theorem wpAnyIn_of_seq {Q : Exit → Act → World → Prop} : ∀ (l : List Oper) (k : Nat) (listed : Array Bool) (a : Act) (w : World), (∀ j, l[j]? = ops[k + j]?) →
    Region.seqB .any ops l.length k listed = true → wpOpsIn F n P ops Q (List.range' k l.length) a w → wpAnyIn F n P .any ops Q l.length listed a w
  | [], _, _, _, _, _, hB, h => ⟨by simpa [Region.seqB] using hB, h⟩
  | o :: l, k, listed, a, w, hl, hB, h => by
    have h0 : ops[k]? = some o := by simpa using (hl 0).symm
    simp only [List.length_cons, Region.seqB, Bool.and_eq_true, decide_eq_true_eq] at hB
    rw [List.length_cons, List.range'_succ, wpOpsIn_cons] at h
    refine ⟨fun h1 => (by rw [hB.1] at h1; cases h1), fun i hi => ?_⟩
    rw [hB.1] at hi
    have hik : i = k := by simpa using hi
    subst hik
    exact wpOpIn_mono (fun a' w' h' => wpAnyIn_of_seq l (i + 1) _ a' w' (fun j => by have := hl (j + 1); simpa [Nat.add_assoc, Nat.add_comm 1 j] using this) hB.2 h') h

/-- THE LAW: one walk in the order of the text serves every order. -/
theorem wpIn_region_lex {id m : Nat} {Q : Exit → Act → World → Prop} {a : Act} {w : World} {l : List Oper} (ps : Preds) (R : Nat → World → World → Prop) (C : Nat → World → Prop) (E : World → Prop) (hF : ∀ f, F.fn f) (hn : F.depth = none)
    (hm : P.follows .mixedOrders = true) (hB : headB l.toArray m = true) (hT : tailB l.toArray m = true)
    (hC0 : ∀ i, C i { w with drawn := w.drawn + 1 }) (hE0 : E { w with drawn := w.drawn + 1 }) (hC : ∀ i j u v, i ≠ j → C i u → R j u v → C i v) (hE : ∀ j u v, E u → R j u v → E v)
    (hstab : ∀ i j p, i ≠ j → psAt ps i = some p → ∀ v u u', p v u → R j u u' → p v u')
    (h : lexOk F n P l.toArray R C E ps (fun a' w' => wpOpsIn F n P l.toArray Q (List.range' m (l.length - m)) a' w') 0 (l.take m) (fun _ => a)) :
    (Code.region id l.toArray true).wpIn F n P Q a w := by
  have hf := headB_facts hB
  have hml : m ≤ l.length := by simpa using hf.le
  have htl : (l.take m).length = m := by simp; omega
  obtain ⟨es, _, hop, htail⟩ := lexOk_facts (ops := l.toArray) (a := a) (l.take m) 0 m (fun _ => undef) (by rw [htl]; omega) (fun j hj => by
    rw [htl] at hj; simp [hj]) (by simpa [actAt] using h)
  refine wpIn_region_any hm ?_
  have inv0 : HeadInv .any l.toArray m (Array.replicate l.toArray.size false) :=
    ⟨by simp, fun j oj _ hl => (by rw [getD_replicate_false] at hl; cases hl), fun t _ ht => getD_in (by simpa using ht) (getD_replicate_false _ _)⟩
  -- whatever has been carried out of the first m, the rest goes through
  have key : ∀ (u : Nat) (listed : Array Bool) (x : Nat → Value) (a' : Act) (w' : World), left listed m = u → HeadInv .any l.toArray m listed → ((∀ i, i < m → listed.getD i false = false → C i w') ∧ E w') →
      (∀ i p, i < m → listed.getD i false = true → psAt ps i = some p → p (x i) w') → Agree l.toArray m a (valOf ps es x) (fun j => listed.getD j false = true) a' →
      wpAnyIn F n P .any l.toArray Q (u + (l.length - m)) listed a' w' := by
    intro u
    induction u with
    | zero =>
      intro listed x a' w' hu inv hR hfacts hag
      have hall := left_zero m hu
      have hage := actAt_agree hf a (valOf ps es x) m (Nat.le_refl _)
      have ha' : a' = actAt l.toArray a (valOf ps es x) m := by
        have ht : a'.tmps = (actAt l.toArray a (valOf ps es x) m).tmps := by
          apply Array.ext_getElem?
          intro t
          by_cases hex : ∃ j oj, j < m ∧ l.toArray[j]? = some oj ∧ oj.dst = some t
          · obtain ⟨j, oj, hj, hoj, hd⟩ := hex
            by_cases hlt : t < a.tmps.size
            · rw [hag.held j oj t hj (hall j hj) hoj hd hlt, hage.held j oj t hj hj hoj hd hlt]
            · rw [Array.getElem?_eq_none (by rw [hag.size]; exact Nat.le_of_not_lt hlt), Array.getElem?_eq_none (by rw [hage.size]; exact Nat.le_of_not_lt hlt)]
          · have hno : ∀ j oj, j < m → l.toArray[j]? = some oj → oj.dst ≠ some t := fun j oj hj hoj hd => hex ⟨j, oj, hj, hoj, hd⟩
            rw [hag.other t fun j oj hj _ hoj => hno j oj hj hoj, hage.other t fun j oj hj _ hoj => hno j oj hj hoj]
        have hd : a'.defers = (actAt l.toArray a (valOf ps es x) m).defers := by rw [hag.defers, hage.defers]
        cases a'; cases hacc : actAt l.toArray a (valOf ps es x) m
        rw [hacc] at ht hd
        simp only at ht hd
        rw [ht, hd]
      have hlisted : listed = Array.replicate m true ++ Array.replicate (l.length - m) false := by
        apply Array.ext
        · simp [inv.size]; omega
        · intro i h1 h2
          have hsz : i < l.length := by have := inv.size; simp at this; omega
          rcases Nat.lt_or_ge i m with hlt | hge
          · have := hall i hlt
            rw [Array.getElem_append_left (by simpa using hlt)]
            simpa [h1] using this
          · have := inv.tail i hge (by simpa using hsz)
            rw [Array.getElem_append_right (by simpa using hge)]
            simpa [h1] using this
      have ht := htail x w' hR.2 (fun i p hi hp => hfacts i p hi (hall i hi) hp)
      rw [← ha'] at ht
      simp only [tailB, Bool.or_eq_true, decide_eq_true_eq, Bool.and_eq_true] at hT
      rcases hT with hT | hT
      · have hml' : m = l.length := by simpa using hT
        have h0 : l.length - m = 0 := by omega
        rw [h0] at ht ⊢
        refine ⟨?_, by simpa [wpOpsIn] using ht⟩
        cases hr : Region.ready .any l.toArray listed with
        | nil => rfl
        | cons i is =>
          have hi : i ∈ Region.ready .any l.toArray listed := by rw [hr]; simp
          obtain ⟨hun, o, ho, _⟩ := mem_ready.1 hi
          have hilt : i < m := by have := (Array.getElem?_eq_some_iff.1 ho).1; simp at this; omega
          have := hall i hilt
          rw [getD_both hun] at this; cases this
      · have hdl : (l.drop m).length = l.length - m := by simp
        have := wpAnyIn_of_seq (F := F) (n := n) (P := P) (ops := l.toArray) (Q := Q) (l.drop m) m listed a' w' (fun j => by simp [List.getElem?_drop]) (by
          rw [hdl, hlisted]; simpa using hT.2) (by rw [hdl]; exact ht)
        rw [hdl] at this
        simpa using this
    | succ u ih =>
      intro listed x a' w' hu inv hR hfacts hag
      have hne : left listed m ≠ 0 := by omega
      obtain ⟨i0, hi0, hun0, hbefore⟩ := exists_left m hne
      have hready0 : i0 ∈ Region.ready .any l.toArray listed := by
        obtain ⟨o, ho, _, _, hed, _⟩ := hf.op i0 hi0
        exact mem_ready.2 ⟨getD_in (by rw [inv.size]; have := hf.le; omega) hun0, o, ho, fun e he hb => hbefore _ (hed e he hb)⟩
      rw [show u + 1 + (l.length - m) = (u + (l.length - m)) + 1 by omega]
      refine ⟨fun h0 => (by rw [h0] at hready0; cases hready0), fun i hi => ?_⟩
      have hilt : i < m := by
        rcases Nat.lt_or_ge i m with h' | h'
        · exact h'
        · exfalso
          simp only [tailB, Bool.or_eq_true, decide_eq_true_eq, Bool.and_eq_true] at hT
          rcases hT with hT | hT
          · obtain ⟨_, o, ho, _⟩ := mem_ready.1 hi
            have := (Array.getElem?_eq_some_iff.1 ho).1
            omega
          · exact tail_waits hT.1.1.2 hT.1.2 hT.1.1.1 inv _ i0 rfl hi0 (getD_in (by rw [inv.size]; have := hf.le; omega) hun0) i h' hi
      obtain ⟨hun, o, ho, hwait⟩ := mem_ready.1 hi
      have hun' := getD_both hun
      obtain ⟨o', ho', hsel, hdef, hed, hlook, _⟩ := hf.op i hilt
      rw [ho] at ho'; cases ho'
      have hsz : i < listed.size := by rw [inv.size]; have := hf.le; omega
      have hdone : ∀ e ∈ o.after, Region.binds .any e = true → listed.getD e.on false = true := fun e he hb => hwait e he hb
      have hfl : factsL ps x w' o.after.toList := by
        have : ∀ es : List Edge, (∀ e ∈ es, e ∈ o.after) → factsL ps x w' es := by
          intro es
          induction es with
          | nil => intro _; trivial
          | cons e es ihe =>
            intro hes
            refine ⟨fun hb => ?_, ihe fun e' he' => hes e' (by simp [he'])⟩
            have he := hes e (by simp)
            cases hp : psAt ps e.on with
            | none => trivial
            | some p => exact hfacts e.on p (by have := hed e he hb; omega) (hdone e he hb) hp
        exact this _ (by simp)
      have hfi := hop i (by omega) hilt o ho x w' (hR.1 i hilt hun') hfl
      have hage := actAt_agree hf a (valOf ps es x) i (by omega)
      have hsame : ∀ t ∈ o.looksAt l.toArray, (actAt l.toArray a (valOf ps es x) i).tmps[t]? = a'.tmps[t]? := fun t ht =>
        hage.look hag (fun j oj d hj hoj hd hdl => by
          obtain ⟨e, he, heq, hb⟩ := hlook j oj d hj hoj hd hdl
          exact ⟨heq ▸ hed e he hb, heq ▸ hdone e he hb, rfl⟩) ht
      have hwant := wanted_of_look hsame
      rw [hwant] at hfi
      -- what comes behind
      have next : ∀ v w'', (match psAt ps i with | some p => p v w'' | none => v = es i) → (R i w' w'' ∨ w' = w'') →
          wpAnyIn F n P .any l.toArray Q (u + (l.length - m)) (listed.setIfInBounds i true) (a'.put o.dst v) w'' := by
        intro v w'' hv hR'
        let x' : Nat → Value := fun j => if j = i then v else x j
        have hvx : ∀ j, listed.getD j false = true → valOf ps es x' j = valOf ps es x j := fun j hj => by
          have hne : j ≠ i := fun e => by subst e; rw [hj] at hun'; cases hun'
          simp [valOf, x', hne]
        have hD : ¬ listed.getD i false = true := by rw [hun']; simp
        have hag' : Agree l.toArray m a (valOf ps es x') (fun j => listed.getD j false = true) a' :=
          ⟨hag.defers, hag.size, hag.other, fun j oj t hj hDj hoj hd ht => by rw [hvx j hDj]; exact hag.held j oj t hj hDj hoj hd ht⟩
        refine ih _ x' _ _ (by have := left_set hsz hun' m hilt; omega) (inv.set hi hilt) ⟨fun j hj hjl => ?_, ?_⟩ (fun j p hj hl hp => ?_) ?_
        · have hji : j ≠ i := fun e => by subst e; simp [hsz] at hjl
          rw [getD_set_ne false (Ne.symm hji)] at hjl
          rcases hR' with hR' | rfl
          · exact hC j i _ _ hji (hR.1 j hj hjl) hR'
          · exact hR.1 j hj hjl
        · rcases hR' with hR' | rfl
          · exact hE i _ _ hR.2 hR'
          · exact hR.2
        · by_cases hji : j = i
          · subst hji
            rw [hp] at hv
            simpa [x'] using hv
          · rw [getD_set_ne false (Ne.symm hji)] at hl
            have h0 := hfacts j p hj hl hp
            rcases hR' with hR' | rfl
            · have := hstab j i p hji hp _ _ _ h0 hR'
              simpa [x', hji] using this
            · simpa [x', hji] using h0
        · have h1 := hag'.put hf hilt ho hD (v := v) (by
            cases hp : psAt ps i with
            | some p => simp [valOf, hp, x']
            | none => rw [hp] at hv; simp [valOf, hp, hv])
          have e : (fun j => (listed.setIfInBounds i true).getD j false = true) = fun j => listed.getD j false = true ∨ j = i := by
            funext j
            apply propext
            by_cases hji : j = i
            · subst hji
              simp [hsz]
            · rw [getD_set_ne false (Ne.symm hji)]
              simp [hji]
          rw [e]
          exact h1
      unfold wpOpIn
      simp only [ho]
      split
      · rename_i hw
        rw [if_pos hw] at hfi
        exact wpIn_of_gives hF hn (gives_congr hsel hdef hsame hfi) fun v w'' hv hR' => next v w'' hv (.inl hR')
      · rename_i hw
        rw [if_neg hw] at hfi
        refine ⟨fun f _ => hF f, next undef w' ?_ (.inr rfl)⟩
        cases hp : psAt ps i with
        | some p => rw [hp] at hfi; exact hfi
        | none => rw [hp] at hfi; exact hfi
  have := key m (Array.replicate l.toArray.size false) (fun _ => undef) a { w with drawn := w.drawn + 1 } (left_replicate _ _) inv0 ⟨fun i _ _ => hC0 i, hE0⟩
    (fun i p _ hl => (by rw [getD_replicate_false] at hl; cases hl))
    ⟨rfl, rfl, fun _ _ => rfl, fun j oj t _ hl => (by rw [getD_replicate_false] at hl; cases hl)⟩
  rw [show m + (l.length - m) = l.toArray.size by simp; omega] at this
  exact this
end
end Go.Proofs.Ytfkehbhlagpmcaa
namespace Go.Proofs.Ytfkehbhlagpmcaa
open Go Go.RowKit
/-- The worlds that have grown out of w. -/
structure Later (w : World) where
  val : World
  grown : Below w.heap.size w val
def Later.here (w : World) : Later w := ⟨w, Below.refl _ _⟩
instance (w : World) : Inhabited (Later w) := ⟨Later.here w⟩

section
variable {F : Fence} {P : Program}
theorem calls_inRound {n : Nat} {f : FuncId} {args : Array Value} {w : World} {R : Ending → World → Prop} {ro : Option Nat} (h : Calls P f args w R) : CallsIn { Fence.wide with round := ro } n P f args w R :=
  callsIn_wide.2 h

theorem gives_of_quiet {ro : Option Nat} {C : World → Prop} {o : Oper} {a : Act} {w : World} {v : Value} (hd : ∀ c, o.op ≠ .defer c) (h : o.quietAt P a C w v) :
    gives { Fence.wide with round := ro } 0 P (fun u v => C u → C v) o a w (fun u _ => u = v) := by
  unfold gives
  rw [Oper.semAt_eq _ _ _ hd]
  unfold Oper.quietAt at h
  generalize (execOp a.eval o).run P w = r at *
  cases r with
  | halt x w' => simp only [Oper.quietUpon] at h
  | ok x w' =>
    cases x <;> simp only [Oper.quietUpon] at h <;> simp only [giveUpon]
    case value u => exact ⟨h.2, fun hc => by rw [h.1]; exact hc⟩
    case skip => exact ⟨h.2.symm, fun hc => by rw [h.1]; exact hc⟩
    case enter f args =>
      obtain ⟨e1, hc⟩ := h
      rw [e1]
      exact calls_inRound (hc.mono fun e w'' ⟨he, hC⟩ => ⟨v, he, rfl, fun _ => hC⟩)

theorem lexOk_of_quiet {ro : Option Nat} {ops : Array Oper} {C : World → Prop} {tail : Act → World → Prop} : ∀ (l : List Oper) (k : Nat) (a : Act), (∀ o ∈ l, ∀ c, o.op ≠ .defer c) →
    wpQuiet P ops C (fun a' => ∀ w', C w' → tail a' w') l a → lexOk { Fence.wide with round := ro } 0 P ops (fun _ u v => C u → C v) (fun _ => C) C [] tail k l (fun _ => a)
  | [], _, _, _, h => fun _ w' hR _ => h w' hR
  | o :: l, k, a, hd, h => by
    unfold lexOk
    simp only [psAt]
    unfold wpQuiet at h
    by_cases hw : Region.wanted o (yielded ops a.tmps) = true
    · rw [if_pos hw] at h
      obtain ⟨v, h1, h2⟩ := h
      refine ⟨v, fun x w' hR _ => ?_, lexOk_of_quiet l (k + 1) _ (fun o' ho' => hd o' (by simp [ho'])) h2⟩
      rw [if_pos hw]
      exact gives_of_quiet (hd o (by simp)) (h1 w' hR)
    · rw [if_neg hw] at h
      refine ⟨undef, fun x w' hR _ => ?_, lexOk_of_quiet l (k + 1) _ (fun o' ho' => hd o' (by simp [ho'])) h⟩
      rw [if_neg hw]

theorem wpOpsIn_drop {F : Fence} {Q : Exit → Act → World → Prop} {ops : List Oper} : ∀ (l : List Oper) (k : Nat), (∀ j, l[j]? = ops[k + j]?) → wpOpsIn F 0 P ops.toArray Q (List.range' k l.length) = wpListIn F 0 P ops.toArray Q l :=
  fun l k h => wpOpsIn_eq_wpListIn l k (fun j => by simpa using h j)

/-- A REGION THAT DRAWS ITS ORDER, of whose operations the first m only look, count or call what only adds to the world: one walk in the order of the text, each operation in whatever world has grown out of this one; then the last ones. -/
theorem wpIn_quiet {ro : Option Nat} {id : Nat} {Q : Exit → Act → World → Prop} {a : Act} {w : World} {l : List Oper} (m : Nat)
    (hm : P.follows .mixedOrders = true) (hB : headB l.toArray m = true) (hT : tailB l.toArray m = true)
    (h : wpQuiet P l.toArray (fun w' => ∃ e : Later w, w' = e.1) (fun a' => ∀ w', (∃ e : Later w, w' = e.1) → wpListIn { Fence.wide with round := ro } 0 P l.toArray Q (l.drop m) a' w') (l.take m) a) :
    (Code.region id l.toArray true).wpIn { Fence.wide with round := ro } 0 P Q a w := by
  have hf := headB_facts hB
  have hml : m ≤ l.length := by simpa using hf.le
  refine wpIn_region_lex [] (fun _ u v => (∃ e : Later w, u = e.1) → ∃ e : Later w, v = e.1) (fun _ u => ∃ e : Later w, u = e.1) (fun u => ∃ e : Later w, u = e.1) (fun _ => trivial) rfl hm hB hT
    (fun _ => ⟨⟨_, (Below.refl _ w).drew⟩, rfl⟩) ⟨⟨_, (Below.refl _ w).drew⟩, rfl⟩ (fun _ _ _ _ _ h k => k h) (fun _ _ _ h k => k h) (fun _ _ _ _ h => by cases h) ?_
  refine lexOk_of_quiet (tail := fun a' w' => wpOpsIn { Fence.wide with round := ro } 0 P l.toArray Q (List.range' m (l.length - m)) a' w') (l.take m) 0 a (fun o ho c => ?_) ?_
  · obtain ⟨j, hj, hoj⟩ := List.getElem_of_mem ho
    have hjm : j < m := by simp at hj; omega
    obtain ⟨o', ho', _, hd, _⟩ := hf.op j hjm
    have : l.toArray[j]? = some o := by
      rw [List.getElem_take] at hoj
      simp [← hoj]
    rw [this] at ho'; cases ho'
    exact hd c
  · have hdl : (l.drop m).length = l.length - m := by simp
    have := wpOpsIn_drop (P := P) (F := { Fence.wide with round := ro }) (Q := Q) (ops := l) (l.drop m) m (fun j => by simp [List.getElem?_drop])
    rw [hdl] at this
    rw [this]
    exact h
end
end Go.Proofs.Ytfkehbhlagpmcaa
