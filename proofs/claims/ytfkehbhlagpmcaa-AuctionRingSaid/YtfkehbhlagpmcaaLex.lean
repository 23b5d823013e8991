/- Steps of the walk of a region that draws its order; appends and makes. -/
import Derived.Test.YtfkehbhlagpmcaaRange
set_option linter.unusedSimpArgs false
set_option linter.unusedVariables false
namespace Go.Proofs.Ytfkehbhlagpmcaa
open Go Go.RowKit Go.Shelf

section
variable {F : Fence} {n : Nat} {P : Program} {ops : Array Oper} {R : Nat → World → World → Prop} {C : Nat → World → Prop} {E : World → Prop} {ps : Preds} {tail : Act → World → Prop} {k : Nat} {o : Oper} {rest : List Oper} {af : (Nat → Value) → Act}
theorem lex_nil (h : ∀ x w', E w' → (∀ i p, i < k → psAt ps i = some p → p (x i) w') → tail (af x) w') : lexOk F n P ops R C E ps tail k [] af := h
theorem lex_fun {v : Value} (hp : psAt ps k = none) (h1 : ∀ x w', C k w' → factsL ps x w' o.after.toList →
          if Region.wanted o (yielded ops (af x).tmps) then gives F n P (R k) o (af x) w' (fun u _ => u = v) else undef = v)
    (h2 : lexOk F n P ops R C E ps tail (k + 1) rest (fun x => (af x).put o.dst v)) : lexOk F n P ops R C E ps tail k (o :: rest) af := by
  unfold lexOk; rw [hp]; exact ⟨v, h1, h2⟩
theorem lex_pred {p : Value → World → Prop} (hp : psAt ps k = some p) (h1 : ∀ x w', C k w' → factsL ps x w' o.after.toList →
          if Region.wanted o (yielded ops (af x).tmps) then gives F n P (R k) o (af x) w' p else p undef w')
    (h2 : lexOk F n P ops R C E ps tail (k + 1) rest (fun x => (af x).put o.dst (x k))) : lexOk F n P ops R C E ps tail k (o :: rest) af := by
  unfold lexOk; rw [hp]; exact ⟨h1, h2⟩
end

/-- A region that draws its order, with doings and classes of each operation's own. -/
theorem lex_own {id : Nat} {Q : Exit → Act → World → Prop} {a : Act} {w : World} {l : List Oper} (m : Nat) (ps : Preds) (R : Nat → World → World → Prop) (C : Nat → World → Prop) (E : World → Prop) (hB : headB l.toArray m = true) (hT : tailB l.toArray m = true)
    (hC0 : ∀ i, C i { w with drawn := w.drawn + 1 }) (hE0 : E { w with drawn := w.drawn + 1 }) (hC : ∀ i j u v, i ≠ j → C i u → R j u v → C i v) (hE : ∀ j u v, E u → R j u v → E v)
    (hstab : ∀ i j p, i ≠ j → psAt ps i = some p → ∀ v u u', p v u → R j u u' → p v u')
    (h : lexOk Fence.wide 0 Try.prog l.toArray R C E ps (fun a' w' => wpListIn Fence.wide 0 Try.prog l.toArray Q (l.drop m) a' w') 0 (l.take m) (fun _ => a)) :
    (Code.region id l.toArray true).wpIn Fence.wide 0 Try.prog Q a w := by
  refine wpIn_region_lex ps R C E (fun _ => trivial) rfl mixed hB hT hC0 hE0 hC hE hstab ?_
  have hdl : (l.drop m).length = l.length - m := by simp
  have := wpOpsIn_drop (P := Try.prog) (F := Fence.wide) (Q := Q) (ops := l) (l.drop m) m (fun j => by simp [List.getElem?_drop])
  rw [hdl] at this
  rw [this]
  exact h

/-- A region that draws its order, some of whose values are known by what is true of them alone. -/
theorem lex_wide {id : Nat} {Q : Exit → Act → World → Prop} {a : Act} {w : World} {l : List Oper} (m : Nat) (ps : Preds) (hB : headB l.toArray m = true) (hT : tailB l.toArray m = true)
    (hstab : ∀ i p, psAt ps i = some p → ∀ v u u', p v u → Ext u u' → p v u')
    (h : lexOk Fence.wide 0 Try.prog l.toArray (fun _ => Ext) (fun _ w' => Ext w w') (Ext w) ps (fun a' w' => wpListIn Fence.wide 0 Try.prog l.toArray Q (l.drop m) a' w') 0 (l.take m) (fun _ => a)) :
    (Code.region id l.toArray true).wpIn Fence.wide 0 Try.prog Q a w :=
  lex_own m ps _ _ _ hB hT (fun _ => Ext.drawn _) (Ext.drawn _) (fun _ _ _ _ _ h k => h.trans k) (fun _ _ _ h k => h.trans k) (fun i _ p _ hp => hstab i p hp) h

/-- A row of the call's own: n elements, sz cells each. -/
def Row (w : World) (T : TypeId) (sz : Nat) (v : Value) (n : Nat) (xs : List Value) : Prop :=
  xs.length = n * sz ∧ ((v = .slice none 0 0 ∧ n = 0) ∨ ∃ g cap cur, v = .slice (some ⟨g, 0, none⟩) n cap ∧ w.heap[g]? = some (.cells cur T (0, 0)) ∧ n ≤ cap ∧ cap ≤ maxLen ∧ cur.size = cap * sz ∧ cur.toList.take (n * sz) = xs)
theorem Row.nil (w : World) (T : TypeId) (sz : Nat) : Row w T sz (.slice none 0 0) 0 [] := ⟨by simp, .inl ⟨rfl, rfl⟩⟩
theorem Row.kept {w w' : World} {T : TypeId} {sz : Nat} {v : Value} {n : Nat} {xs : List Value} (h : Row w T sz v n xs) (hk : ∀ k o, v.ownBlock = some k → w.heap[k]? = some o → w'.heap[k]? = some o) : Row w' T sz v n xs := by
  obtain ⟨hl, h⟩ := h
  rcases h with h | ⟨g, cap, cur, rfl, hg, hr⟩
  · exact ⟨hl, .inl h⟩
  · exact ⟨hl, .inr ⟨g, cap, cur, rfl, hk g _ rfl hg, hr⟩⟩
theorem Row.mono {w w' : World} {T : TypeId} {sz : Nat} {v : Value} {n : Nat} {xs : List Value} (h : Row w T sz v n xs) (hx : Ext w w') : Row w' T sz v n xs := h.kept fun _ _ _ ho => hx.block ho
theorem Row.own {w : World} {T : TypeId} {sz : Nat} {v : Value} {n : Nat} {xs : List Value} (h : Row w T sz v n xs) (base : Nat) (hb : ∀ k, v.ownBlock = some k → base ≤ k) : w.ownsRow base T sz v n xs := by
  obtain ⟨hl, h⟩ := h
  rcases h with h | ⟨g, cap, cur, rfl, hg, hr⟩
  · exact ⟨hl, .inl h⟩
  · exact ⟨hl, .inr ⟨g, cap, cur, rfl, hb g rfl, hg, hr⟩⟩

/-- One element is appended. -/
theorem append_row {w : World} {t ty T : TypeId} {sz bytes : Nat} {i : TypeInfo} {z : Value} (ht : Try.prog.underlying t = some (.slice T)) (hi : Try.prog.info? T = some i) (hz : i.zero = some z) (hs : i.size = sz) (hby : i.bytes = bytes) (hzs : z.cells.size = sz) (hsz : 0 < sz)
    {v : Value} {n : Nat} {xs : List Value} (h : Row w T sz v n xs) (a : Addr) (c : Nat) (news : List Value) (hl : news.length = sz) (hnews : ∀ j u, news[j]? = some u → w.cell? (a.add j) = some u) (h1 : ∀ u ∈ news, u.oneCell' = true)
    (h63 : n + 1 ≤ 1000000000) (hbytes : bytes ≤ 1000) :
    ∃ v' w', (Builtin.append_ #[t, t] ty #[v, .slice (some a) 1 c]).run Try.prog w = .ok v' w' ∧ Row w' T sz v' (n + 1) (xs ++ news) ∧ w.grownBy w' v.ownBlock ∧ (v'.ownBlock = v.ownBlock ∨ v'.ownBlock = some w.heap.size) ∧ v'.ownBlock ≠ none := by
  subst hs
  subst hby
  have hlen : (xs ++ news).length = (n + 1) * i.size := by rw [List.length_append, h.1, hl, Nat.add_mul, Nat.one_mul]
  have hb2 : (n + 1) * i.bytes ≤ 1000000000 * 1000 := Nat.mul_le_mul h63 hbytes
  have hl1 : news.length = 1 * i.size := by rw [hl, Nat.one_mul]
  have hmax : n + 1 ≤ maxLen := by unfold maxLen; omega
  have grown : ∀ (old : Nat), ∃ w', w' = (w.drew.alloc (.cells (xs.toArray ++ news.toArray ++ Builtin.zeroCells z.cells (grownCap w (n + 1) old T - (n + 1))) T)) ∧
      Row w' T i.size (.slice (some ⟨w.heap.size, 0, none⟩) (n + 1) (grownCap w (n + 1) old T)) (n + 1) (xs ++ news) ∧ ∀ row, w.grownBy w' row := by
    intro old
    have hge := grownCap_ge w (n + 1) old T
    refine ⟨_, rfl, ⟨hlen, .inr ⟨w.heap.size, _, _, rfl, heap_alloc_new w.drew _, hge, grownCap_le_maxLen w (n + 1) old T hmax, ?_, ?_⟩⟩, fun row => ⟨rfl, rfl, rfl, by simp, fun k hk _ => heap_alloc_old w.drew _ k hk⟩⟩
    · simp only [Array.size_append, List.size_toArray, size_zeroCells, hzs, h.1, hl, Nat.sub_mul]
      have h2 : (n + 1) * i.size ≤ grownCap w (n + 1) old T * i.size := Nat.mul_le_mul_right _ hge
      rw [Nat.add_mul, Nat.one_mul] at h2 ⊢
      omega
    · simp only [Array.toList_append]
      rw [← hlen]
      exact List.take_left
  rcases h.2 with ⟨rfl, rfl⟩ | ⟨g, cap, cur, rfl, hg, hnc, hcm, hcs, htake⟩
  · have hx : xs = [] := List.eq_nil_of_length_eq_zero (by simpa using h.1)
    subst hx
    have hr := run_append_nil (P := Try.prog) w t ty T i z ht hi hz a 1 c news hl1 hnews (by omega) (by omega) (by omega)
    obtain ⟨w', hw', hrow, hgr⟩ := grown 0
    simp only [Nat.zero_add, List.nil_append, Array.empty_append] at hrow hgr hw' ⊢
    rw [← hw'] at hr
    exact ⟨_, _, hr, hrow, hgr _, .inr rfl, by simp [Value.ownBlock]⟩
  · by_cases hroom : n + 1 ≤ cap
    · have hfit : n * i.size + news.length ≤ cur.size := by
        rw [hl, hcs]
        have := Nat.mul_le_mul_right i.size hroom
        rw [Nat.add_mul, Nat.one_mul] at this; exact this
      have hr := run_append_room (P := Try.prog) w t ty T i ht hi g n cap cur hg a 1 c news hl1 hnews h1 hroom hfit
      refine ⟨_, _, hr, ⟨hlen, .inr ⟨g, cap, _, rfl, setRow_heap w g cur _ T _ hg, hroom, hcm, ?_, ?_⟩⟩, ⟨rfl, rfl, rfl, by simp, fun k _ hk => setRow_other w g k _ (fun e => hk (by simp [Value.ownBlock, e]))⟩, .inl rfl, by simp [Value.ownBlock]⟩
      · simp only [List.size_toArray, List.length_append, List.length_take, List.length_drop, Array.length_toList]
        omega
      · rw [htake, ← hlen]
        exact List.take_left
    · have holds : ∀ j u, xs[j]? = some u → w.cell? ((⟨g, 0, none⟩ : Addr).add j) = some u :=
        World.ownsRow.cells (base := 0) (e := T) (size := i.size) (n := n) (h.own 0 (fun _ _ => Nat.zero_le _)) (g := g) rfl
      have hr := run_append_grow (P := Try.prog) w t ty T i z ht hi hz ⟨g, 0, none⟩ n cap xs h.1 holds a 1 c news hl1 hnews (by omega) (by omega) (growslice_fits (by omega) (by omega))
      obtain ⟨w', hw', hrow, hgr⟩ := grown cap
      rw [← hw'] at hr
      exact ⟨_, _, hr, hrow, hgr _, .inr rfl, by simp [Value.ownBlock]⟩

end Go.Proofs.Ytfkehbhlagpmcaa
