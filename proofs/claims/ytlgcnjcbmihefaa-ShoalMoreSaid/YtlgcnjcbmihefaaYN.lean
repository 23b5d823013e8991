/- A list of reports, copied and made longer by one in a region that draws its order: what stays true, whichever comes first. -/
import Derived.Test.YtlgcnjcbmihefaaYF
set_option linter.unusedSimpArgs false
set_option linter.unusedVariables false
namespace Go.Proofs.Ytlgcnjcbmihefaa
open Go Go.RowKit Go.Shelf

/-- One element is appended: in place, behind what is there, or to a copy. -/
theorem append_two {w : World} {t ty T : TypeId} {sz bytes : Nat} {i : TypeInfo} {z : Value} (ht : Try.prog.underlying t = some (.slice T)) (hi : Try.prog.info? T = some i) (hz : i.zero = some z) (hs : i.size = sz) (hby : i.bytes = bytes) (hzs : z.cells.size = sz) (hsz : 0 < sz)
    {v : Value} {n : Nat} {xs : List Value} (h : Row w T sz v n xs) (a : Addr) (c : Nat) (news : List Value) (hl : news.length = sz) (hnews : ∀ j u, news[j]? = some u → w.cell? (a.add j) = some u) (h1 : ∀ u ∈ news, u.oneCell' = true)
    (h63 : n + 1 ≤ 1000000000) (hbytes : bytes ≤ 1000) :
    ∃ v' w', (Builtin.append_ #[t, t] ty #[v, .slice (some a) 1 c]).run Try.prog w = .ok v' w' ∧ Row w' T sz v' (n + 1) (xs ++ news) ∧
      ((w.grownBy w' none ∧ v'.ownBlock = some w.heap.size) ∨ ∃ g cap, v = .slice (some ⟨g, 0, none⟩) n cap ∧ n < cap ∧ w.grownBy w' (some g) ∧ Row w' T sz v n xs ∧ v'.ownBlock = some g) := by
  subst hs
  subst hby
  have hlen : (xs ++ news).length = (n + 1) * i.size := by rw [List.length_append, h.1, hl, Nat.add_mul, Nat.one_mul]
  have hb2 : (n + 1) * i.bytes ≤ 1000000000 * 1000 := Nat.mul_le_mul h63 hbytes
  have hl1 : news.length = 1 * i.size := by rw [hl, Nat.one_mul]
  have hmax : n + 1 ≤ maxLen := by unfold maxLen; omega
  have grown : ∀ (old : Nat), ∃ w', w' = (w.drew.alloc (.cells (xs.toArray ++ news.toArray ++ Builtin.zeroCells z.cells (grownCap w (n + 1) old T - (n + 1))) T)) ∧
      Row w' T i.size (.slice (some ⟨w.heap.size, 0, none⟩) (n + 1) (grownCap w (n + 1) old T)) (n + 1) (xs ++ news) ∧ ∀ row, w.grownBy w' row := by
    intro old
    have hge := grownCap_ge w (n + 1) old T
    refine ⟨_, rfl, ⟨hlen, .inr ⟨w.heap.size, _, _, rfl, heap_alloc_new w.drew _, hge, grownCap_le_maxLen w (n + 1) old T hmax, ?_, ?_⟩⟩, fun row => ⟨rfl, rfl, rfl, by simp, fun k hk _ => heap_alloc_old w.drew _ k hk⟩⟩
    · simp only [Array.size_append, List.size_toArray, size_zeroCells, hzs, h.1, hl, Nat.sub_mul]
      have h2 : (n + 1) * i.size ≤ grownCap w (n + 1) old T * i.size := Nat.mul_le_mul_right _ hge
      rw [Nat.add_mul, Nat.one_mul] at h2 ⊢
      omega
    · simp only [Array.toList_append]
      rw [← hlen]
      exact List.take_left
  rcases h.2 with ⟨rfl, rfl⟩ | ⟨g, cap, cur, rfl, hg, hnc, hcm, hcs, htake⟩
  · have hx : xs = [] := List.eq_nil_of_length_eq_zero (by simpa using h.1)
    subst hx
    have hr := run_append_nil (P := Try.prog) w t ty T i z ht hi hz a 1 c news hl1 hnews (by omega) (by omega) (by omega)
    obtain ⟨w', hw', hrow, hgr⟩ := grown 0
    simp only [Nat.zero_add, List.nil_append, Array.empty_append] at hrow hgr hw' ⊢
    rw [← hw'] at hr
    exact ⟨_, _, hr, hrow, .inl ⟨hgr _, rfl⟩⟩
  · by_cases hroom : n + 1 ≤ cap
    · have hfit : n * i.size + news.length ≤ cur.size := by
        rw [hl, hcs]
        have := Nat.mul_le_mul_right i.size hroom
        rw [Nat.add_mul, Nat.one_mul] at this; exact this
      have hr := run_append_room (P := Try.prog) w t ty T i ht hi g n cap cur hg a 1 c news hl1 hnews h1 hroom hfit
      have hns : (cur.toList.take (n * i.size)).length = n * i.size := by rw [htake]; exact h.1
      refine ⟨_, _, hr, ⟨hlen, .inr ⟨g, cap, _, rfl, setRow_heap w g cur _ T _ hg, hroom, hcm, ?_, ?_⟩⟩, .inr ⟨g, cap, rfl, by omega, ⟨rfl, rfl, rfl, by simp, fun k _ hk => setRow_other w g k _ (fun e => hk (by simp [e]))⟩, ⟨h.1, .inr ⟨g, cap, _, rfl, setRow_heap w g cur _ T _ hg, hnc, hcm, ?_, ?_⟩⟩, rfl⟩⟩
      · simp only [List.size_toArray, List.length_append, List.length_take, List.length_drop, Array.length_toList]
        omega
      · rw [htake, ← hlen]
        exact List.take_left
      · simp only [List.size_toArray, List.length_append, List.length_take, List.length_drop, Array.length_toList]
        omega
      · rw [htake, List.append_assoc, ← h.1]
        exact List.take_left
    · have holds : ∀ j u, xs[j]? = some u → w.cell? ((⟨g, 0, none⟩ : Addr).add j) = some u :=
        World.ownsRow.cells (base := 0) (e := T) (size := i.size) (n := n) (h.own 0 (fun _ _ => Nat.zero_le _)) (g := g) rfl
      have hr := run_append_grow (P := Try.prog) w t ty T i z ht hi hz ⟨g, 0, none⟩ n cap xs h.1 holds a 1 c news hl1 hnews (by omega) (by omega) (growslice_fits (by omega) (by omega))
      obtain ⟨w', hw', hrow, hgr⟩ := grown cap
      rw [← hw'] at hr
      exact ⟨_, _, hr, hrow, .inl ⟨hgr _, rfl⟩⟩

def mEmp (B : Nat) (v : Value) (u : World) : Prop := ∃ g, v = .slice (some ⟨g, 0, none⟩) 0 0 ∧ u.heap[g]? = some (.cells #[] 52 (0, 0)) ∧ B ≤ g
def mCopy (B n : Nat) (xs : List Value) (v : Value) (u : World) : Prop := Row u 52 4 v n xs ∧ (∀ g, v.ownBlock = some g → B ≤ g) ∧ (n = 0 → ∃ g, v = .slice (some ⟨g, 0, none⟩) 0 0)
def mOne (B : Nat) (news : List Value) (v : Value) (u : World) : Prop := ∃ g, v = .slice (some ⟨g, 0, none⟩) 1 1 ∧ u.heap[g]? = some (.cells news.toArray 52 (0, 0)) ∧ B ≤ g
def mLong (n : Nat) (xs : List Value) (v : Value) (u : World) : Prop := Row u 52 4 v n xs
def mInts (l : List Nat) (v : Value) (u : World) : Prop := Row u 3 1 v l.length (natVals l)
def mAns (l : List Nat) (e : Int) (v : Value) (u : World) : Prop := ∃ r, v = .tuple #[r, .int .i64 e] ∧ mInts l r u
/-- What the longer list does to the world. -/
def mLast (B n : Nat) (xs : List Value) (u u' : World) : Prop := Ext u u' ∨ ∃ g cap, 1 ≤ n ∧ n < cap ∧ B ≤ g ∧ Row u 52 4 (.slice (some ⟨g, 0, none⟩) n cap) n xs ∧ Row u' 52 4 (.slice (some ⟨g, 0, none⟩) n cap) n xs ∧ u.grownBy u' (some g)
def mR (B n : Nat) (xs : List Value) (j : Nat) (u v : World) : Prop := if j = 8 then mLast B n xs u v else Ext u v
def mPreds (B n : Nat) (xs news : List Value) (l : List Nat) (e : Int) : Preds := [(2, mEmp B), (5, mCopy B n xs), (7, mOne B news), (8, mLong (n + 1) (xs ++ news)), (11, mAns l e), (12, mAns l e), (13, mInts l), (15, mInts l)]

theorem mR_other {B n : Nat} {xs : List Value} {j : Nat} (h : j ≠ 8) : mR B n xs j = Ext := by funext u v; unfold mR; rw [if_neg h]
theorem mLast_keep {B n : Nat} {xs : List Value} {u u' : World} (h : mLast B n xs u u') {k : Nat} {o : Obj} (hk : u.heap[k]? = some o) (hne : ∀ (cur : Array Value) (cap : Nat), o = .cells cur 52 (0, 0) → cur.size = cap * 4 → 1 ≤ n → n < cap → False) : u'.heap[k]? = some o := by
  rcases h with h | ⟨g, cap, h1, h2, hB, hr, hr', hg⟩
  · exact h.block hk
  · by_cases e : k = g
    · subst e
      rcases hr.2 with ⟨e, _⟩ | ⟨g2, cap2, cur, e, hc, _, _, hs, _⟩
      · cases e
      · cases e
        rw [hk] at hc
        cases hc
        exact (hne cur cap rfl hs h1 h2).elim
    · exact grownBy_block hg hk (fun e2 => e (by cases e2; rfl))
theorem Row.inv {w : World} {T : TypeId} {sz : Nat} {v : Value} {n : Nat} {xs : List Value} (h : Row w T sz v n xs) : v.ownBlock = none ∨ ∃ g cap cur, v = .slice (some ⟨g, 0, none⟩) n cap ∧ w.heap[g]? = some (.cells cur T (0, 0)) ∧ cur.size = cap * sz := by
  rcases h.2 with ⟨rfl, _⟩ | ⟨g, cap, cur, rfl, hg, _, _, hs, _⟩
  · exact .inl rfl
  · exact .inr ⟨g, cap, cur, rfl, hg, hs⟩
theorem mInts_last {B n : Nat} {xs : List Value} {u u' : World} (h : mLast B n xs u u') {l : List Nat} {v : Value} (hv : mInts l v u) : mInts l v u' := by
  refine Row.kept hv (fun k o hk ho => mLast_keep h ho (fun cur cap e _ _ _ => ?_))
  rcases Row.inv hv with e2 | ⟨g, cap2, cur2, rfl, hg, _⟩
  · rw [e2] at hk; cases hk
  · simp [Value.ownBlock] at hk
    subst hk
    rw [ho] at hg
    rw [e] at hg
    cases hg
theorem mCopy_last {B n : Nat} {xs : List Value} {u u' : World} (h : mLast B n xs u u') {v : Value} (hv : mCopy B n xs v u) : mCopy B n xs v u' := by
  refine ⟨?_, hv.2⟩
  rcases h with h | ⟨g, cap, h1, h2, hB, hr, hr', hg⟩
  · exact hv.1.mono h
  · rcases Row.inv hv.1 with e2 | ⟨g2, cap2, cur2, rfl, hg2, hs2⟩
    · exact hv.1.kept (fun k o hk _ => by rw [e2] at hk; cases hk)
    · by_cases e : g2 = g
      · subst e
        rcases Row.inv hr with e3 | ⟨g3, cap3, cur3, e3, hg3, hs3⟩
        · simp [Value.ownBlock] at e3
        · cases e3
          rw [hg2] at hg3
          cases hg3
          obtain rfl : cap2 = cap := by omega
          exact hr'
      · exact hv.1.kept (fun k o hk ho => by
          simp [Value.ownBlock] at hk
          subst hk
          exact grownBy_block hg ho (fun e2 => e (by cases e2; rfl)))
theorem m_stab {B n : Nat} {xs news : List Value} {l : List Nat} {e : Int} (hl : news.length = 4) (i j : Nat) (p : Value → World → Prop) (hij : i ≠ j) (hp : psAt (mPreds B n xs news l e) i = some p) (v : Value) (u u' : World) (hv : p v u) (hR : mR B n xs j u u') : p v u' := by
  have ext : ∀ p, (p = mEmp B ∨ p = mCopy B n xs ∨ p = mOne B news ∨ p = mLong (n + 1) (xs ++ news) ∨ p = mAns l e ∨ p = mInts l) → Ext u u' → p v u → p v u' := by
    rintro p hp hx hv
    rcases hp with rfl | rfl | rfl | rfl | rfl | rfl
    · obtain ⟨g, e, hg, hB⟩ := hv; exact ⟨g, e, hx.block hg, hB⟩
    · exact ⟨hv.1.mono hx, hv.2⟩
    · obtain ⟨g, e, hg, hB⟩ := hv; exact ⟨g, e, hx.block hg, hB⟩
    · exact Row.mono hv hx
    · obtain ⟨r, e, hr⟩ := hv; exact ⟨r, e, Row.mono hr hx⟩
    · exact Row.mono hv hx
  by_cases hj : j = 8
  · subst hj
    unfold mR at hR
    rw [if_pos rfl] at hR
    unfold mPreds at hp
    simp only [psAt] at hp
    split at hp
    · cases hp
      obtain ⟨g, e, hg, hB⟩ := hv
      exact ⟨g, e, mLast_keep hR hg (fun cur cap e2 hs h1 h2 => by cases e2; simp at hs; omega), hB⟩
    split at hp
    · cases hp; exact mCopy_last hR hv
    split at hp
    · cases hp
      obtain ⟨g, e, hg, hB⟩ := hv
      exact ⟨g, e, mLast_keep hR hg (fun cur cap e2 hs h1 h2 => by cases e2; simp [hl] at hs; omega), hB⟩
    split at hp
    · cases hp; obtain ⟨r, e, hr⟩ := hv; exact ⟨r, e, mInts_last hR hr⟩
    split at hp
    · cases hp; obtain ⟨r, e, hr⟩ := hv; exact ⟨r, e, mInts_last hR hr⟩
    split at hp
    · cases hp; exact mInts_last hR hv
    split at hp
    · cases hp; exact mInts_last hR hv
    cases hp
  · rw [mR_other hj] at hR
    refine ext p ?_ hR hv
    unfold mPreds at hp
    simp only [psAt] at hp
    repeat (split at hp; · cases hp; simp)
    cases hp
theorem mC_ok {w5 : World} {n : Nat} {xs : List Value} (j : Nat) (u v : World) (h : Ext w5 u) (k : mR w5.heap.size n xs j u v) : Ext w5 v := by
  unfold mR at k
  split at k
  · rcases k with k | ⟨g, cap, _, _, hB, _, _, hg⟩
    · exact h.trans k
    · exact Below.trans h ⟨hg.os, hg.tape, hg.output, hg.size, fun i hi => hg.block i (Nat.lt_of_lt_of_le hi h.size) (fun e => by cases e; omega)⟩
  · exact h.trans k
section
variable {B n : Nat} {xs : List Value} {w5 : World} {ops : Array Oper} {tail : Act → World → Prop} {k : Nat} {o : Oper} {rest : List Oper} {af : (Nat → Value) → Act} {ps : Preds}
theorem m_fun {v : Value} (hp : psAt ps k = none) (hk : k ≠ 8)
    (h1 : ∀ x u, Ext w5 u → factsL ps x u o.after.toList → if Region.wanted o (yielded ops (af x).tmps) then gives Fence.wide 0 Try.prog Ext o (af x) u (fun z _ => z = v) else undef = v)
    (h2 : lexOk Fence.wide 0 Try.prog ops (mR B n xs) (fun _ => Ext w5) (Ext w5) ps tail (k + 1) rest (fun x => (af x).put o.dst v)) :
    lexOk Fence.wide 0 Try.prog ops (mR B n xs) (fun _ => Ext w5) (Ext w5) ps tail k (o :: rest) af := by
  refine lex_fun hp (fun x u hC hf => ?_) h2
  rw [mR_other hk]
  exact h1 x u hC hf
theorem m_pred {p : Value → World → Prop} (hp : psAt ps k = some p) (hk : k ≠ 8)
    (h1 : ∀ x u, Ext w5 u → factsL ps x u o.after.toList → if Region.wanted o (yielded ops (af x).tmps) then gives Fence.wide 0 Try.prog Ext o (af x) u p else p undef u)
    (h2 : lexOk Fence.wide 0 Try.prog ops (mR B n xs) (fun _ => Ext w5) (Ext w5) ps tail (k + 1) rest (fun x => (af x).put o.dst (x k))) :
    lexOk Fence.wide 0 Try.prog ops (mR B n xs) (fun _ => Ext w5) (Ext w5) ps tail k (o :: rest) af := by
  refine lex_pred hp (fun x u hC hf => ?_) h2
  rw [mR_other hk]
  exact h1 x u hC hf
theorem m_last {p : Value → World → Prop} (hp : psAt ps 8 = some p)
    (h1 : ∀ x u, Ext w5 u → factsL ps x u o.after.toList → if Region.wanted o (yielded ops (af x).tmps) then gives Fence.wide 0 Try.prog (mLast B n xs) o (af x) u p else p undef u)
    (h2 : lexOk Fence.wide 0 Try.prog ops (mR B n xs) (fun _ => Ext w5) (Ext w5) ps tail (8 + 1) rest (fun x => (af x).put o.dst (x 8))) :
    lexOk Fence.wide 0 Try.prog ops (mR B n xs) (fun _ => Ext w5) (Ext w5) ps tail 8 (o :: rest) af := by
  refine lex_pred hp (fun x u hC hf => ?_) h2
  rw [show mR B n xs 8 = mLast B n xs by funext u v; unfold mR; rw [if_pos rfl]]
  exact h1 x u hC hf
end
end Go.Proofs.Ytlgcnjcbmihefaa
