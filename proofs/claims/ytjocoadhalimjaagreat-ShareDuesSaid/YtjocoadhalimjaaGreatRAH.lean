/- SortedFunc at the shares; the one order. -/
import Derived.Test.YtjocoadhalimjaaGreatRAG
import Derived.Test.YtjocoadhalimjaaGreatRAC
import Derived.StringKeys
set_option linter.unusedSimpArgs false
set_option linter.unusedVariables false
namespace Go.Proofs.YtjocoadhalimjaaGreat
section
open Go Go.RowKit Go.Shelf Go.Lib Go.Sort

def ltFn (a : Nat) : Value := .func (.func 122) #[] #[.pointer (some ⟨a, 0, none⟩)]
set_option maxHeartbeats 1000000 in
theorem valuesF_any (a : Option Addr) (n cap : Nat) (w : World) : Cal 114 #[.slice a n cap] w fun e w' => e = .returned (.func (.func 122) #[] #[.pointer (some ⟨w.heap.size, 0, none⟩)]) ∧ w' = w.alloc (.cells #[.slice a n cap] 105) := by
  gi_enter Tryz.func114, Tryz.ntmps114
  gi_wp2
  go_ret
  exact ⟨rfl, rfl⟩
set_option maxHeartbeats 1000000 in
theorem collect_any (bx : Nat) (sv : Value) (l : List Shr) (w : World) (hl : l.length ≤ 1000) (hb : w.heap[bx]? = some (.cells #[sv] 105 (0, 0))) (hs : SharesAt w sv l) :
    Cal 120 #[.func (.func 122) #[] #[.pointer (some ⟨bx, 0, none⟩)]] w fun e w' => ∃ v, e = .returned v ∧ Ext w w' ∧ Row w' 146 4 v l.length (flatS l l.length) ∧ ∀ g, v.ownBlock = some g → w.heap.size ≤ g := by
  have HA := hid (appendSeq_any bx sv l w hl hb hs)
  clear hb hs
  gi_enter Tryz.func120, Tryz.ntmps120
  gi_wp2_with (gi_at_call 134; ((with_reducible refine HA.out.mono ?_); rintro e w1 ⟨v, rfl, hx, hr, ho⟩))
  go_ret
  exact ⟨v, rfl, hx, hr, ho⟩
set_option maxHeartbeats 1000000 in
theorem sortedF_any (bx : Nat) (sv : Value) (l : List Shr) (w : World) (hl : l.length ≤ 1000) (hb : w.heap[bx]? = some (.cells #[sv] 105 (0, 0))) (hs : SharesAt w sv l) :
    Cal 113 #[.func (.func 122) #[] #[.pointer (some ⟨bx, 0, none⟩)], fnV 92] w fun e w' => ∃ v m, e = .returned v ∧ Ext w w' ∧ m.Perm l ∧ byRests m ∧ ShB w' v m := by
  have HA := hid (collect_any bx sv l w hl hb hs)
  have HS := hid (fun (v : Value) (u : World) (hr : Row u 146 4 v l.length (flatS l l.length)) => sortS_any l hl v u hr)
  clear hb hs
  gi_enter Tryz.func113, Tryz.ntmps113
  gi_wp2_with (first | (gi_at_call 120; ((with_reducible refine HA.out.mono ?_); rintro e w1 ⟨v, rfl, hx, hr, ho⟩)) | (gi_at_call 121; ((with_reducible refine (HS.out _ _ hr).mono ?_); rintro e w2 ⟨rfl, hg, m, hm1, hm2, hm3⟩)))
  go_ret
  exact ⟨v, m, rfl, ⟨hg.os.trans hx.os, hg.tape.trans hx.tape, hg.output.trans hx.output, Nat.le_trans hx.size hg.size, fun j hj => (hg.block j (by have := hx.size; omega) (fun e => by have := ho j e.symm; omega)).trans (Below.block hx j hj)⟩, hm1, hm2, hm3⟩
/-- The one order in which the shares get a penny more. -/
def sortR (l : List Shr) : List Shr := l.mergeSort fun a b => !restLt b a
theorem restLt_irr (a : Shr) : restLt a a = false := by simp [restLt, nmLt_irr]
theorem restLt_n {x y z : Shr} (h : restLt x y = false) (k : restLt y z = false) : restLt x z = false := by
  have := swoRest.ntrans x y z (by rw [ltRest]; exact h) (by rw [ltRest]; exact k)
  rwa [ltRest] at this
theorem restLt_asym {x y : Shr} (h : restLt x y = true) : restLt y x = false := by
  cases hk : restLt y x with
  | false => rfl
  | true =>
    have := swoRest.trans x y x (by rw [ltRest]; exact h) (by rw [ltRest]; exact hk)
    rw [ltRest, restLt_irr] at this; cases this
theorem sortR_perm (l : List Shr) : (sortR l).Perm l := List.mergeSort_perm _ _
theorem sortR_pair (l : List Shr) : byRests (sortR l) := by
  have h := List.pairwise_mergeSort (le := fun a b : Shr => !restLt b a) (fun a b c h k => by
    rw [Bool.not_eq_true'] at *; exact restLt_n k h) (fun a b => by
    cases h : restLt b a with
    | false => rfl
    | true => rw [restLt_asym h]; rfl) l
  exact h.imp fun {a b} h => by simpa using h
theorem names_inj {a b : ByteArray} (h : a.toList = b.toList) : a = b := by
  rw [Lib.toList_data, Lib.toList_data] at h
  cases a; cases b
  exact congrArg ByteArray.mk (Array.toList_inj.1 h)
theorem nodup_eq {l : List Shr} (hn : (l.map (·.name)).Nodup) {a b : Shr} (ha : a ∈ l) (hb : b ∈ l) (he : a.name = b.name) : a = b := by
  induction l with
  | nil => cases ha
  | cons x l ih =>
    rw [List.map_cons, List.nodup_cons] at hn
    rcases List.mem_cons.1 ha with rfl | ha' <;> rcases List.mem_cons.1 hb with rfl | hb'
    · rfl
    · exact absurd (List.mem_map.2 ⟨b, hb', he.symm⟩) hn.1
    · exact absurd (List.mem_map.2 ⟨a, ha', he⟩) hn.1
    · exact ih hn.2 ha' hb'
theorem sortR_eq {l m : List Shr} (hn : (l.map (·.name)).Nodup) (hp : m.Perm l) (hs : byRests m) : m = sortR l := by
  refine List.Perm.eq_of_pairwise (le := fun a b : Shr => restLt b a = false) (fun a b ha hb h1 h2 => ?_) hs (sortR_pair l) (hp.trans (sortR_perm l).symm)
  have ha' := hp.mem_iff.1 ha
  have hb' := (sortR_perm l).mem_iff.1 hb
  refine nodup_eq hn ha' hb' (names_inj ?_)
  simp only [restLt, Bool.or_eq_false_iff, Bool.and_eq_false_iff, decide_eq_false_iff_not, beq_eq_false_iff_ne] at h1 h2
  have e : a.rest = b.rest := by omega
  exact nmLt_tot (h2.2.resolve_left fun h => h e) (h1.2.resolve_left fun h => h e.symm)
end
section
open Go Go.RowKit Go.Shelf Go.MapKept

/-- A map as the list of its entries; its keys are different. -/
abbrev NMap := List (ByteArray × Value)
def NMap.find (m : NMap) (s : ByteArray) : Option Value := (List.find? (fun e => e.1.toList == s.toList) m).map (·.2)
def NMapAt (w : World) (bm : Nat) (m : NMap) : Prop :=
  ∃ es clock, w.heap[bm]? = some (.map es clock) ∧ es.toList.map (fun e => (e.key, e.val)) = m.map (fun e => (Value.string e.1, e.2)) ∧ (m.map (·.1)).Nodup
theorem find_none {m : NMap} {s : ByteArray} (h : ∀ e ∈ m, e.1 ≠ s) : m.find s = none := by
  unfold NMap.find
  rw [List.find?_eq_none.2 fun e he hb => h e he (names_inj (by simpa using hb))]; rfl
theorem find_at {m : NMap} {s : ByteArray} (hn : (m.map (·.1)).Nodup) {v : Value} (h : (s, v) ∈ m) : m.find s = some v := by
  induction m with
  | nil => cases h
  | cons e m ih =>
    rw [List.map_cons, List.nodup_cons] at hn
    unfold NMap.find
    rw [List.find?_cons]
    rcases List.mem_cons.1 h with rfl | h'
    · simp
    · have hne : e.1 ≠ s := fun he => hn.1 (by rw [he]; exact List.mem_map.2 ⟨_, h', rfl⟩)
      have : (e.1.toList == s.toList) = false := by
        rw [beq_eq_false_iff_ne]; exact fun hb => hne (names_inj hb)
      rw [this]
      exact ih hn.2 h'
theorem find_keyN (w : World) (s : ByteArray) (es : List MapEntry) (m : NMap) (h : es.map (fun e => (e.key, e.val)) = m.map (fun e => (Value.string e.1, e.2))) (hn : (m.map (·.1)).Nodup) :
    ∃ r, (Instr.findKey 9 (.string s) es).run Tryz.prog w = .ok r w ∧ r.map (·.2) = m.find s ∧ (∀ j v, r = some (j, v) → ∃ e, m[j]? = some e ∧ e.1 = s) := by
  have hlen : es.length = m.length := by have := congrArg List.length h; simpa using this
  have hget : ∀ j (hj : j < es.length), es[j].key = .string (m[j]'(by omega)).1 ∧ es[j].val = (m[j]'(by omega)).2 := fun j hj => by
    have h1 : (es.map (fun e => (e.key, e.val)))[j]? = (m.map (fun e => (Value.string e.1, e.2)))[j]? := by rw [h]
    rw [List.getElem?_map, List.getElem?_map, List.getElem?_eq_getElem hj, List.getElem?_eq_getElem (by omega)] at h1
    simp at h1
    exact h1
  have hks : ∀ x ∈ es, IsKey .string x.key := fun x hx => by
    obtain ⟨j, hj, rfl⟩ := List.getElem_of_mem hx
    rw [(hget j hj).1]; trivial
  rcases findNow_spec (d := .string) (k := .string s) trivial es 0 hks with ⟨h1, h2⟩ | ⟨j, e, h1, h2, h3⟩
  · refine ⟨none, run_findKey Tryz.underlying9 h1, ?_, fun j v hj => by cases hj⟩
    rw [find_none]; rfl
    intro e he hs
    obtain ⟨j, hj, rfl⟩ := List.getElem_of_mem he
    exact h2 es[j] (List.getElem_mem _) (by rw [(hget j (by omega)).1, hs])
  · have hj : j < es.length := by
      rw [List.getElem?_eq_some_iff] at h2; exact h2.1
    have he : es[j] = e := by rw [List.getElem?_eq_getElem hj] at h2; exact Option.some.inj h2
    have hk : (m[j]'(by omega)).1 = s := by
      have := (hget j hj).1
      rw [he, h3] at this
      exact (Value.string.inj this).symm
    refine ⟨some (0 + j, e.val), run_findKey Tryz.underlying9 h1, ?_, fun j' v hj' => ?_⟩
    · have hv := (hget j hj).2
      rw [he] at hv
      rw [find_at hn (v := e.val) (s := s) (by rw [hv, ← hk]; exact List.getElem_mem _)]; rfl
    · simp at hj'
      obtain ⟨rfl, _⟩ := hj'
      exact ⟨m[j], List.getElem?_eq_getElem (by omega), hk⟩
theorem check_name (e : Bool) (s : ByteArray) (w : World) : (Instr.checkKey e 10000 9 (.string s)).run Tryz.prog w = .ok () w := run_checkKey Tryz.underlying9 (k := .string s) trivial e 9999
theorem lookup_name {w : World} {bm : Nat} {m : NMap} (h : NMapAt w bm m) (s : ByteArray) {t e : TypeId} {z : Value} (ht : Tryz.prog.underlying t = some (.map 9 e)) (hz : (zeroValue e).run Tryz.prog w = .ok z w) :
    (Instr.lookup t (.map (some bm)) (.string s) false).run Tryz.prog w = .ok ((m.find s).getD z) w := by
  obtain ⟨es, clock, hb, hm, hn⟩ := h
  obtain ⟨r, hr, hf, _⟩ := find_keyN w s es.toList m hm hn
  have hg : (getObj bm).run Tryz.prog w = .ok (.map es clock) w := by simp [getObj, Sem.run, hb]
  unfold Instr.lookup
  simp only [Sem.run_bind, run_underlying ht, Result.andThen_ok, Sem.run_pure, hg, check_name, hr]
  cases r with
  | none =>
    simp at hf
    rw [← hf]
    simp [go_sem, hz]
  | some x =>
    obtain ⟨i, v⟩ := x
    simp at hf
    rw [← hf]
    simp [go_sem]
theorem update_name {w : World} {bm : Nat} {m : NMap} (h : NMapAt w bm m) (s : ByteArray) (v : Value) (hno : m.find s = none) {t e : TypeId} (ht : Tryz.prog.underlying t = some (.map 9 e)) :
    ∃ o, (Instr.mapUpdate t (.map (some bm)) (.string s) v).run Tryz.prog w = .ok () (w.putObj bm o) ∧ NMapAt (w.putObj bm o) bm (m ++ [(s, v)]) := by
  obtain ⟨es, clock, hb, hm, hn⟩ := h
  obtain ⟨r, hr, hf, _⟩ := find_keyN w s es.toList m hm hn
  rw [hno] at hf
  have hrn : r = none := by cases r <;> simp at hf ⊢
  subst hrn
  have hg : (getObj bm).run Tryz.prog w = .ok (.map es clock) w := by simp [getObj, Sem.run, hb]
  refine ⟨.map (es.push { key := .string s, val := v, born := clock }) (clock + 1), ?_, _, _, World.putObj_heap_same (lt_of_block hb), ?_, ?_⟩
  · unfold Instr.mapUpdate
    simp only [Sem.run_bind, run_underlying ht, Result.andThen_ok, Sem.run_pure, hg, check_name, hr]
    simp [setObj, Sem.run, hb, World.putObj]
  · simp [hm]
  · rw [List.map_append, List.nodup_append]
    refine ⟨hn, by simp, fun a ha b hb' hab => ?_⟩
    simp at hb'
    subst hb'
    subst hab
    obtain ⟨e, he, hs⟩ := List.mem_map.1 ha
    have := find_at hn (s := a) (v := e.2) (by rw [← hs]; exact he)
    rw [hno] at this; cases this
end
end Go.Proofs.YtjocoadhalimjaaGreat
