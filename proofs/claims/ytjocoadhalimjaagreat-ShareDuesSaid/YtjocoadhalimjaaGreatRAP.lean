/- Maps with plain keys: look-ups, updates, ranges. -/
import Derived.Test.YtjocoadhalimjaaGreatRAD
import Derived.StringKeys
import Derived.Maps.RangeRun
import Derived.Laws.Externs
set_option linter.unusedSimpArgs false
set_option linter.unusedVariables false
namespace Go.Proofs.YtjocoadhalimjaaGreat
section
open Go Go.RowKit Go.Shelf Go.MapKept

abbrev GMap := List (Value × Value)
/-- A map in memory, as the list of its entries. -/
def GMapAt (d : TypeDesc) (w : World) (bm : Nat) (m : GMap) : Prop :=
  ∃ es clock, w.heap[bm]? = some (.map es clock) ∧ es.toList.map (fun e => (e.key, e.val)) = m ∧ Stamped es clock ∧ ∀ x ∈ es.toList, IsKey d x.key
section
variable {d : TypeDesc} {w : World} {bm : Nat} {m : GMap} {k v : Value}
theorem GMapAt.keys (h : GMapAt d w bm m) : (m.map (·.1)).Nodup := by
  obtain ⟨es, clock, hb, rfl, hs, hk⟩ := h
  have := hs.2.2
  rw [List.map_map]; exact this
theorem GMapAt.key (h : GMapAt d w bm m) : ∀ p ∈ m, IsKey d p.1 := by
  obtain ⟨es, clock, hb, rfl, hs, hk⟩ := h
  intro p hp
  obtain ⟨x, hx, rfl⟩ := List.mem_map.1 hp
  exact hk x hx
theorem GMapAt.lt (h : GMapAt d w bm m) : bm < w.heap.size := by
  obtain ⟨es, clock, hb, _⟩ := h; exact lt_of_block hb
theorem GMapAt.kept {w' : World} (h : GMapAt d w bm m) (hk : ∀ o, w.heap[bm]? = some o → w'.heap[bm]? = some o) : GMapAt d w' bm m := by
  obtain ⟨es, clock, hb, h⟩ := h; exact ⟨es, clock, hk _ hb, h⟩
theorem GMapAt.mono {w' : World} (h : GMapAt d w bm m) (hx : Ext w w') : GMapAt d w' bm m := h.kept fun _ ho => hx.block ho
theorem GMapAt.made (d : TypeDesc) (w : World) : GMapAt d (w.alloc (.map #[] 0)) w.heap.size [] := ⟨#[], 0, Ext.new (Ext.refl _), rfl, stamped_empty 0, by simp⟩
theorem GMapAt.notCells (h : GMapAt d w bm m) {cs : Array Value} {t : TypeId} {f : Nat × Nat} {g : Nat} (hg : w.heap[g]? = some (.cells cs t f)) : g ≠ bm := by
  rintro rfl
  obtain ⟨es, clock, hb, _⟩ := h
  rw [hg] at hb; cases hb
theorem gobj {es : Array MapEntry} {clock : Nat} (hb : w.heap[bm]? = some (.map es clock)) : (getObj bm).run Tryz.prog w = .ok (.map es clock) w := by simp [getObj, Sem.run, hb]
theorem gchk {kt : TypeId} (hd : Tryz.prog.underlying kt = some d) (hk : IsKey d k) (e : Bool) : (Instr.checkKey e 10000 kt k).run Tryz.prog w = .ok () w := MapKept.run_checkKey hd hk e 9999
theorem gfind {es : List MapEntry} {kt : TypeId} (hd : Tryz.prog.underlying kt = some d) (hk : IsKey d k) (hks : ∀ x ∈ es, IsKey d x.key) :
    ((Instr.findKey kt k es).run Tryz.prog w = .ok none w ∧ ∀ x ∈ es, x.key ≠ k) ∨ ∃ j e, (Instr.findKey kt k es).run Tryz.prog w = .ok (some (j, e.val)) w ∧ es[j]? = some e ∧ e.key = k := by
  rcases findNow_spec hk es 0 hks with ⟨h1, h2⟩ | ⟨j, e, h1, h2, h3⟩
  · exact .inl ⟨run_findKey hd h1, h2⟩
  · exact .inr ⟨j, e, by simpa using run_findKey hd h1, h2, h3⟩
theorem pair_eq {es : Array MapEntry} {clock : Nat} (hs : Stamped es clock) {e : MapEntry} (he : e ∈ es.toList) {v : Value} (hm : (e.key, v) ∈ es.toList.map (fun e => (e.key, e.val))) : v = e.val := by
  obtain ⟨x, hx, hxe⟩ := List.mem_map.1 hm
  have h1 : x.key = e.key := congrArg Prod.fst hxe
  have h2 : x.val = v := congrArg Prod.snd hxe
  have hnd := hs.2.2
  obtain ⟨i, hi, rfl⟩ := List.getElem_of_mem hx
  obtain ⟨j, hj, rfl⟩ := List.getElem_of_mem he
  by_cases hij : i = j
  · subst hij; exact h2.symm
  · exfalso
    unfold List.Nodup at hnd
    rw [List.pairwise_iff_getElem] at hnd
    rcases Nat.lt_or_gt_of_ne hij with hlt | hlt
    · exact hnd i j (by simpa using hi) (by simpa using hj) hlt (by simpa using h1)
    · exact hnd j i (by simpa using hj) (by simpa using hi) hlt (by simpa using h1.symm)
theorem glookup_some (h : GMapAt d w bm m) (hk : IsKey d k) (hm : (k, v) ∈ m) {t kt e : TypeId} (ok : Bool) (ht : Tryz.prog.underlying t = some (.map kt e)) (hd : Tryz.prog.underlying kt = some d) :
    (Instr.lookup t (.map (some bm)) k ok).run Tryz.prog w = .ok (if ok then .tuple #[v, .bool true] else v) w := by
  obtain ⟨es, clock, hb, rfl, hs, hks⟩ := h
  rcases gfind (w := w) hd hk hks with ⟨_, h2⟩ | ⟨j, x, h1, h2, h3⟩
  · exfalso
    obtain ⟨x, hx, hxe⟩ := List.mem_map.1 hm
    exact h2 x hx (congrArg Prod.fst hxe)
  · have hx : x ∈ es.toList := List.mem_of_getElem? h2
    subst h3
    have hv := pair_eq hs hx hm
    subst hv
    unfold Instr.lookup
    simp only [Sem.run_bind, run_underlying ht, Result.andThen_ok, Sem.run_pure, gobj hb, gchk hd hk, h1]
theorem glookup_none (h : GMapAt d w bm m) (hk : IsKey d k) (hno : ∀ p ∈ m, p.1 ≠ k) {t kt e : TypeId} (ok : Bool) (ht : Tryz.prog.underlying t = some (.map kt e)) (hd : Tryz.prog.underlying kt = some d) {z : Value} (hz : (zeroValue e).run Tryz.prog w = .ok z w) :
    (Instr.lookup t (.map (some bm)) k ok).run Tryz.prog w = .ok (if ok then .tuple #[z, .bool false] else z) w := by
  obtain ⟨es, clock, hb, rfl, hs, hks⟩ := h
  rcases gfind (w := w) hd hk hks with ⟨h1, _⟩ | ⟨j, x, h1, h2, h3⟩
  · unfold Instr.lookup
    simp only [Sem.run_bind, run_underlying ht, Result.andThen_ok, Sem.run_pure, gobj hb, gchk hd hk, h1, hz]
  · exfalso
    exact hno _ (List.mem_map.2 ⟨x, List.mem_of_getElem? h2, rfl⟩) h3
theorem gupdate_new (h : GMapAt d w bm m) (hk : IsKey d k) (hno : ∀ p ∈ m, p.1 ≠ k) (v : Value) {t kt e : TypeId} (ht : Tryz.prog.underlying t = some (.map kt e)) (hd : Tryz.prog.underlying kt = some d) :
    ∃ o, (Instr.mapUpdate t (.map (some bm)) k v).run Tryz.prog w = .ok () (w.putObj bm o) ∧ GMapAt d (w.putObj bm o) bm (m ++ [(k, v)]) := by
  obtain ⟨es, clock, hb, rfl, hs, hks⟩ := h
  rcases gfind (w := w) hd hk hks with ⟨h1, h2⟩ | ⟨j, x, h1, h2, h3⟩
  · refine ⟨.map (es.push { key := k, val := v, born := clock }) (clock + 1), ?_, _, _, World.putObj_heap_same (lt_of_block hb), by simp, stamped_push hs h2, ?_⟩
    · unfold Instr.mapUpdate
      simp only [Sem.run_bind, run_underlying ht, Result.andThen_ok, Sem.run_pure, gobj hb, gchk hd hk, h1]
      simp [setObj, Sem.run, hb, World.putObj]
    · intro x hx
      simp only [Array.toList_push, List.mem_append, List.mem_singleton] at hx
      rcases hx with hx | rfl
      · exact hks x hx
      · exact hk
  · exfalso
    exact hno _ (List.mem_map.2 ⟨x, List.mem_of_getElem? h2, rfl⟩) h3
theorem gupdate_old {v0 : Value} {a b : GMap} (h : GMapAt d w bm (a ++ (k, v0) :: b)) (hk : IsKey d k) (v : Value) {t kt e : TypeId} (ht : Tryz.prog.underlying t = some (.map kt e)) (hd : Tryz.prog.underlying kt = some d) :
    ∃ o, (Instr.mapUpdate t (.map (some bm)) k v).run Tryz.prog w = .ok () (w.putObj bm o) ∧ GMapAt d (w.putObj bm o) bm (a ++ (k, v) :: b) := by
  have hkeys := h.keys
  obtain ⟨es, clock, hb, hm, hs, hks⟩ := h
  rcases gfind (w := w) hd hk hks with ⟨_, h2⟩ | ⟨j, x, h1, h2, h3⟩
  · exfalso
    have : (k, v0) ∈ es.toList.map (fun e => (e.key, e.val)) := by rw [hm]; simp
    obtain ⟨x, hx, hxe⟩ := List.mem_map.1 this
    exact h2 x hx (congrArg Prod.fst hxe)
  · have hj : es[j]? = some x := by simpa using h2
    have hlt : j < es.size := (Array.getElem?_eq_some_iff.1 hj).1
    have hja : j = a.length := by
      have e1 : (es.toList.map (fun e => (e.key, e.val)))[j]? = some (k, x.val) := by rw [List.getElem?_map, h2]; simp [h3]
      rw [hm] at e1
      have hl2 : j < (a ++ (k, v0) :: b).length := (List.getElem?_eq_some_iff.1 e1).1
      unfold List.Nodup at hkeys
      rw [List.pairwise_iff_getElem] at hkeys
      have e2 : ((a ++ (k, v0) :: b).map (·.1))[j]'(by simpa using hl2) = k := by
        rw [List.getElem_map]
        have := (List.getElem?_eq_some_iff.1 e1).2
        rw [this]
      have e3 : ((a ++ (k, v0) :: b).map (·.1))[a.length]'(by simp) = k := by simp
      rcases Nat.lt_trichotomy j a.length with h | h | h
      · exact absurd (e2.trans e3.symm) (hkeys j a.length _ _ h)
      · exact h
      · exact absurd (e3.trans e2.symm) (hkeys a.length j _ _ h)
    have hkey : ∀ e', es[j]? = some e' → ({ e' with key := k, val := v } : MapEntry).key = e'.key := fun e' he' => by rw [hj] at he'; cases he'; exact h3.symm
    refine ⟨.map (es.modify j fun e => { e with key := k, val := v }) clock, ?_, _, _, World.putObj_heap_same (lt_of_block hb), ?_, stamped_modify hs _ _ (fun _ _ => rfl) (fun e' _ he' => hkey e' he'), isKey_modify hks _ _ hkey⟩
    · unfold Instr.mapUpdate
      simp only [Sem.run_bind, run_underlying ht, Result.andThen_ok, Sem.run_pure, gobj hb, gchk hd hk, h1]
      simp [setObj, Sem.run, hb, World.putObj, hj, h3, run_keyThatStays hk, Result.andThen]
    · apply List.ext_getElem?
      intro i
      have hi := congrArg (fun l => l[i]?) hm
      simp only [List.getElem?_map, Array.getElem?_toList] at hi ⊢
      rw [Array.getElem?_modify]
      by_cases hij : j = i
      · subst hij
        rw [if_pos rfl, hj, hja]
        simp
      · rw [if_neg hij, hi]
        rcases Nat.lt_or_ge i a.length with h | h
        · rw [List.getElem?_append_left h, List.getElem?_append_left h]
        · rw [List.getElem?_append_right h, List.getElem?_append_right h]
          obtain ⟨n, hn⟩ : ∃ n, i - a.length = n + 1 := ⟨i - a.length - 1, by omega⟩
          rw [hn, List.getElem?_cons_succ, List.getElem?_cons_succ]
end
/-- An iterator over a map: what is still to come. -/
def IterAt (d : TypeDesc) (w : World) (bm it : Nat) (m left : GMap) : Prop :=
  ∃ es clock seen c0, w.heap[bm]? = some (.map es clock) ∧ es.toList.map (fun e => (e.key, e.val)) = m ∧ Stamped es clock ∧ (∀ x ∈ es.toList, IsKey d x.key) ∧ w.heap[it]? = some (.mapIter (some bm) clock seen c0) ∧ clock ≤ c0 ∧ it ≠ bm ∧
    left = (leftOf es seen).toList.map (fun e => (e.key, e.val))
section
variable {d : TypeDesc} {w : World} {bm it : Nat} {m left : GMap}
theorem IterAt.map (h : IterAt d w bm it m left) : GMapAt d w bm m := by
  obtain ⟨es, clock, seen, c0, hb, hm, hs, hk, _⟩ := h; exact ⟨es, clock, hb, hm, hs, hk⟩
theorem IterAt.kept {w' : World} (h : IterAt d w bm it m left) (h1 : ∀ o, w.heap[bm]? = some o → w'.heap[bm]? = some o) (h2 : ∀ o, w.heap[it]? = some o → w'.heap[it]? = some o) : IterAt d w' bm it m left := by
  obtain ⟨es, clock, seen, c0, hb, hm, hs, hk, hi, h⟩ := h; exact ⟨es, clock, seen, c0, h1 _ hb, hm, hs, hk, h2 _ hi, h⟩
theorem IterAt.mono {w' : World} (h : IterAt d w bm it m left) (hx : Ext w w') : IterAt d w' bm it m left := h.kept (fun _ ho => hx.block ho) fun _ ho => hx.block ho
theorem iter_made (h : GMapAt d w bm m) {t kt e : TypeId} (ht : Tryz.prog.underlying t = some (.map kt e)) :
    ∃ w', (Instr.range t (.map (some bm))).run Tryz.prog w = .ok (.pointer (some ⟨w.heap.size, 0, none⟩)) w' ∧ Ext w w' ∧ IterAt d w' bm w.heap.size m m := by
  obtain ⟨es, clock, hb, hm, hs, hk⟩ := h
  refine ⟨_, run_range_map w t kt e bm es clock ht hb, (Ext.refl w).alloc _, es, clock, #[], clock, ((Ext.refl w).alloc _).block hb, hm, hs, hk, Ext.new (Ext.refl _), Nat.le_refl _, fun e => by have := lt_of_block hb; omega, ?_⟩
  unfold leftOf
  rw [Array.filter_eq_self.2 (by simp), hm]
/-- The next entry: there is none, or one, whichever. -/
theorem iter_next (h : IterAt d w bm it m left) (ty : TypeId) :
    (left = [] ∧ (Instr.next (.pointer (some ⟨it, 0, none⟩)) false ty).run Tryz.prog w = .ok (.tuple #[.bool false]) w) ∨
    ∃ k v w' o a b, left = a ++ (k, v) :: b ∧ (k, v) ∈ m ∧ (Instr.next (.pointer (some ⟨it, 0, none⟩)) false ty).run Tryz.prog w = .ok (.tuple #[.bool true, k, v]) w' ∧
      (∃ w1 : World, (w1 = w ∨ w1 = w.drew) ∧ w' = w1.putObj it o) ∧ IterAt d w' bm it m (a ++ b) ∧ (∀ W, Ext w' W → (Instr.entry (.pointer (some ⟨it, 0, none⟩))).run Tryz.prog W = .ok (.tuple #[k, v]) W) := by
  obtain ⟨es, clock, seen, c0, hb, hm, hs, hk, hi, hc, hne, hl⟩ := h
  rcases run_next_at (P := Tryz.prog) w ty it bm clock c0 seen es clock hi hb hs.1 hc with ⟨h1, h2⟩ | ⟨e, he, w1, hw1, hrun⟩
  · left
    refine ⟨?_, h2⟩
    rw [hl, Array.eq_empty_of_size_eq_zero h1]; rfl
  · right
    have hme := (mem_left he).1
    obtain ⟨a, b, hab⟩ := List.append_of_mem he
    have hw : w1.heap = w.heap := by rcases hw1 with rfl | rfl <;> rfl
    have hi1 : w1.heap[it]? = some (.mapIter (some bm) clock seen c0) := by rw [hw]; exact hi
    have hb' : (w1.putObj it (.mapIter (some bm) clock (seen.push e.born) clock)).heap[bm]? = some (.map es clock) := by rw [World.putObj_heap_other (Ne.symm hne), hw]; exact hb
    have hi' : (w1.putObj it (.mapIter (some bm) clock (seen.push e.born) clock)).heap[it]? = some (.mapIter (some bm) clock (seen.push e.born) clock) := World.putObj_heap_same (lt_of_block hi1)
    refine ⟨e.key, e.val, w1.putObj it (.mapIter (some bm) clock (seen.push e.born) clock), _, a.map (fun e => (e.key, e.val)), b.map (fun e => (e.key, e.val)), ?_, ?_, ?_, ⟨w1, hw1, rfl⟩, ⟨es, clock, seen.push e.born, clock, hb', hm, hs, hk, hi', Nat.le_refl _, hne, ?_⟩, fun W hW => ?_⟩
    · rw [hl, hab]; simp
    · rw [← hm]; exact List.mem_map.2 ⟨e, hme, rfl⟩
    · rw [hrun]; rfl
    · rw [← List.map_append]
      congr 1
      have hnd : ((leftOf es seen).toList.map (·.born)).Nodup := by
        unfold leftOf
        rw [Array.toList_filter]
        exact hs.2.1.sublist (List.filter_sublist.map _)
      have hf : (leftOf es (seen.push e.born)).toList = (leftOf es seen).toList.filter (fun x => !(x.born == e.born)) := by
        unfold leftOf
        rw [Array.toList_filter, Array.toList_filter, List.filter_filter]
        apply List.filter_congr
        intro x hx
        rw [contains_push]
        cases seen.contains x.born <;> cases x.born == e.born <;> rfl
      rw [hf, hab]
      rw [hab, List.map_append, List.map_cons, List.nodup_append] at hnd
      obtain ⟨h1, h2, h3⟩ := hnd
      rw [List.nodup_cons] at h2
      rw [List.filter_append, List.filter_cons]
      have ha : a.filter (fun x => !(x.born == e.born)) = a := by
        rw [List.filter_eq_self]
        intro x hx
        have := h3 x.born (List.mem_map.2 ⟨x, hx, rfl⟩) e.born (by simp)
        simp [this]
      have hb2 : b.filter (fun x => !(x.born == e.born)) = b := by
        rw [List.filter_eq_self]
        intro x hx
        have : x.born ≠ e.born := fun hh => h2.1 (by rw [← hh]; exact List.mem_map.2 ⟨x, hx, rfl⟩)
        simp [this]
      rw [ha, hb2]
      simp
    · exact run_entry_at W it bm clock seen es clock e (hW.block hi') (hW.block hb') hme hs.2.1
end
end
section
open Go Go.RowKit Go.Shelf

theorem add64_run (x y : Int) (hx : 0 ≤ x) (hy : 0 ≤ y) (w : World) : (callFunc 109 #[.int .u64 x, .int .u64 y, .int .u64 0]).run Tryz.prog w = .ok (.value (.tuple #[.int .u64 ((x + y) % 18446744073709551616), .int .u64 ((x + y) / 18446744073709551616)])) w := by
  rw [run_callFunc_extern Tryz.func109 (by kernel_rfl) (by kernel_rfl) (by kernel_rfl) (e := add64Entry) (by kernel_rfl), run_add64 x y 0 hx hy (by omega) (by omega)]
  simp only [Result.andThen, Int.add_zero]
/-- A number in two words. -/
def wideC (x : Int) : Array Value := #[.int .i64 (x / 18446744073709551616), .int .u64 (x % 18446744073709551616)]
set_option maxRecDepth 100000 in
set_option maxHeartbeats 1000000 in
theorem plus_any (x n : Int) (w : World) (hx : -1000000000000000000000000000000000000 ≤ x ∧ x ≤ 1000000000000000000000000000000000000) (hn : -9223372036854775808 ≤ n ∧ n ≤ 9223372036854775807) :
    Cal 90 #[.agg (wideC x), .int .i64 n] w fun e w' => e = .returned (.agg (wideC (x + n))) ∧ Ext w w' := by
  unfold wideC
  have hA := fun (u : World) => add64_run (x % 18446744073709551616) (n % 18446744073709551616) (by omega) (by omega) u
  have e1 : (x % 18446744073709551616 + n % 18446744073709551616) % 18446744073709551616 = (x + n) % 18446744073709551616 := by omega
  rw [e1] at hA
  have HS : Hid (∀ c, c = (x % 18446744073709551616 + n % 18446744073709551616) / 18446744073709551616 → IntKind.i64.wrap (IntKind.i64.wrap (x / 18446744073709551616 + n / 9223372036854775808) + IntKind.i64.wrap c) = (x + n) / 18446744073709551616) := hid fun c hc => by
    subst hc
    rw [IntKind.wrap_i64, IntKind.wrap_i64, IntKind.wrap_i64]
    omega
  have hwu : IntKind.u64.wrap n = n % 18446744073709551616 := by simp [IntKind.wrap, IntKind.signed, IntKind.bits]
  clear e1
  gi_enter Tryz.func90, Tryz.ntmps90
  gi_wp2_with fail
  have hs : x / 18446744073709551616 + n / 9223372036854775808 + (x % 18446744073709551616 + n % 18446744073709551616) / 18446744073709551616 = (x + n) / 18446744073709551616 := by omega
  rw [hs]
  clear hA HS hwu hs
  generalize (x + n) / 18446744073709551616 = a at *
  generalize (x + n) % 18446744073709551616 = b at *
  generalize x / 18446744073709551616 = c at *
  generalize x % 18446744073709551616 = d at *
  have HX : Ext w ((w.alloc (.cells #[.int .i64 c, .int .u64 d] 141)).alloc (.cells #[.int .i64 a, .int .u64 b] 141)) := ((Ext.refl _).alloc _).alloc _
  have hb : ((w.alloc (.cells #[.int .i64 c, .int .u64 d] 141)).alloc (.cells #[.int .i64 a, .int .u64 b] 141)).heap[w.heap.size + 1]? = some (.cells #[.int .i64 a, .int .u64 b] 141 (0, 0)) := by
    have := Ext.new (w := w.alloc (.cells #[.int .i64 c, .int .u64 d] 141)) (o := .cells #[.int .i64 a, .int .u64 b] 141) (Ext.refl _); rwa [World.size_alloc] at this
  generalize (w.alloc (.cells #[.int .i64 c, .int .u64 d] 141)).alloc (.cells #[.int .i64 a, .int .u64 b] 141) = W at *
  have hc := cell_of hb
  exact bodyPost_ret (v := .agg #[.int .i64 a, .int .u64 b]) (by simp [results, Tryz.results90, go_sem, hc]) rfl ⟨rfl, HX⟩
end
end Go.Proofs.YtjocoadhalimjaaGreat
