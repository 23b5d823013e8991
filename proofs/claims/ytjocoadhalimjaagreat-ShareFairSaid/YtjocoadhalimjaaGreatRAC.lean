/- Memory: rows, appends, stores. -/
import Derived.Test.YtjocoadhalimjaaGreatRAB
import Derived.Deep.MidRow
import Derived.Deep.WholeRow
import Derived.StringKeys
import Derived.Maps.RangeRun
set_option linter.unusedSimpArgs false
set_option linter.unusedVariables false
namespace Go.Proofs.YtjocoadhalimjaaGreat
section
open Go Go.RowKit Go.Shelf
theorem set_same {w : World} {g : Nat} {cs : Array Value} {t : TypeId} (h : w.heap[g]? = some (.cells cs t (0, 0))) (o : Nat) (v : Value) : (w.setCell ⟨g, o, none⟩ v).heap[g]? = some (.cells (cs.setIfInBounds o v) t (0, 0)) := heap_setCell_same w g o cs t v h

theorem set_other {w : World} {g k : Nat} (hk : k ≠ g) (o : Nat) (v : Value) : (w.setCell ⟨g, o, none⟩ v).heap[k]? = w.heap[k]? := heap_setCell_other w ⟨g, o, none⟩ k v hk

theorem alloc_at (w : World) (o : Obj) (k : Nat) : (w.alloc o).heap[k]? = if k = w.heap.size then some o else w.heap[k]? := by
  show (w.heap.push o)[k]? = _
  rw [Array.getElem?_push]

theorem grownBy_block {u v : World} {ob : Option Nat} (h : u.grownBy v ob) {k : Nat} {o : Obj} (ho : u.heap[k]? = some o) (hne : some k ≠ ob) : v.heap[k]? = some o := by
  rw [h.block k (lt_of_block ho) hne]; exact ho

theorem gives_append {F : Fence} {n : Nat} {P : Program} {R : World → World → Prop} {o : Oper} {a : Act} {w w' : World} {V : Value → World → Prop} {v xv v' : Value} (s x : Operand) (t : TypeId)
    (ho : o.op = .call { callee := .builtin .append, args := #[s, x], argTypes := #[t, t] }) (hs : a.eval s = v) (hx : a.eval x = xv)
    (hr : (Builtin.append_ #[t, t] o.type #[v, xv]).run P w = .ok v' w') (h : V v' w' ∧ R w w') : gives F n P R o a w V := by
  unfold gives
  rw [Oper.semAt_eq _ _ _ (by rw [ho]; intro c h; cases h)]
  unfold execOp
  simp only [ho, resolve, invoke, builtin, Sem.run_bind, Sem.run_pure, Result.andThen_ok, List.map_toArray, List.map_cons, List.map_nil, hs, hx, hr]
  exact h

theorem below_put {n bm : Nat} {w W : World} (h : Below n w W) (hb : n ≤ bm) (o : Obj) : Below n w (W.putObj bm o) :=
  ⟨h.os, h.tape, h.output, by simpa using h.size, fun k hk => by rw [World.putObj_heap_other (by omega)]; exact h.block k hk⟩

theorem Row.isSlice {w : World} {T : TypeId} {sz : Nat} {v : Value} {n : Nat} {xs : List Value} (h : Row w T sz v n xs) : ∃ a m c, v = .slice a m c := by
  rcases h.2 with ⟨rfl, _⟩ | ⟨g, cap, cur, rfl, _⟩
  · exact ⟨_, _, _, rfl⟩
  · exact ⟨_, _, _, rfl⟩

theorem Row.isSliceN {w : World} {T : TypeId} {sz : Nat} {v : Value} {n : Nat} {xs : List Value} (h : Row w T sz v n xs) : ∃ a c, v = .slice a n c := by
  rcases h.2 with ⟨rfl, rfl⟩ | ⟨g, cap, cur, rfl, _⟩
  · exact ⟨_, _, rfl⟩
  · exact ⟨_, _, rfl⟩

theorem Row.isCells {w : World} {T : TypeId} {sz : Nat} {v : Value} {n : Nat} {xs : List Value} (h : Row w T sz v n xs) {j : Nat} {o : Obj} (hj : v.ownBlock = some j) (ho : w.heap[j]? = some o) : o.isCells = true := by
  rcases h.2 with ⟨rfl, _⟩ | ⟨g, cap, cur, rfl, hg, _⟩
  · simp [Value.ownBlock] at hj
  · simp [Value.ownBlock] at hj; subst hj; rw [hg] at ho; cases ho; rfl

theorem Row.set {w : World} {T : TypeId} {sz : Nat} {v : Value} {n : Nat} {xs : List Value} (h : Row w T sz v n xs) {g : Nat} (hne : v.ownBlock ≠ some g) (o : Nat) (x : Value) : Row (w.setCell ⟨g, o, none⟩ x) T sz v n xs :=
  h.kept fun k ob hk ho => by rw [set_other (fun e => hne (by rw [hk, e]))]; exact ho

theorem wpIn_append_row {F : Fence} {n0 : Nat} (hF : ∀ f, F.fn f) (hn : F.depth = none) {o : Oper} {act : Act} {w : World} {K : Act → World → Prop} {Q : Exit → Act → World → Prop} (s x : Operand) {t T : TypeId} {sz bytes : Nat} {i : TypeInfo} {z : Value}
    (ho : o.op = .call { callee := .builtin .append, args := #[s, x], argTypes := #[t, t] })
    (ht : Tryz.prog.underlying t = some (.slice T)) (hi : Tryz.prog.info? T = some i) (hz : i.zero = some z) (hs : i.size = sz) (hby : i.bytes = bytes) (hzs : z.cells.size = sz) (hsz : 0 < sz)
    {v : Value} {n : Nat} {xs : List Value} (hv : act.eval s = v) (h : Row w T sz v n xs) (a : Addr) (c : Nat) (hx : act.eval x = .slice (some a) 1 c) (news : List Value) (hl : news.length = sz) (hnews : ∀ j u, news[j]? = some u → w.cell? (a.add j) = some u) (h1 : ∀ u ∈ news, u.oneCell' = true)
    (h63 : n + 1 ≤ 1000000000) (hbytes : bytes ≤ 1000)
    (hK : ∀ v' w', Row w' T sz v' (n + 1) (xs ++ news) → w.grownBy w' v.ownBlock → (v'.ownBlock = v.ownBlock ∨ v'.ownBlock = some w.heap.size) → K (act.put o.dst v') w') : o.wpIn F n0 Tryz.prog act w K Q := by
  obtain ⟨v', w', hrun, hrow, hgr, how, _⟩ := append_row (ty := o.type) ht hi hz hs hby hzs hsz h a c news hl hnews h1 h63 hbytes
  exact wpIn_of_gives (R := fun u u' => u = w → u' = w' ) (V := fun u u' => u = v' ∧ u' = w') hF hn (gives_append s x t ho hv hx hrun ⟨⟨rfl, rfl⟩, fun _ => rfl⟩) fun u u' hu _ => by
    rw [hu.1, hu.2]; exact hK v' w' hrow hgr how

theorem flat_get {sz : Nat} (f : Nat → List Value) (hf : ∀ i, (f i).length = sz) : ∀ k, ((List.range k).flatMap f).length = k * sz ∧ ∀ i j, i < k → j < sz → ((List.range k).flatMap f)[i * sz + j]? = (f i)[j]? := by
  intro k
  induction k with
  | zero => exact ⟨by simp, fun i j h => absurd h (by omega)⟩
  | succ k ih =>
    rw [List.range_succ, List.flatMap_append]
    refine ⟨by rw [List.length_append, ih.1]; simp [hf, Nat.add_mul], fun i j hi hj => ?_⟩
    rcases Nat.lt_or_ge i k with h | h
    · have hm : (i + 1) * sz ≤ k * sz := Nat.mul_le_mul_right _ h
      rw [Nat.add_mul, Nat.one_mul] at hm
      rw [List.getElem?_append_left (by rw [ih.1]; omega)]
      exact ih.2 i j h hj
    · obtain rfl : i = k := by omega
      rw [List.getElem?_append_right (by rw [ih.1]; omega), ih.1]
      simp

theorem wpIn_store_fresh {F : Fence} {n : Nat} {o : Oper} {a : Act} {w W : World} {K : Act → World → Prop} {Q : Exit → Act → World → Prop} (hF : ∀ f, F.fn f) (ty : TypeId) (x y : Operand) (ho : o.op = .store ty x y) {c c' : Array Value}
    (hx : a.eval x = .pointer (some ⟨W.heap.size, 0, none⟩)) (hy : a.eval y = .agg c') (hw : w = W.alloc (.cells c ty)) (hi : (Tryz.prog.info? ty).map (·.size) = some c'.size) (hs : c.size = c'.size) (h1 : c'.all (·.oneCell') = true)
    (h : K (a.put o.dst undef) (W.alloc (.cells c' ty))) : o.wpIn F n Tryz.prog a w K Q := by
  subst hw
  have hr := run_storeAt_new (P := Tryz.prog) W ty c c' hi hs h1
  refine ⟨fun f _ => hF f, ?_⟩
  rw [Oper.semAt_eq _ _ _ (by rw [ho]; intro c h; cases h)]
  unfold execOp
  simp only [ho, hx, hy, Sem.run_bind, Sem.run_pure, Result.andThen_ok, hr]
  exact h

theorem wpIn_append_run {F : Fence} {n0 : Nat} (hF : ∀ f, F.fn f) (hn : F.depth = none) {o : Oper} {act : Act} {w w' : World} {K : Act → World → Prop} {Q : Exit → Act → World → Prop} (s x : Operand) (t : TypeId)
    (ho : o.op = .call { callee := .builtin .append, args := #[s, x], argTypes := #[t, t] }) {v xv v' : Value} (hv : act.eval s = v) (hx : act.eval x = xv)
    (hrun : (Builtin.append_ #[t, t] o.type #[v, xv]).run Tryz.prog w = .ok v' w') (hK : K (act.put o.dst v') w') : o.wpIn F n0 Tryz.prog act w K Q :=
  wpIn_of_gives (R := fun u u' => u = w → u' = w' ) (V := fun u u' => u = v' ∧ u' = w') hF hn (gives_append s x t ho hv hx hrun ⟨⟨rfl, rfl⟩, fun _ => rfl⟩) fun u u' hu _ => by
    rw [hu.1, hu.2]; exact hK

/-- One element is appended to a slice that has no room. -/
theorem append_full {w : World} {t ty T : TypeId} {sz bytes : Nat} {i : TypeInfo} {z : Value} (ht : Tryz.prog.underlying t = some (.slice T)) (hi : Tryz.prog.info? T = some i) (hz : i.zero = some z) (hs : i.size = sz) (hby : i.bytes = bytes) (hzs : z.cells.size = sz) (hsz : 0 < sz)
    {sa : Option Addr} {n : Nat} {xs : List Value} (hxl : xs.length = n * sz) (hnil : sa = none → n = 0) (hold : ∀ p, sa = some p → ∀ j u, xs[j]? = some u → w.cell? (p.add j) = some u) (a : Addr) (c : Nat) (news : List Value) (hl : news.length = sz) (hnews : ∀ j u, news[j]? = some u → w.cell? (a.add j) = some u)
    (h63 : n + 1 ≤ 1000000000) (hbytes : bytes ≤ 1000) :
    ∃ v' w', (Builtin.append_ #[t, t] ty #[.slice sa n n, .slice (some a) 1 c]).run Tryz.prog w = .ok v' w' ∧ Row w' T sz v' (n + 1) (xs ++ news) ∧ Ext w w' ∧ v'.ownBlock = some w.heap.size := by
  subst hs
  subst hby
  have hlen : (xs ++ news).length = (n + 1) * i.size := by rw [List.length_append, hxl, hl, Nat.add_mul, Nat.one_mul]
  have hb2 : (n + 1) * i.bytes ≤ 1000000000 * 1000 := Nat.mul_le_mul h63 hbytes
  have hl1 : news.length = 1 * i.size := by rw [hl, Nat.one_mul]
  have hmax : n + 1 ≤ maxLen := by unfold maxLen; omega
  have grown : ∀ (old : Nat), ∃ w', w' = (w.drew.alloc (.cells (xs.toArray ++ news.toArray ++ Builtin.zeroCells z.cells (grownCap w (n + 1) old T - (n + 1))) T)) ∧
      Row w' T i.size (.slice (some ⟨w.heap.size, 0, none⟩) (n + 1) (grownCap w (n + 1) old T)) (n + 1) (xs ++ news) ∧ Ext w w' := by
    intro old
    have hge := grownCap_ge w (n + 1) old T
    refine ⟨_, rfl, ⟨hlen, .inr ⟨w.heap.size, _, _, rfl, heap_alloc_new w.drew _, hge, grownCap_le_maxLen w (n + 1) old T hmax, ?_, ?_⟩⟩, ?_⟩
    · simp only [Array.size_append, List.size_toArray, size_zeroCells, hzs, hxl, hl, Nat.sub_mul]
      have h2 : (n + 1) * i.size ≤ grownCap w (n + 1) old T * i.size := Nat.mul_le_mul_right _ hge
      rw [Nat.add_mul, Nat.one_mul] at h2 ⊢
      omega
    · simp only [Array.toList_append]
      rw [← hlen]
      exact List.take_left
    · exact (Ext.drawn w).alloc _
  cases sa with
  | none =>
    obtain rfl := hnil rfl
    have hx : xs = [] := List.eq_nil_of_length_eq_zero (by simpa using hxl)
    subst hx
    have hr := run_append_nil (P := Tryz.prog) w t ty T i z ht hi hz a 1 c news hl1 hnews (by omega) (by omega) (by omega)
    obtain ⟨w', hw', hrow, hgr⟩ := grown 0
    simp only [Nat.zero_add, List.nil_append, Array.empty_append] at hrow hgr hw' ⊢
    rw [← hw'] at hr
    exact ⟨_, _, hr, hrow, hgr, rfl⟩
  | some p =>
    have hr := run_append_grow (P := Tryz.prog) w t ty T i z ht hi hz p n n xs hxl (hold p rfl) a 1 c news hl1 hnews (by omega) (by omega) (growslice_fits (by omega) (by omega))
    obtain ⟨w', hw', hrow, hgr⟩ := grown n
    rw [← hw'] at hr
    exact ⟨_, _, hr, hrow, hgr, rfl⟩

theorem wpIn_append_at {F : Fence} {n0 : Nat} (hF : ∀ f, F.fn f) (hn : F.depth = none) {o : Oper} {act : Act} {w w' : World} {K : Act → World → Prop} {Q : Exit → Act → World → Prop} (W : World) (s x : Operand) (t : TypeId)
    (ho : o.op = .call { callee := .builtin .append, args := #[s, x], argTypes := #[t, t] }) (hw : w = W) {v xv v' : Value} {ty : TypeId} (hrun : (Builtin.append_ #[t, t] ty #[v, xv]).run Tryz.prog W = .ok v' w') (hty : o.type = ty) (hv : act.eval s = v) (hx : act.eval x = xv)
    (hK : K (act.put o.dst v') w') : o.wpIn F n0 Tryz.prog act w K Q := by
  subst hw
  subst hty
  exact wpIn_append_run hF hn s x t ho hv hx hrun hK

theorem wpIn_store_at {F : Fence} {n : Nat} {o : Oper} {a : Act} {w : World} {K : Act → World → Prop} {Q : Exit → Act → World → Prop} (ty : TypeId) (x y : Operand) (ho : o.op = .store ty x y) (hF : ∀ f, F.fn f) {g off : Nat} (hx : a.eval x = .pointer (some ⟨g, off, none⟩)) {t : TypeId} {cells cur : Array Value}
    (hy : a.eval y = .agg cells) (hg : w.heap[g]? = some (.cells cur t (0, 0))) (hi : (Tryz.prog.info? ty).map (·.size) = some cells.size) (hl : off + cells.size ≤ cur.size) (h1 : cells.all (·.oneCell') = true)
    (h : K (a.put o.dst undef) (w.setRow g (cur.toList.take off ++ cells.toList ++ cur.toList.drop (off + cells.size)).toArray)) : o.wpIn F n Tryz.prog a w K Q := by
  have hl : (storeVar ty ⟨g, off, none⟩ (.agg cells)).run Tryz.prog w = .ok () (w.setRow g (cur.toList.take off ++ cells.toList ++ cur.toList.drop (off + cells.size)).toArray) := by
    have := run_storeCells_at (P := Tryz.prog) g off t cells.toList 0 cur w hg (by simpa using hl) (fun v hv => (Array.all_eq_true_iff_forall_mem.1 h1) v (by simpa using hv))
    cases hq : Tryz.prog.info? ty with
    | none => simp [hq] at hi
    | some i =>
      have hs : cells.size = i.size := by simp [hq] at hi; omega
      simp only [Nat.add_zero, Array.length_toList] at this
      simp [storeVar, sizeOf, typeInfo, hq, Value.cells, hs, this]
  refine ⟨fun f _ => hF f, ?_⟩
  rw [Oper.semAt_eq _ _ _ (by rw [ho]; intro c h; cases h)]
  unfold execOp
  simp only [ho, hx, hy, Instr.storeAt, Instr.sureAddr, Sem.run_bind, Sem.run_pure, Result.andThen_ok, hl]
  exact h

theorem ext_setRow {w0 w : World} {g : Nat} (hx : Ext w0 w) (hg : w0.heap.size ≤ g) (c : Array Value) : Ext w0 (w.setRow g c) :=
  Below.trans hx ⟨rfl, rfl, rfl, by simp, fun j hj => setRow_other w g j c (by have := hx.size; omega)⟩
end
section
open Go Go.RowKit Go.Shelf Go.MapKept

abbrev GMap := List (Value × Value)
/-- A map in memory, as the list of its entries. -/
def GMapAt (d : TypeDesc) (w : World) (bm : Nat) (m : GMap) : Prop :=
  ∃ es clock, w.heap[bm]? = some (.map es clock) ∧ es.toList.map (fun e => (e.key, e.val)) = m ∧ Stamped es clock ∧ ∀ x ∈ es.toList, IsKey d x.key
section
variable {d : TypeDesc} {w : World} {bm : Nat} {m : GMap} {k v : Value}
theorem GMapAt.keys (h : GMapAt d w bm m) : (m.map (·.1)).Nodup := by
  obtain ⟨es, clock, hb, rfl, hs, hk⟩ := h
  have := hs.2.2
  rw [List.map_map]; exact this
theorem GMapAt.key (h : GMapAt d w bm m) : ∀ p ∈ m, IsKey d p.1 := by
  obtain ⟨es, clock, hb, rfl, hs, hk⟩ := h
  intro p hp
  obtain ⟨x, hx, rfl⟩ := List.mem_map.1 hp
  exact hk x hx
theorem GMapAt.lt (h : GMapAt d w bm m) : bm < w.heap.size := by
  obtain ⟨es, clock, hb, _⟩ := h; exact lt_of_block hb
theorem GMapAt.kept {w' : World} (h : GMapAt d w bm m) (hk : ∀ o, w.heap[bm]? = some o → w'.heap[bm]? = some o) : GMapAt d w' bm m := by
  obtain ⟨es, clock, hb, h⟩ := h; exact ⟨es, clock, hk _ hb, h⟩
theorem GMapAt.mono {w' : World} (h : GMapAt d w bm m) (hx : Ext w w') : GMapAt d w' bm m := h.kept fun _ ho => hx.block ho
theorem GMapAt.made (d : TypeDesc) (w : World) : GMapAt d (w.alloc (.map #[] 0)) w.heap.size [] := ⟨#[], 0, Ext.new (Ext.refl _), rfl, stamped_empty 0, by simp⟩
theorem GMapAt.notCells (h : GMapAt d w bm m) {cs : Array Value} {t : TypeId} {f : Nat × Nat} {g : Nat} (hg : w.heap[g]? = some (.cells cs t f)) : g ≠ bm := by
  rintro rfl
  obtain ⟨es, clock, hb, _⟩ := h
  rw [hg] at hb; cases hb
theorem gobj {es : Array MapEntry} {clock : Nat} (hb : w.heap[bm]? = some (.map es clock)) : (getObj bm).run Tryz.prog w = .ok (.map es clock) w := by simp [getObj, Sem.run, hb]
theorem gchk {kt : TypeId} (hd : Tryz.prog.underlying kt = some d) (hk : IsKey d k) (e : Bool) : (Instr.checkKey e 10000 kt k).run Tryz.prog w = .ok () w := MapKept.run_checkKey hd hk e 9999
theorem gfind {es : List MapEntry} {kt : TypeId} (hd : Tryz.prog.underlying kt = some d) (hk : IsKey d k) (hks : ∀ x ∈ es, IsKey d x.key) :
    ((Instr.findKey kt k es).run Tryz.prog w = .ok none w ∧ ∀ x ∈ es, x.key ≠ k) ∨ ∃ j e, (Instr.findKey kt k es).run Tryz.prog w = .ok (some (j, e.val)) w ∧ es[j]? = some e ∧ e.key = k := by
  rcases findNow_spec hk es 0 hks with ⟨h1, h2⟩ | ⟨j, e, h1, h2, h3⟩
  · exact .inl ⟨run_findKey hd h1, h2⟩
  · exact .inr ⟨j, e, by simpa using run_findKey hd h1, h2, h3⟩
theorem pair_eq {es : Array MapEntry} {clock : Nat} (hs : Stamped es clock) {e : MapEntry} (he : e ∈ es.toList) {v : Value} (hm : (e.key, v) ∈ es.toList.map (fun e => (e.key, e.val))) : v = e.val := by
  obtain ⟨x, hx, hxe⟩ := List.mem_map.1 hm
  have h1 : x.key = e.key := congrArg Prod.fst hxe
  have h2 : x.val = v := congrArg Prod.snd hxe
  have hnd := hs.2.2
  obtain ⟨i, hi, rfl⟩ := List.getElem_of_mem hx
  obtain ⟨j, hj, rfl⟩ := List.getElem_of_mem he
  by_cases hij : i = j
  · subst hij; exact h2.symm
  · exfalso
    unfold List.Nodup at hnd
    rw [List.pairwise_iff_getElem] at hnd
    rcases Nat.lt_or_gt_of_ne hij with hlt | hlt
    · exact hnd i j (by simpa using hi) (by simpa using hj) hlt (by simpa using h1)
    · exact hnd j i (by simpa using hj) (by simpa using hi) hlt (by simpa using h1.symm)
theorem glookup_some (h : GMapAt d w bm m) (hk : IsKey d k) (hm : (k, v) ∈ m) {t kt e : TypeId} (ok : Bool) (ht : Tryz.prog.underlying t = some (.map kt e)) (hd : Tryz.prog.underlying kt = some d) :
    (Instr.lookup t (.map (some bm)) k ok).run Tryz.prog w = .ok (if ok then .tuple #[v, .bool true] else v) w := by
  obtain ⟨es, clock, hb, rfl, hs, hks⟩ := h
  rcases gfind (w := w) hd hk hks with ⟨_, h2⟩ | ⟨j, x, h1, h2, h3⟩
  · exfalso
    obtain ⟨x, hx, hxe⟩ := List.mem_map.1 hm
    exact h2 x hx (congrArg Prod.fst hxe)
  · have hx : x ∈ es.toList := List.mem_of_getElem? h2
    subst h3
    have hv := pair_eq hs hx hm
    subst hv
    unfold Instr.lookup
    simp only [Sem.run_bind, run_underlying ht, Result.andThen_ok, Sem.run_pure, gobj hb, gchk hd hk, h1]
theorem glookup_none (h : GMapAt d w bm m) (hk : IsKey d k) (hno : ∀ p ∈ m, p.1 ≠ k) {t kt e : TypeId} (ok : Bool) (ht : Tryz.prog.underlying t = some (.map kt e)) (hd : Tryz.prog.underlying kt = some d) {z : Value} (hz : (zeroValue e).run Tryz.prog w = .ok z w) :
    (Instr.lookup t (.map (some bm)) k ok).run Tryz.prog w = .ok (if ok then .tuple #[z, .bool false] else z) w := by
  obtain ⟨es, clock, hb, rfl, hs, hks⟩ := h
  rcases gfind (w := w) hd hk hks with ⟨h1, _⟩ | ⟨j, x, h1, h2, h3⟩
  · unfold Instr.lookup
    simp only [Sem.run_bind, run_underlying ht, Result.andThen_ok, Sem.run_pure, gobj hb, gchk hd hk, h1, hz]
  · exfalso
    exact hno _ (List.mem_map.2 ⟨x, List.mem_of_getElem? h2, rfl⟩) h3
theorem gupdate_new (h : GMapAt d w bm m) (hk : IsKey d k) (hno : ∀ p ∈ m, p.1 ≠ k) (v : Value) {t kt e : TypeId} (ht : Tryz.prog.underlying t = some (.map kt e)) (hd : Tryz.prog.underlying kt = some d) :
    ∃ o, (Instr.mapUpdate t (.map (some bm)) k v).run Tryz.prog w = .ok () (w.putObj bm o) ∧ GMapAt d (w.putObj bm o) bm (m ++ [(k, v)]) := by
  obtain ⟨es, clock, hb, rfl, hs, hks⟩ := h
  rcases gfind (w := w) hd hk hks with ⟨h1, h2⟩ | ⟨j, x, h1, h2, h3⟩
  · refine ⟨.map (es.push { key := k, val := v, born := clock }) (clock + 1), ?_, _, _, World.putObj_heap_same (lt_of_block hb), by simp, stamped_push hs h2, ?_⟩
    · unfold Instr.mapUpdate
      simp only [Sem.run_bind, run_underlying ht, Result.andThen_ok, Sem.run_pure, gobj hb, gchk hd hk, h1]
      simp [setObj, Sem.run, hb, World.putObj]
    · intro x hx
      simp only [Array.toList_push, List.mem_append, List.mem_singleton] at hx
      rcases hx with hx | rfl
      · exact hks x hx
      · exact hk
  · exfalso
    exact hno _ (List.mem_map.2 ⟨x, List.mem_of_getElem? h2, rfl⟩) h3
theorem gupdate_old {v0 : Value} {a b : GMap} (h : GMapAt d w bm (a ++ (k, v0) :: b)) (hk : IsKey d k) (v : Value) {t kt e : TypeId} (ht : Tryz.prog.underlying t = some (.map kt e)) (hd : Tryz.prog.underlying kt = some d) :
    ∃ o, (Instr.mapUpdate t (.map (some bm)) k v).run Tryz.prog w = .ok () (w.putObj bm o) ∧ GMapAt d (w.putObj bm o) bm (a ++ (k, v) :: b) := by
  have hkeys := h.keys
  obtain ⟨es, clock, hb, hm, hs, hks⟩ := h
  rcases gfind (w := w) hd hk hks with ⟨_, h2⟩ | ⟨j, x, h1, h2, h3⟩
  · exfalso
    have : (k, v0) ∈ es.toList.map (fun e => (e.key, e.val)) := by rw [hm]; simp
    obtain ⟨x, hx, hxe⟩ := List.mem_map.1 this
    exact h2 x hx (congrArg Prod.fst hxe)
  · have hj : es[j]? = some x := by simpa using h2
    have hlt : j < es.size := (Array.getElem?_eq_some_iff.1 hj).1
    have hja : j = a.length := by
      have e1 : (es.toList.map (fun e => (e.key, e.val)))[j]? = some (k, x.val) := by rw [List.getElem?_map, h2]; simp [h3]
      rw [hm] at e1
      have hl2 : j < (a ++ (k, v0) :: b).length := (List.getElem?_eq_some_iff.1 e1).1
      unfold List.Nodup at hkeys
      rw [List.pairwise_iff_getElem] at hkeys
      have e2 : ((a ++ (k, v0) :: b).map (·.1))[j]'(by simpa using hl2) = k := by
        rw [List.getElem_map]
        have := (List.getElem?_eq_some_iff.1 e1).2
        rw [this]
      have e3 : ((a ++ (k, v0) :: b).map (·.1))[a.length]'(by simp) = k := by simp
      rcases Nat.lt_trichotomy j a.length with h | h | h
      · exact absurd (e2.trans e3.symm) (hkeys j a.length _ _ h)
      · exact h
      · exact absurd (e3.trans e2.symm) (hkeys a.length j _ _ h)
    have hkey : ∀ e', es[j]? = some e' → ({ e' with key := k, val := v } : MapEntry).key = e'.key := fun e' he' => by rw [hj] at he'; cases he'; exact h3.symm
    refine ⟨.map (es.modify j fun e => { e with key := k, val := v }) clock, ?_, _, _, World.putObj_heap_same (lt_of_block hb), ?_, stamped_modify hs _ _ (fun _ _ => rfl) (fun e' _ he' => hkey e' he'), isKey_modify hks _ _ hkey⟩
    · unfold Instr.mapUpdate
      simp only [Sem.run_bind, run_underlying ht, Result.andThen_ok, Sem.run_pure, gobj hb, gchk hd hk, h1]
      simp [setObj, Sem.run, hb, World.putObj, hj, h3, run_keyThatStays hk, Result.andThen]
    · apply List.ext_getElem?
      intro i
      have hi := congrArg (fun l => l[i]?) hm
      simp only [List.getElem?_map, Array.getElem?_toList] at hi ⊢
      rw [Array.getElem?_modify]
      by_cases hij : j = i
      · subst hij
        rw [if_pos rfl, hj, hja]
        simp
      · rw [if_neg hij, hi]
        rcases Nat.lt_or_ge i a.length with h | h
        · rw [List.getElem?_append_left h, List.getElem?_append_left h]
        · rw [List.getElem?_append_right h, List.getElem?_append_right h]
          obtain ⟨n, hn⟩ : ∃ n, i - a.length = n + 1 := ⟨i - a.length - 1, by omega⟩
          rw [hn, List.getElem?_cons_succ, List.getElem?_cons_succ]
end
/-- An iterator over a map: what is still to come. -/
def IterAt (d : TypeDesc) (w : World) (bm it : Nat) (m left : GMap) : Prop :=
  ∃ es clock seen c0, w.heap[bm]? = some (.map es clock) ∧ es.toList.map (fun e => (e.key, e.val)) = m ∧ Stamped es clock ∧ (∀ x ∈ es.toList, IsKey d x.key) ∧ w.heap[it]? = some (.mapIter (some bm) clock seen c0) ∧ clock ≤ c0 ∧ it ≠ bm ∧
    left = (leftOf es seen).toList.map (fun e => (e.key, e.val))
section
variable {d : TypeDesc} {w : World} {bm it : Nat} {m left : GMap}
theorem IterAt.map (h : IterAt d w bm it m left) : GMapAt d w bm m := by
  obtain ⟨es, clock, seen, c0, hb, hm, hs, hk, _⟩ := h; exact ⟨es, clock, hb, hm, hs, hk⟩
theorem IterAt.kept {w' : World} (h : IterAt d w bm it m left) (h1 : ∀ o, w.heap[bm]? = some o → w'.heap[bm]? = some o) (h2 : ∀ o, w.heap[it]? = some o → w'.heap[it]? = some o) : IterAt d w' bm it m left := by
  obtain ⟨es, clock, seen, c0, hb, hm, hs, hk, hi, h⟩ := h; exact ⟨es, clock, seen, c0, h1 _ hb, hm, hs, hk, h2 _ hi, h⟩
theorem IterAt.mono {w' : World} (h : IterAt d w bm it m left) (hx : Ext w w') : IterAt d w' bm it m left := h.kept (fun _ ho => hx.block ho) fun _ ho => hx.block ho
theorem iter_made (h : GMapAt d w bm m) {t kt e : TypeId} (ht : Tryz.prog.underlying t = some (.map kt e)) :
    ∃ w', (Instr.range t (.map (some bm))).run Tryz.prog w = .ok (.pointer (some ⟨w.heap.size, 0, none⟩)) w' ∧ Ext w w' ∧ IterAt d w' bm w.heap.size m m := by
  obtain ⟨es, clock, hb, hm, hs, hk⟩ := h
  refine ⟨_, run_range_map w t kt e bm es clock ht hb, (Ext.refl w).alloc _, es, clock, #[], clock, ((Ext.refl w).alloc _).block hb, hm, hs, hk, Ext.new (Ext.refl _), Nat.le_refl _, fun e => by have := lt_of_block hb; omega, ?_⟩
  unfold leftOf
  rw [Array.filter_eq_self.2 (by simp), hm]
/-- The next entry: there is none, or one, whichever. -/
theorem iter_next (h : IterAt d w bm it m left) (ty : TypeId) :
    (left = [] ∧ (Instr.next (.pointer (some ⟨it, 0, none⟩)) false ty).run Tryz.prog w = .ok (.tuple #[.bool false]) w) ∨
    ∃ k v w' o a b, left = a ++ (k, v) :: b ∧ (k, v) ∈ m ∧ (Instr.next (.pointer (some ⟨it, 0, none⟩)) false ty).run Tryz.prog w = .ok (.tuple #[.bool true, k, v]) w' ∧
      (∃ w1 : World, (w1 = w ∨ w1 = w.drew) ∧ w' = w1.putObj it o) ∧ IterAt d w' bm it m (a ++ b) ∧ (∀ W, Ext w' W → (Instr.entry (.pointer (some ⟨it, 0, none⟩))).run Tryz.prog W = .ok (.tuple #[k, v]) W) := by
  obtain ⟨es, clock, seen, c0, hb, hm, hs, hk, hi, hc, hne, hl⟩ := h
  rcases run_next_at (P := Tryz.prog) w ty it bm clock c0 seen es clock hi hb hs.1 hc with ⟨h1, h2⟩ | ⟨e, he, w1, hw1, hrun⟩
  · left
    refine ⟨?_, h2⟩
    rw [hl, Array.eq_empty_of_size_eq_zero h1]; rfl
  · right
    have hme := (mem_left he).1
    obtain ⟨a, b, hab⟩ := List.append_of_mem he
    have hw : w1.heap = w.heap := by rcases hw1 with rfl | rfl <;> rfl
    have hi1 : w1.heap[it]? = some (.mapIter (some bm) clock seen c0) := by rw [hw]; exact hi
    have hb' : (w1.putObj it (.mapIter (some bm) clock (seen.push e.born) clock)).heap[bm]? = some (.map es clock) := by rw [World.putObj_heap_other (Ne.symm hne), hw]; exact hb
    have hi' : (w1.putObj it (.mapIter (some bm) clock (seen.push e.born) clock)).heap[it]? = some (.mapIter (some bm) clock (seen.push e.born) clock) := World.putObj_heap_same (lt_of_block hi1)
    refine ⟨e.key, e.val, w1.putObj it (.mapIter (some bm) clock (seen.push e.born) clock), _, a.map (fun e => (e.key, e.val)), b.map (fun e => (e.key, e.val)), ?_, ?_, ?_, ⟨w1, hw1, rfl⟩, ⟨es, clock, seen.push e.born, clock, hb', hm, hs, hk, hi', Nat.le_refl _, hne, ?_⟩, fun W hW => ?_⟩
    · rw [hl, hab]; simp
    · rw [← hm]; exact List.mem_map.2 ⟨e, hme, rfl⟩
    · rw [hrun]; rfl
    · rw [← List.map_append]
      congr 1
      have hnd : ((leftOf es seen).toList.map (·.born)).Nodup := by
        unfold leftOf
        rw [Array.toList_filter]
        exact hs.2.1.sublist (List.filter_sublist.map _)
      have hf : (leftOf es (seen.push e.born)).toList = (leftOf es seen).toList.filter (fun x => !(x.born == e.born)) := by
        unfold leftOf
        rw [Array.toList_filter, Array.toList_filter, List.filter_filter]
        apply List.filter_congr
        intro x hx
        rw [contains_push]
        cases seen.contains x.born <;> cases x.born == e.born <;> rfl
      rw [hf, hab]
      rw [hab, List.map_append, List.map_cons, List.nodup_append] at hnd
      obtain ⟨h1, h2, h3⟩ := hnd
      rw [List.nodup_cons] at h2
      rw [List.filter_append, List.filter_cons]
      have ha : a.filter (fun x => !(x.born == e.born)) = a := by
        rw [List.filter_eq_self]
        intro x hx
        have := h3 x.born (List.mem_map.2 ⟨x, hx, rfl⟩) e.born (by simp)
        simp [this]
      have hb2 : b.filter (fun x => !(x.born == e.born)) = b := by
        rw [List.filter_eq_self]
        intro x hx
        have : x.born ≠ e.born := fun hh => h2.1 (by rw [← hh]; exact List.mem_map.2 ⟨x, hx, rfl⟩)
        simp [this]
      rw [ha, hb2]
      simp
    · exact run_entry_at W it bm clock seen es clock e (hW.block hi') (hW.block hb') hme hs.2.1
end
end
end Go.Proofs.YtjocoadhalimjaaGreat
