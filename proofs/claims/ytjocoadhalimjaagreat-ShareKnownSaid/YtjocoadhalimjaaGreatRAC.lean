/- Which of two shares comes first. -/
import Derived.Test.YtjocoadhalimjaaGreatRAA
import Derived.Deep.MidRow
import Derived.Deep.WholeRow
set_option linter.unusedSimpArgs false
set_option linter.unusedVariables false
namespace Go.Proofs.YtjocoadhalimjaaGreat
section
open Go Go.RowKit Go.Shelf

/-- A share: a stake with what it gets and its rest. -/
structure Shr where
  name : ByteArray
  weight : Int
  pence : Int
  rest : Int
  deriving Inhabited
def shrV (s : Shr) : Value := .agg #[.string s.name, .int .i64 s.weight, .int .i64 s.pence, .int .i64 s.rest]
/-- The first number that is not 0. -/
def orL : List Int → Int
  | [] => 0
  | x :: l => if x = 0 then orL l else x
theorem orL_some : ∀ {xs : List Int} {k : Nat} (h : k < xs.length), (∀ j, j < k → xs.getD j 0 = 0) → xs[k] ≠ 0 → orL xs = xs[k]
  | x :: l, 0, _, _, hn => by simp only [List.getElem_cons_zero] at hn ⊢; rw [orL, if_neg hn]
  | x :: l, k + 1, h, h0, hn => by
    have hx : x = 0 := h0 0 (by omega)
    rw [orL, if_pos hx]
    exact orL_some (xs := l) (k := k) (by simpa using h) (fun j hj => by simpa using h0 (j + 1) (by omega)) (by simpa using hn)
theorem orL_none : ∀ {xs : List Int}, (∀ j, j < xs.length → xs.getD j 0 = 0) → orL xs = 0
  | [], _ => rfl
  | x :: l, h => by
    have hx : x = 0 := h 0 (by simp)
    rw [orL, if_pos hx]
    exact orL_none fun j hj => by simpa using h (j + 1) (by simpa using hj)
set_option maxHeartbeats 1000000 in
theorem or_any (v : Value) (xs : List Int) (w : World) (hv : IntsAt w v xs) :
    Cal 110 #[v] w fun e w' => e = .returned (.int .i64 (orL xs)) ∧ w = w' := by
  obtain ⟨a, cap, rfl, ⟨hcap, hlen⟩, hc⟩ := hv
  have HC := hid hc
  clear hc
  gi_enter Tryz.func110, Tryz.ntmps110
  gi_wp2
  gi_loop [5, 8, 10, 11, 12, 13, 14, 15, 16] (fun u5 i u10 u11 u12 u13 u14 u15 u16 => ∃ k : Nat, k ≤ xs.length ∧ i = .int .i64 k ∧ Hid (∀ j, j < k → xs.getD j 0 = 0)) (fun _ i _ _ _ _ _ _ _ => xs.length - (intOf i).toNat)
  case atStart => exact ⟨0, Nat.zero_le _, rfl, fun _ h => absurd h (by omega)⟩
  case round =>
    obtain ⟨k, hk, rfl, HG⟩ := hrel
    by_cases hlt : k < xs.length
    · obtain ⟨b, off, rfl, hbb, hck⟩ := HC.out k hlt
      by_cases hz : xs[k] = 0
      · have HU : Hid (∀ j, j < k + 1 → xs.getD j 0 = 0) := fun j hj => by
          by_cases hjk : j < k
          · exact HG.out j hjk
          · obtain rfl : j = k := by omega
            rw [getD_of hlt]; exact hz
        rw [hz] at hck
        clear HG hz
        gi_wp2
        go_round
        case rel => exact ⟨k + 1, by omega, by go_num, HU⟩
        case measure => simp [intOf]; omega
      · have HF : Hid (orL xs = xs[k]) := hid (orL_some hlt HG.out hz)
        clear HG
        generalize xs[k] = x at *
        gi_wp2
        go_ret
        exact ⟨by rw [HF.out]; rfl, rfl⟩
    · obtain rfl : k = xs.length := by omega
      have HT : Hid (orL xs = 0) := hid (orL_none HG.out)
      clear HG
      gi_wp2
      go_ret
      exact ⟨by rw [HT.out]; rfl, rfl⟩
def pI (l : List Int) (v : Value) (u : World) : Prop := IntsAt u v l
def nStab (ps : Preds) : Prop := ∀ i p, psAt ps i = some p → ∀ v u u', p v u → Ext u u' → p v u'
theorem nStab_nil : nStab [] := fun i p h => by cases h
theorem nStab_cons {k : Nat} {q : Value → World → Prop} {ps : Preds} (hq : ∀ v u u', q v u → Ext u u' → q v u') (h : nStab ps) : nStab ((k, q) :: ps) := fun i p hp v u u' hv hx => by
  unfold psAt at hp
  split at hp
  · cases hp; exact hq v u u' hv hx
  · exact h i p hp v u u' hv hx
theorem pI_s (l : List Int) : ∀ v u u', pI l v u → Ext u u' → pI l v u' := fun _ _ _ h k => h.mono k
theorem ints_two {W : World} {ty : TypeId} (a b : Int) {W' : World} (hx : Ext (W.alloc (.cells #[.int .i64 a, .int .i64 b] ty)) W') : pI [a, b] (.slice (some ⟨W.heap.size, 0, none⟩) 2 2) W' := by
  refine ⟨_, 2, rfl, by simp, fun i hi => ⟨W.heap.size, 0, rfl, Nat.lt_of_lt_of_le (by simp) hx.size, ?_⟩⟩
  have hc := cell_of (Ext.new hx)
  rw [hc]
  match i, hi with
  | 0, _ => rfl
  | 1, _ => rfl
/-- Who of two gets one of the pence first: below 0, the first one. -/
def restC (a b : Shr) : Int := orL [cmpI b.rest a.rest, cmpS a.name b.name]
set_option maxRecDepth 100000 in
set_option maxHeartbeats 1000000 in
theorem byRest_any (a b : Shr) (w : World) : Cal 92 #[shrV a, shrV b] w fun e w' => e = .returned (.int .i64 (restC a b)) ∧ Ext w w' := by
  unfold shrV restC
  gi_enter Tryz.func92, Tryz.ntmps92
  gi_wp2_with fail
  have hW : Ext w ((w.alloc (.cells #[.string a.name, .int .i64 a.weight, .int .i64 a.pence, .int .i64 a.rest] 146)).alloc (.cells #[.string b.name, .int .i64 b.weight, .int .i64 b.pence, .int .i64 b.rest] 146)) := ((Ext.refl _).alloc _).alloc _
  have HA := hid (two_new (w := w) (o1 := .cells #[.string a.name, .int .i64 a.weight, .int .i64 a.pence, .int .i64 a.rest] 146) (o2 := .cells #[.string b.name, .int .i64 b.weight, .int .i64 b.pence, .int .i64 b.rest] 146))
  have HB : Hid (((w.alloc (.cells #[.string a.name, .int .i64 a.weight, .int .i64 a.pence, .int .i64 a.rest] 146)).alloc (.cells #[.string b.name, .int .i64 b.weight, .int .i64 b.pence, .int .i64 b.rest] 146)).heap[w.heap.size + 1]? = some (.cells #[.string b.name, .int .i64 b.weight, .int .i64 b.pence, .int .i64 b.rest] 146 (0, 0))) := hid (by
    have := Ext.new (w := w.alloc (.cells #[.string a.name, .int .i64 a.weight, .int .i64 a.pence, .int .i64 a.rest] 146)) (o := .cells #[.string b.name, .int .i64 b.weight, .int .i64 b.pence, .int .i64 b.rest] 146) (Ext.refl _); rwa [World.size_alloc] at this)
  generalize (w.alloc (.cells #[.string a.name, .int .i64 a.weight, .int .i64 a.pence, .int .i64 a.rest] 146)).alloc (.cells #[.string b.name, .int .i64 b.weight, .int .i64 b.pence, .int .i64 b.rest] 146) = W at *
  refine lex_wide 14 [(12, pI [cmpI b.rest a.rest, cmpS a.name b.name])] (by kernel_rfl) (by kernel_rfl) (nStab_cons (pI_s _) nStab_nil) ?_
  simp only [List.take_succ_cons, List.take_zero, List.drop_succ_cons, List.drop_zero]
  apply lex_fun (rfl : psAt _ _ = none)
  · intro x u hR hf
    clear hR hf
    go_simp
    exact ⟨rfl, Ext.refl _⟩
  simp only [Act.put, List.setIfInBounds_toArray, List.set_cons_succ, List.set_cons_zero]
  apply lex_fun (rfl : psAt _ _ = none)
  · intro x u hR hf
    have c1 := cell_of (hR.block HB.out)
    clear hR hf
    go_simp
    exact ⟨rfl, Ext.refl _⟩
  simp only [Act.put, List.setIfInBounds_toArray, List.set_cons_succ, List.set_cons_zero]
  apply lex_fun (rfl : psAt _ _ = none)
  · intro x u hR hf
    clear hR hf
    go_simp
    exact ⟨rfl, Ext.refl _⟩
  simp only [Act.put, List.setIfInBounds_toArray, List.set_cons_succ, List.set_cons_zero]
  apply lex_fun (rfl : psAt _ _ = none)
  · intro x u hR hf
    have c0 := cell_of (hR.block HA.out)
    clear hR hf
    go_simp
    exact ⟨rfl, Ext.refl _⟩
  simp only [Act.put, List.setIfInBounds_toArray, List.set_cons_succ, List.set_cons_zero]
  refine lex_fun (v := .int .i64 (cmpI b.rest a.rest)) (rfl : psAt _ _ = none) ?_ ?_
  · intro x u hR hf
    have hcal := hid (cmpI_any b.rest a.rest u)
    clear hR hf
    go_simp
    exact hcal.out.mono fun e w'' ⟨he, hx'⟩ => ⟨_, he, rfl, by subst hx'; exact Ext.refl _⟩
  simp only [Act.put, List.setIfInBounds_toArray, List.set_cons_succ, List.set_cons_zero]
  apply lex_fun (rfl : psAt _ _ = none)
  · intro x u hR hf
    clear hR hf
    go_simp
    exact ⟨rfl, Ext.refl _⟩
  simp only [Act.put, List.setIfInBounds_toArray, List.set_cons_succ, List.set_cons_zero]
  apply lex_fun (rfl : psAt _ _ = none)
  · intro x u hR hf
    clear hR hf
    go_simp
    exact ⟨rfl, Ext.refl _⟩
  simp only [Act.put, List.setIfInBounds_toArray, List.set_cons_succ, List.set_cons_zero]
  apply lex_fun (rfl : psAt _ _ = none)
  · intro x u hR hf
    have c0 := cell_of (hR.block HA.out)
    clear hR hf
    go_simp
    exact ⟨rfl, Ext.refl _⟩
  simp only [Act.put, List.setIfInBounds_toArray, List.set_cons_succ, List.set_cons_zero]
  apply lex_fun (rfl : psAt _ _ = none)
  · intro x u hR hf
    clear hR hf
    go_simp
    exact ⟨rfl, Ext.refl _⟩
  simp only [Act.put, List.setIfInBounds_toArray, List.set_cons_succ, List.set_cons_zero]
  apply lex_fun (rfl : psAt _ _ = none)
  · intro x u hR hf
    clear hR hf
    go_simp
    exact ⟨rfl, Ext.refl _⟩
  simp only [Act.put, List.setIfInBounds_toArray, List.set_cons_succ, List.set_cons_zero]
  apply lex_fun (rfl : psAt _ _ = none)
  · intro x u hR hf
    have c1 := cell_of (hR.block HB.out)
    clear hR hf
    go_simp
    exact ⟨rfl, Ext.refl _⟩
  simp only [Act.put, List.setIfInBounds_toArray, List.set_cons_succ, List.set_cons_zero]
  refine lex_fun (v := .int .i64 (cmpS a.name b.name)) (rfl : psAt _ _ = none) ?_ ?_
  · intro x u hR hf
    have hcal := hid (cmpS_any a.name b.name u)
    clear hR hf
    go_simp
    exact hcal.out.mono fun e w'' ⟨he, hx'⟩ => ⟨_, he, rfl, by subst hx'; exact Ext.refl _⟩
  simp only [Act.put, List.setIfInBounds_toArray, List.set_cons_succ, List.set_cons_zero]
  refine lex_pred (p := pI [cmpI b.rest a.rest, cmpS a.name b.name]) rfl ?_ ?_
  · intro x u hR hf
    clear hR hf
    go_simp
    exact ⟨ints_two _ _ (Ext.refl _), (Ext.refl _).alloc _⟩
  simp only [Act.put, List.setIfInBounds_toArray, List.set_cons_succ, List.set_cons_zero]
  refine lex_fun (v := .int .i64 (orL [cmpI b.rest a.rest, cmpS a.name b.name])) (rfl : psAt _ _ = none) ?_ ?_
  · intro x u hR hf
    have h12 := (hf.1 rfl : pI _ (x 12) u)
    have hcal := hid (or_any _ _ u h12)
    clear hR hf
    go_simp
    exact hcal.out.mono fun e w'' ⟨he, hx'⟩ => ⟨_, he, rfl, by subst hx'; exact Ext.refl _⟩
  simp only [Act.put, List.setIfInBounds_toArray, List.set_cons_succ, List.set_cons_zero]
  refine lex_nil fun x w6 hE hfacts => ?_
  clear hfacts
  generalize x 12 = x12
  clear x
  gi_wp2
  go_ret
  exact ⟨rfl, hW.trans hE⟩
end
section
open Go Go.RowKit Go.Shelf
theorem set_same {w : World} {g : Nat} {cs : Array Value} {t : TypeId} (h : w.heap[g]? = some (.cells cs t (0, 0))) (o : Nat) (v : Value) : (w.setCell ⟨g, o, none⟩ v).heap[g]? = some (.cells (cs.setIfInBounds o v) t (0, 0)) := heap_setCell_same w g o cs t v h

theorem set_other {w : World} {g k : Nat} (hk : k ≠ g) (o : Nat) (v : Value) : (w.setCell ⟨g, o, none⟩ v).heap[k]? = w.heap[k]? := heap_setCell_other w ⟨g, o, none⟩ k v hk

theorem alloc_at (w : World) (o : Obj) (k : Nat) : (w.alloc o).heap[k]? = if k = w.heap.size then some o else w.heap[k]? := by
  show (w.heap.push o)[k]? = _
  rw [Array.getElem?_push]

theorem grownBy_block {u v : World} {ob : Option Nat} (h : u.grownBy v ob) {k : Nat} {o : Obj} (ho : u.heap[k]? = some o) (hne : some k ≠ ob) : v.heap[k]? = some o := by
  rw [h.block k (lt_of_block ho) hne]; exact ho

theorem gives_append {F : Fence} {n : Nat} {P : Program} {R : World → World → Prop} {o : Oper} {a : Act} {w w' : World} {V : Value → World → Prop} {v xv v' : Value} (s x : Operand) (t : TypeId)
    (ho : o.op = .call { callee := .builtin .append, args := #[s, x], argTypes := #[t, t] }) (hs : a.eval s = v) (hx : a.eval x = xv)
    (hr : (Builtin.append_ #[t, t] o.type #[v, xv]).run P w = .ok v' w') (h : V v' w' ∧ R w w') : gives F n P R o a w V := by
  unfold gives
  rw [Oper.semAt_eq _ _ _ (by rw [ho]; intro c h; cases h)]
  unfold execOp
  simp only [ho, resolve, invoke, builtin, Sem.run_bind, Sem.run_pure, Result.andThen_ok, List.map_toArray, List.map_cons, List.map_nil, hs, hx, hr]
  exact h

theorem below_put {n bm : Nat} {w W : World} (h : Below n w W) (hb : n ≤ bm) (o : Obj) : Below n w (W.putObj bm o) :=
  ⟨h.os, h.tape, h.output, by simpa using h.size, fun k hk => by rw [World.putObj_heap_other (by omega)]; exact h.block k hk⟩

theorem Row.isSlice {w : World} {T : TypeId} {sz : Nat} {v : Value} {n : Nat} {xs : List Value} (h : Row w T sz v n xs) : ∃ a m c, v = .slice a m c := by
  rcases h.2 with ⟨rfl, _⟩ | ⟨g, cap, cur, rfl, _⟩
  · exact ⟨_, _, _, rfl⟩
  · exact ⟨_, _, _, rfl⟩

theorem Row.isSliceN {w : World} {T : TypeId} {sz : Nat} {v : Value} {n : Nat} {xs : List Value} (h : Row w T sz v n xs) : ∃ a c, v = .slice a n c := by
  rcases h.2 with ⟨rfl, rfl⟩ | ⟨g, cap, cur, rfl, _⟩
  · exact ⟨_, _, rfl⟩
  · exact ⟨_, _, rfl⟩

theorem Row.isCells {w : World} {T : TypeId} {sz : Nat} {v : Value} {n : Nat} {xs : List Value} (h : Row w T sz v n xs) {j : Nat} {o : Obj} (hj : v.ownBlock = some j) (ho : w.heap[j]? = some o) : o.isCells = true := by
  rcases h.2 with ⟨rfl, _⟩ | ⟨g, cap, cur, rfl, hg, _⟩
  · simp [Value.ownBlock] at hj
  · simp [Value.ownBlock] at hj; subst hj; rw [hg] at ho; cases ho; rfl

theorem Row.set {w : World} {T : TypeId} {sz : Nat} {v : Value} {n : Nat} {xs : List Value} (h : Row w T sz v n xs) {g : Nat} (hne : v.ownBlock ≠ some g) (o : Nat) (x : Value) : Row (w.setCell ⟨g, o, none⟩ x) T sz v n xs :=
  h.kept fun k ob hk ho => by rw [set_other (fun e => hne (by rw [hk, e]))]; exact ho

theorem wpIn_append_row {F : Fence} {n0 : Nat} (hF : ∀ f, F.fn f) (hn : F.depth = none) {o : Oper} {act : Act} {w : World} {K : Act → World → Prop} {Q : Exit → Act → World → Prop} (s x : Operand) {t T : TypeId} {sz bytes : Nat} {i : TypeInfo} {z : Value}
    (ho : o.op = .call { callee := .builtin .append, args := #[s, x], argTypes := #[t, t] })
    (ht : Tryz.prog.underlying t = some (.slice T)) (hi : Tryz.prog.info? T = some i) (hz : i.zero = some z) (hs : i.size = sz) (hby : i.bytes = bytes) (hzs : z.cells.size = sz) (hsz : 0 < sz)
    {v : Value} {n : Nat} {xs : List Value} (hv : act.eval s = v) (h : Row w T sz v n xs) (a : Addr) (c : Nat) (hx : act.eval x = .slice (some a) 1 c) (news : List Value) (hl : news.length = sz) (hnews : ∀ j u, news[j]? = some u → w.cell? (a.add j) = some u) (h1 : ∀ u ∈ news, u.oneCell' = true)
    (h63 : n + 1 ≤ 1000000000) (hbytes : bytes ≤ 1000)
    (hK : ∀ v' w', Row w' T sz v' (n + 1) (xs ++ news) → w.grownBy w' v.ownBlock → (v'.ownBlock = v.ownBlock ∨ v'.ownBlock = some w.heap.size) → K (act.put o.dst v') w') : o.wpIn F n0 Tryz.prog act w K Q := by
  obtain ⟨v', w', hrun, hrow, hgr, how, _⟩ := append_row (ty := o.type) ht hi hz hs hby hzs hsz h a c news hl hnews h1 h63 hbytes
  exact wpIn_of_gives (R := fun u u' => u = w → u' = w' ) (V := fun u u' => u = v' ∧ u' = w') hF hn (gives_append s x t ho hv hx hrun ⟨⟨rfl, rfl⟩, fun _ => rfl⟩) fun u u' hu _ => by
    rw [hu.1, hu.2]; exact hK v' w' hrow hgr how

theorem flat_get {sz : Nat} (f : Nat → List Value) (hf : ∀ i, (f i).length = sz) : ∀ k, ((List.range k).flatMap f).length = k * sz ∧ ∀ i j, i < k → j < sz → ((List.range k).flatMap f)[i * sz + j]? = (f i)[j]? := by
  intro k
  induction k with
  | zero => exact ⟨by simp, fun i j h => absurd h (by omega)⟩
  | succ k ih =>
    rw [List.range_succ, List.flatMap_append]
    refine ⟨by rw [List.length_append, ih.1]; simp [hf, Nat.add_mul], fun i j hi hj => ?_⟩
    rcases Nat.lt_or_ge i k with h | h
    · have hm : (i + 1) * sz ≤ k * sz := Nat.mul_le_mul_right _ h
      rw [Nat.add_mul, Nat.one_mul] at hm
      rw [List.getElem?_append_left (by rw [ih.1]; omega)]
      exact ih.2 i j h hj
    · obtain rfl : i = k := by omega
      rw [List.getElem?_append_right (by rw [ih.1]; omega), ih.1]
      simp

theorem wpIn_store_fresh {F : Fence} {n : Nat} {o : Oper} {a : Act} {w W : World} {K : Act → World → Prop} {Q : Exit → Act → World → Prop} (hF : ∀ f, F.fn f) (ty : TypeId) (x y : Operand) (ho : o.op = .store ty x y) {c c' : Array Value}
    (hx : a.eval x = .pointer (some ⟨W.heap.size, 0, none⟩)) (hy : a.eval y = .agg c') (hw : w = W.alloc (.cells c ty)) (hi : (Tryz.prog.info? ty).map (·.size) = some c'.size) (hs : c.size = c'.size) (h1 : c'.all (·.oneCell') = true)
    (h : K (a.put o.dst undef) (W.alloc (.cells c' ty))) : o.wpIn F n Tryz.prog a w K Q := by
  subst hw
  have hr := run_storeAt_new (P := Tryz.prog) W ty c c' hi hs h1
  refine ⟨fun f _ => hF f, ?_⟩
  rw [Oper.semAt_eq _ _ _ (by rw [ho]; intro c h; cases h)]
  unfold execOp
  simp only [ho, hx, hy, Sem.run_bind, Sem.run_pure, Result.andThen_ok, hr]
  exact h

theorem wpIn_append_run {F : Fence} {n0 : Nat} (hF : ∀ f, F.fn f) (hn : F.depth = none) {o : Oper} {act : Act} {w w' : World} {K : Act → World → Prop} {Q : Exit → Act → World → Prop} (s x : Operand) (t : TypeId)
    (ho : o.op = .call { callee := .builtin .append, args := #[s, x], argTypes := #[t, t] }) {v xv v' : Value} (hv : act.eval s = v) (hx : act.eval x = xv)
    (hrun : (Builtin.append_ #[t, t] o.type #[v, xv]).run Tryz.prog w = .ok v' w') (hK : K (act.put o.dst v') w') : o.wpIn F n0 Tryz.prog act w K Q :=
  wpIn_of_gives (R := fun u u' => u = w → u' = w' ) (V := fun u u' => u = v' ∧ u' = w') hF hn (gives_append s x t ho hv hx hrun ⟨⟨rfl, rfl⟩, fun _ => rfl⟩) fun u u' hu _ => by
    rw [hu.1, hu.2]; exact hK

/-- One element is appended to a slice that has no room. -/
theorem append_full {w : World} {t ty T : TypeId} {sz bytes : Nat} {i : TypeInfo} {z : Value} (ht : Tryz.prog.underlying t = some (.slice T)) (hi : Tryz.prog.info? T = some i) (hz : i.zero = some z) (hs : i.size = sz) (hby : i.bytes = bytes) (hzs : z.cells.size = sz) (hsz : 0 < sz)
    {sa : Option Addr} {n : Nat} {xs : List Value} (hxl : xs.length = n * sz) (hnil : sa = none → n = 0) (hold : ∀ p, sa = some p → ∀ j u, xs[j]? = some u → w.cell? (p.add j) = some u) (a : Addr) (c : Nat) (news : List Value) (hl : news.length = sz) (hnews : ∀ j u, news[j]? = some u → w.cell? (a.add j) = some u)
    (h63 : n + 1 ≤ 1000000000) (hbytes : bytes ≤ 1000) :
    ∃ v' w', (Builtin.append_ #[t, t] ty #[.slice sa n n, .slice (some a) 1 c]).run Tryz.prog w = .ok v' w' ∧ Row w' T sz v' (n + 1) (xs ++ news) ∧ Ext w w' ∧ v'.ownBlock = some w.heap.size := by
  subst hs
  subst hby
  have hlen : (xs ++ news).length = (n + 1) * i.size := by rw [List.length_append, hxl, hl, Nat.add_mul, Nat.one_mul]
  have hb2 : (n + 1) * i.bytes ≤ 1000000000 * 1000 := Nat.mul_le_mul h63 hbytes
  have hl1 : news.length = 1 * i.size := by rw [hl, Nat.one_mul]
  have hmax : n + 1 ≤ maxLen := by unfold maxLen; omega
  have grown : ∀ (old : Nat), ∃ w', w' = (w.drew.alloc (.cells (xs.toArray ++ news.toArray ++ Builtin.zeroCells z.cells (grownCap w (n + 1) old T - (n + 1))) T)) ∧
      Row w' T i.size (.slice (some ⟨w.heap.size, 0, none⟩) (n + 1) (grownCap w (n + 1) old T)) (n + 1) (xs ++ news) ∧ Ext w w' := by
    intro old
    have hge := grownCap_ge w (n + 1) old T
    refine ⟨_, rfl, ⟨hlen, .inr ⟨w.heap.size, _, _, rfl, heap_alloc_new w.drew _, hge, grownCap_le_maxLen w (n + 1) old T hmax, ?_, ?_⟩⟩, ?_⟩
    · simp only [Array.size_append, List.size_toArray, size_zeroCells, hzs, hxl, hl, Nat.sub_mul]
      have h2 : (n + 1) * i.size ≤ grownCap w (n + 1) old T * i.size := Nat.mul_le_mul_right _ hge
      rw [Nat.add_mul, Nat.one_mul] at h2 ⊢
      omega
    · simp only [Array.toList_append]
      rw [← hlen]
      exact List.take_left
    · exact (Ext.drawn w).alloc _
  cases sa with
  | none =>
    obtain rfl := hnil rfl
    have hx : xs = [] := List.eq_nil_of_length_eq_zero (by simpa using hxl)
    subst hx
    have hr := run_append_nil (P := Tryz.prog) w t ty T i z ht hi hz a 1 c news hl1 hnews (by omega) (by omega) (by omega)
    obtain ⟨w', hw', hrow, hgr⟩ := grown 0
    simp only [Nat.zero_add, List.nil_append, Array.empty_append] at hrow hgr hw' ⊢
    rw [← hw'] at hr
    exact ⟨_, _, hr, hrow, hgr, rfl⟩
  | some p =>
    have hr := run_append_grow (P := Tryz.prog) w t ty T i z ht hi hz p n n xs hxl (hold p rfl) a 1 c news hl1 hnews (by omega) (by omega) (growslice_fits (by omega) (by omega))
    obtain ⟨w', hw', hrow, hgr⟩ := grown n
    rw [← hw'] at hr
    exact ⟨_, _, hr, hrow, hgr, rfl⟩

theorem wpIn_append_at {F : Fence} {n0 : Nat} (hF : ∀ f, F.fn f) (hn : F.depth = none) {o : Oper} {act : Act} {w w' : World} {K : Act → World → Prop} {Q : Exit → Act → World → Prop} (W : World) (s x : Operand) (t : TypeId)
    (ho : o.op = .call { callee := .builtin .append, args := #[s, x], argTypes := #[t, t] }) (hw : w = W) {v xv v' : Value} {ty : TypeId} (hrun : (Builtin.append_ #[t, t] ty #[v, xv]).run Tryz.prog W = .ok v' w') (hty : o.type = ty) (hv : act.eval s = v) (hx : act.eval x = xv)
    (hK : K (act.put o.dst v') w') : o.wpIn F n0 Tryz.prog act w K Q := by
  subst hw
  subst hty
  exact wpIn_append_run hF hn s x t ho hv hx hrun hK

theorem wpIn_store_at {F : Fence} {n : Nat} {o : Oper} {a : Act} {w : World} {K : Act → World → Prop} {Q : Exit → Act → World → Prop} (ty : TypeId) (x y : Operand) (ho : o.op = .store ty x y) (hF : ∀ f, F.fn f) {g off : Nat} (hx : a.eval x = .pointer (some ⟨g, off, none⟩)) {t : TypeId} {cells cur : Array Value}
    (hy : a.eval y = .agg cells) (hg : w.heap[g]? = some (.cells cur t (0, 0))) (hi : (Tryz.prog.info? ty).map (·.size) = some cells.size) (hl : off + cells.size ≤ cur.size) (h1 : cells.all (·.oneCell') = true)
    (h : K (a.put o.dst undef) (w.setRow g (cur.toList.take off ++ cells.toList ++ cur.toList.drop (off + cells.size)).toArray)) : o.wpIn F n Tryz.prog a w K Q := by
  have hl : (storeVar ty ⟨g, off, none⟩ (.agg cells)).run Tryz.prog w = .ok () (w.setRow g (cur.toList.take off ++ cells.toList ++ cur.toList.drop (off + cells.size)).toArray) := by
    have := run_storeCells_at (P := Tryz.prog) g off t cells.toList 0 cur w hg (by simpa using hl) (fun v hv => (Array.all_eq_true_iff_forall_mem.1 h1) v (by simpa using hv))
    cases hq : Tryz.prog.info? ty with
    | none => simp [hq] at hi
    | some i =>
      have hs : cells.size = i.size := by simp [hq] at hi; omega
      simp only [Nat.add_zero, Array.length_toList] at this
      simp [storeVar, sizeOf, typeInfo, hq, Value.cells, hs, this]
  refine ⟨fun f _ => hF f, ?_⟩
  rw [Oper.semAt_eq _ _ _ (by rw [ho]; intro c h; cases h)]
  unfold execOp
  simp only [ho, hx, hy, Instr.storeAt, Instr.sureAddr, Sem.run_bind, Sem.run_pure, Result.andThen_ok, hl]
  exact h

theorem ext_setRow {w0 w : World} {g : Nat} (hx : Ext w0 w) (hg : w0.heap.size ≤ g) (c : Array Value) : Ext w0 (w.setRow g c) :=
  Below.trans hx ⟨rfl, rfl, rfl, by simp, fun j hj => setRow_other w g j c (by have := hx.size; omega)⟩
end
section
open Go Go.RowKit Go.Shelf

def shrOf (P A : Int) (s : Stk) : Shr := ⟨s.name, s.weight, P * s.weight / A, P * s.weight % A⟩
def shrCells (x : Shr) : List Value := [.string x.name, .int .i64 x.weight, .int .i64 x.pence, .int .i64 x.rest]
def noShr : Shr := ⟨ByteArray.empty, 0, 0, 0⟩
def flatS (l : List Shr) (k : Nat) : List Value := (List.range k).flatMap fun i => shrCells (l.getD i noShr)
theorem flatS_succ (l : List Shr) {k : Nat} (h : k < l.length) : flatS l (k + 1) = flatS l k ++ shrCells l[k] := by
  unfold flatS
  rw [List.range_succ, List.flatMap_append]
  simp [h]
def shrs (P A : Int) (l : List Stk) : List Shr := l.map (shrOf P A)
def leftTo (P A : Int) (l : List Stk) (k : Nat) : Int := P - ((l.take k).map fun s => P * s.weight / A).sum
theorem leftTo_succ (P A : Int) (l : List Stk) {k : Nat} (h : k < l.length) : leftTo P A l (k + 1) = leftTo P A l k - P * l[k].weight / A := by
  unfold leftTo
  rw [List.take_succ_eq_append_getElem h, List.map_append, List.sum_append, List.map_cons, List.map_nil, List.sum_cons, List.sum_nil]; omega
theorem quo_bound {P A x : Int} (hP : 0 ≤ P ∧ P ≤ 10000000) (hA : P = 0 ∨ 0 < A) (hx : 0 ≤ x ∧ x ≤ 1000000) : (0 ≤ P * x ∧ P * x ≤ 10000000000000) ∧ (0 ≤ P * x / A ∧ P * x / A ≤ 10000000000000) ∧ (0 ≤ P * x % A ∧ P * x % A ≤ 10000000000000) := by
  have h0 : 0 ≤ P * x := Int.mul_nonneg hP.1 hx.1
  have h1 : P * x ≤ 10000000 * 1000000 := Int.mul_le_mul hP.2 hx.2 hx.1 (by omega)
  have h2 : (10000000 : Int) * 1000000 = 10000000000000 := by decide
  rcases hA with rfl | hA
  · simp
  · refine ⟨⟨h0, by omega⟩, ⟨Int.ediv_nonneg h0 (by omega), ?_⟩, ⟨Int.emod_nonneg _ (by omega), ?_⟩⟩
    · have := Int.ediv_le_self A h0; omega
    · have h3 := Int.emod_nonneg (P * x) (show A ≠ 0 by omega)
      have h4 := Int.mul_ediv_add_emod (P * x) A
      have h5 : 0 ≤ A * (P * x / A) := Int.mul_nonneg (by omega) (Int.ediv_nonneg h0 (by omega))
      omega
theorem leftTo_bound {P A : Int} {l : List Stk} (hP : 0 ≤ P ∧ P ≤ 10000000) (hA : P = 0 ∨ 0 < A) (hw : ∀ s ∈ l, 0 ≤ s.weight ∧ s.weight ≤ 1000000) (hl : l.length ≤ 10) (k : Nat) : -1000000000000000 ≤ leftTo P A l k ∧ leftTo P A l k ≤ 1000000000000000 := by
  have h1 := sum_within (M := 10000000000000) (by omega) ((l.take k).map fun s => P * s.weight / A) (fun x hx => by
    obtain ⟨s, hs, rfl⟩ := List.mem_map.mp hx
    have := quo_bound hP hA (hw s (List.mem_of_mem_take hs))
    omega)
  have h2 : ((l.take k).map fun s => P * s.weight / A).length ≤ 10 := by rw [List.length_map, List.length_take]; omega
  unfold leftTo
  omega
def DvAt (w : World) (P A : Int) (l : List Stk) (k : Nat) (wr : World) : Prop :=
  Ext w wr ∧ wr.heap[w.heap.size]? = some (.cells #[.slice none 0 0, .int .i64 0, .nilFunc] 108 (0, 0)) ∧ ∃ v, wr.heap[w.heap.size + 1]? = some (.cells #[v, .int .i64 (leftTo P A l k), fnV 92] 108 (0, 0)) ∧ Row wr 146 4 v k (flatS (shrs P A l) k) ∧ ∀ g, v.ownBlock = some g → w.heap.size + 1 < g
/-- What is stored in a share, in whatever order: its pence by 7, its rest by 9. -/
def dvJ (wr : World) (N : Nat) (nm : ByteArray) (wt Q R : Int) : InvJ := fun L x u => Ext wr u ∧ u.heap[N + 1]? = some (.cells #[.string nm, .int .i64 wt, .int .i64 (if L 7 then Q else 0), .int .i64 (if L 9 then R else 0)] 146 (0, 0))
theorem dvJ_7 {wr u : World} {N : Nat} {nm : ByteArray} {wt Q R : Int} {L : Nat → Bool} {x : Nat → Value} (h : dvJ wr N nm wt Q R L x u) (hN : wr.heap.size ≤ N + 1) : dvJ wr N nm wt Q R (updL L 7) x (u.setCell ⟨N + 1, 2, none⟩ (.int .i64 Q)) :=
  ⟨h.1.set hN _ _, set_same h.2 2 _⟩
theorem dvJ_9 {wr u : World} {N : Nat} {nm : ByteArray} {wt Q R : Int} {L : Nat → Bool} {x : Nat → Value} (h : dvJ wr N nm wt Q R L x u) (hN : wr.heap.size ≤ N + 1) : dvJ wr N nm wt Q R (updL L 9) x (u.setCell ⟨N + 1, 3, none⟩ (.int .i64 R)) :=
  ⟨h.1.set hN _ _, set_same h.2 3 _⟩
theorem size108 : (Tryz.prog.info? 108).map (·.size) = some 3 := by kernel_rfl
theorem size146 : (Tryz.prog.info? 146).map (·.size) = some 4 := by kernel_rfl
theorem size49 : (Tryz.prog.info? 49).map (·.size) = some 2 := by kernel_rfl
theorem info146 : (Tryz.prog.info? 146).map (fun i => (i.zero, i.size, i.bytes)) = some (some (.agg #[.string ByteArray.empty, .int .i64 0, .int .i64 0, .int .i64 0]), 4, 40) := by kernel_rfl
set_option maxRecDepth 100000 in
set_option maxHeartbeats 4000000 in
theorem newDivision_any (P : Int) (v : Value) (l : List Stk) (w : World) (hv : StakesAt w v l) (hP : 0 ≤ P ∧ P ≤ 10000000) (hw : ∀ s ∈ l, 0 ≤ s.weight ∧ s.weight ≤ 1000000) (hl : l.length ≤ 10) (hA : P = 0 ∨ 0 < sumW l) :
    Cal 70 #[.int .i64 P, v] w fun e w' => ∃ sv, e = .returned (.agg #[sv, .int .i64 (leftTo P (sumW l) l l.length), fnV 92]) ∧ Ext w w' ∧ Hid (Row w' 146 4 sv l.length (flatS (shrs P (sumW l) l) l.length)) := by
  have HWT := hid (fun (u : World) (hu : Ext w u) => weights_any v l u (hv.mono hu) (fun s hs => by have := hw s hs; omega) (by omega))
  have HLB := hid (fun k => leftTo_bound (A := sumW l) hP hA hw hl k)
  have HQB := hid (fun (s : Stk) (hs : s ∈ l) => quo_bound (A := sumW l) hP hA (hw s hs))
  have HSL := hid (fun (k : Nat) (h : k < l.length) => leftTo_succ P (sumW l) l h)
  have HSF := hid (fun (k : Nat) (h : k < l.length) => show flatS (shrs P (sumW l) l) (k + 1) = flatS (shrs P (sumW l) l) k ++ shrCells (shrOf P (sumW l) l[k]) by
    rw [flatS_succ _ (by simpa [shrs] using h)]; simp [shrs])
  have HA := hid hA
  have hPp : ∀ _ : 0 < P, 0 < sumW l := fun h => by omega
  have HPp := hid hPp
  have HL0 : Hid (leftTo P (sumW l) l 0 = P) := hid (by simp [leftTo])
  obtain ⟨a, cap, rfl, ⟨hcap, hlen⟩, hc⟩ := hv
  have HC := hid hc
  clear hc hw hA hPp
  gi_enter Tryz.func70, Tryz.ntmps70
  generalize hAA : sumW l = A at *
  clear hAA
  have hD0 : Ext w ((w.alloc (.cells #[.slice none 0 0, .int .i64 0, .nilFunc] 108)).alloc (.cells #[.slice none 0 0, .int .i64 P, fnV 92] 108)) := ((Ext.refl _).alloc _).alloc _
  have HD0 := hid hD0
  have HD1 := hid (two_new (w := w) (o1 := .cells #[.slice none 0 0, .int .i64 0, .nilFunc] 108) (o2 := .cells #[.slice none 0 0, .int .i64 P, fnV 92] 108))
  have HD2 : Hid (((w.alloc (.cells #[.slice none 0 0, .int .i64 0, .nilFunc] 108)).alloc (.cells #[.slice none 0 0, .int .i64 P, fnV 92] 108)).heap[w.heap.size + 1]? = some (.cells #[.slice none 0 0, .int .i64 P, fnV 92] 108 (0, 0))) := hid (by
    have := Ext.new (w := w.alloc (.cells #[.slice none 0 0, .int .i64 0, .nilFunc] 108)) (o := .cells #[.slice none 0 0, .int .i64 P, fnV 92] 108) (Ext.refl _); rwa [World.size_alloc] at this)
  clear hD0
  gi_wp2_with (first | (refine wpIn_store_fresh (fun _ => trivial) 108 (.tmp 5) (.tmp 12) rfl (W := w.alloc (.cells #[.slice none 0 0, .int .i64 0, .nilFunc] 108)) (c' := #[.slice none 0 0, .int .i64 P, fnV 92]) (by rw [World.size_alloc]; rfl) rfl rfl size108 rfl (by kernel_rfl) ?_) | (gi_at_call 48; ((with_reducible refine (HWT.out _ HD0.out).mono ?_); rintro e w1 ⟨rfl, hx1⟩)))
  have HJ : Hid (DvAt w P A l 0 w1) := hid ⟨HD0.out.trans hx1, hx1.block HD1.out, _, (by rw [HL0.out]; exact hx1.block HD2.out), Row.nil _ _ _, fun g h => by simp [Value.ownBlock] at h⟩
  clear hx1 HD0 HD1 HD2 HL0 HWT
  gi_loopw [8, 9, 10, 17] (fun u8 u9 u10 i wr => ∃ k : Nat, k ≤ l.length ∧ i = .int .i64 k ∧ Hid (DvAt w P A l k wr)) (fun _ _ _ i _ => l.length - (intOf i).toNat)
  case atStart => exact ⟨0, Nat.zero_le _, rfl, HJ⟩
  case round =>
    obtain ⟨k, hk, rfl, HI⟩ := hrel
    clear HJ
    by_cases hlt : k < l.length
    · obtain ⟨b, off, rfl, hbb, c0, c1⟩ := HC.out k hlt
      have HQ := hid (HQB.out l[k] (List.getElem_mem _))
      have HL1 := hid (HSL.out k hlt)
      have HF1 := hid (HSF.out k hlt)
      have HB1 := hid (HLB.out k)
      have HB2 := hid (HLB.out (k + 1))
      clear HQB HSL HSF HLB
      obtain ⟨hx, hb0, sv, hb1, hrow, hown⟩ := HI.out
      rw [← hx.cell (p := ⟨b, _, none⟩) hbb] at c0 c1
      generalize l[k] = s at *
      generalize hL2 : leftTo P A l (k + 1) = L2 at *
      have HL2 := hid hL2
      clear hL2
      generalize leftTo P A l k = L1 at *
      have HX := hid hx
      have HB0 := hid hb0
      have HBD := hid hb1
      have HROW := hid hrow
      have HOWN := hid hown
      have HLT := hid (lt_of_block hb1)
      clear HI hx hb0 hb1 hrow hown
      gi_upto_region 7 with fail
      have hx1 : Ext wr ((wr.alloc (.cells #[.string s.name, .int .i64 s.weight] 49)).alloc (.cells #[.string s.name, .int .i64 s.weight, .int .i64 0, .int .i64 0] 146)) := ((Ext.refl _).alloc _).alloc _
      have HS8 := hid (two_new (w := wr) (o1 := .cells #[.string s.name, .int .i64 s.weight] 49) (o2 := .cells #[.string s.name, .int .i64 s.weight, .int .i64 0, .int .i64 0] 146))
      have HS9 : Hid (((wr.alloc (.cells #[.string s.name, .int .i64 s.weight] 49)).alloc (.cells #[.string s.name, .int .i64 s.weight, .int .i64 0, .int .i64 0] 146)).heap[wr.heap.size + 1]? = some (.cells #[.string s.name, .int .i64 s.weight, .int .i64 0, .int .i64 0] 146 (0, 0))) := hid (by
        have := Ext.new (w := wr.alloc (.cells #[.string s.name, .int .i64 s.weight] 49)) (o := .cells #[.string s.name, .int .i64 s.weight, .int .i64 0, .int .i64 0] 146) (Ext.refl _); rwa [World.size_alloc] at this)
      have HXw := HX
      have HB0w := HB0
      have HBDw := HBD
      have HX1 := hid hx1
      have HX := hid (HX.out.trans hx1)
      have HB0 := hid (hx1.block HB0.out)
      have HBD := hid (hx1.block HBD.out)
      have HRW0 := HROW
      have HROW := hid (HROW.out.mono hx1)
      have hlt0 := HLT.out
      have HOLT : Hid (∀ g, sv.ownBlock = some g → g < wr.heap.size) := hid (fun g hg => by
        obtain ⟨_, h⟩ := HRW0.out
        rcases h with ⟨e, _⟩ | ⟨g', cap', cur, e, hg', _⟩
        · subst e; simp [Value.ownBlock] at hg
        · subst e; simp [Value.ownBlock] at hg; subst hg; exact lt_of_block hg')
      clear hx1
      generalize (wr.alloc (.cells #[.string s.name, .int .i64 s.weight] 49)).alloc (.cells #[.string s.name, .int .i64 s.weight, .int .i64 0, .int .i64 0] 146) = W1 at *
      generalize hN : wr.heap.size = N at *
      by_cases hP0 : 0 < P
      case' pos =>
        have hA0 := HPp.out hP0
        have hwr : wrap64 (P * s.weight) = P * s.weight := by unfold wrap64; have := HQ.out.1; omega
        have hAne : A ≠ 0 := by omega
        have HTD : Hid (IntKind.i64.wrap ((P * s.weight).tdiv A) = P * s.weight / A) := hid (by
          rw [Int.tdiv_eq_ediv_of_nonneg HQ.out.1.1, IntKind.wrap_i64]; have := HQ.out.2.1; omega)
        have HTM : Hid ((P * s.weight).tmod A = P * s.weight % A) := hid (Int.tmod_eq_emod_of_nonneg HQ.out.1.1)
        have HF1 : Hid (flatS (shrs P A l) (k + 1) = flatS (shrs P A l) k ++ shrCells ⟨s.name, s.weight, P * s.weight / A, P * s.weight % A⟩) := HF1
        have c8 := cell_of HS8.out
        gi_upto_region 9 with fail
        refine jj_own 10 [] (dvJ wr N s.name s.weight (P * s.weight / A) (P * s.weight % A)) (by kernel_rfl) (by kernel_rfl) ⟨HX1.out.trans (Ext.drawn _), HS9.out⟩ ?_
        simp only [List.take_succ_cons, List.take_zero, List.drop_succ_cons, List.drop_zero]
        apply jj_fun (by decide)
        · intro L x u hL hd hJ
          have HJ := hid hJ
          clear hJ hd hL
          go_simp
          exact ⟨rfl, HJ.out⟩
        simp only [Act.put, List.setIfInBounds_toArray, List.set_cons_succ, List.set_cons_zero]
        apply jj_fun (by decide)
        · intro L x u hL hd hJ
          have HJ := hid hJ
          clear hJ hd hL
          go_simp
          exact ⟨rfl, HJ.out⟩
        simp only [Act.put, List.setIfInBounds_toArray, List.set_cons_succ, List.set_cons_zero]
        refine jj_fun (v := .int .i64 (P * s.weight / A)) (by decide) ?_ ?_
        · intro L x u hL hd hJ
          have HJ := hid hJ
          clear hJ hd hL
          go_simp
          exact ⟨HTD.out, HJ.out⟩
        simp only [Act.put, List.setIfInBounds_toArray, List.set_cons_succ, List.set_cons_zero]
        apply jj_fun (by decide)
        · intro L x u hL hd hJ
          have HJ := hid hJ
          clear hJ hd hL
          go_simp
          exact ⟨rfl, HJ.out⟩
        simp only [Act.put, List.setIfInBounds_toArray, List.set_cons_succ, List.set_cons_zero]
        apply jj_fun (by decide)
        · intro L x u hL hd hJ
          have HJ := hid hJ
          clear hJ hd hL
          go_simp
          exact ⟨rfl, HJ.out⟩
        simp only [Act.put, List.setIfInBounds_toArray, List.set_cons_succ, List.set_cons_zero]
        refine jj_fun (v := .int .i64 (P * s.weight % A)) (by decide) ?_ ?_
        · intro L x u hL hd hJ
          have HJ := hid hJ
          clear hJ hd hL
          go_simp
          exact ⟨HTM.out, HJ.out⟩
        simp only [Act.put, List.setIfInBounds_toArray, List.set_cons_succ, List.set_cons_zero]
        apply jj_fun (by decide)
        · intro L x u hL hd hJ
          have HJ := hid hJ
          clear hJ hd hL
          go_simp
          exact ⟨rfl, HJ.out⟩
        simp only [Act.put, List.setIfInBounds_toArray, List.set_cons_succ, List.set_cons_zero]
        refine jj_fun (v := undef) (by decide) ?_ ?_
        · intro L x u hL hd hJ
          have HJ := hid (dvJ_7 hJ (by omega))
          have cb := cell_of hJ.2
          have fb := free_of hJ.2
          clear hJ hd hL
          go_simp
          exact HJ.out
        simp only [Act.put, List.setIfInBounds_toArray, List.set_cons_succ, List.set_cons_zero]
        apply jj_fun (by decide)
        · intro L x u hL hd hJ
          have HJ := hid hJ
          clear hJ hd hL
          go_simp
          exact ⟨rfl, HJ.out⟩
        simp only [Act.put, List.setIfInBounds_toArray, List.set_cons_succ, List.set_cons_zero]
        refine jj_fun (v := undef) (by decide) ?_ ?_
        · intro L x u hL hd hJ
          have HJ := hid (dvJ_9 hJ (by omega))
          have cb := cell_of hJ.2
          have fb := free_of hJ.2
          clear hJ hd hL
          go_simp
          exact HJ.out
        simp only [Act.put, List.setIfInBounds_toArray, List.set_cons_succ, List.set_cons_zero]
        refine jj_nil fun L x W2 hall hJ => ?_
        have hE : Ext wr W2 := hJ.1
        have hs9 := hJ.2
        rw [hall 7 (by omega), hall 9 (by omega)] at hs9
        simp only [if_true] at hs9
        clear hJ hall x
        have HX := hid (HXw.out.trans hE)
        have HB0 := hid (hE.block HB0w.out)
        have HBD := hid (hE.block HBDw.out)
        have HROW := hid (HRW0.out.mono hE)
        have HS9 := hid hs9
        clear hE hs9 c8 HS8 HX1
        generalize P * s.weight / A = Q at *
        generalize P * s.weight % A = R at *
        gi_upto_region 10 with fail
        clear hwr HTD HTM hlt0
      case' neg =>
        obtain rfl : P = 0 := by omega
        gi_upto_region 10 with fail
        obtain ⟨Q, hQ⟩ : ∃ Q, Q = (0 : Int) * s.weight / A := ⟨_, rfl⟩
        obtain ⟨R, hR⟩ : ∃ R, R = (0 : Int) * s.weight % A := ⟨_, rfl⟩
        rw [← hQ] at HL1 HQ
        have HS9 : Hid (W1.heap[N + 1]? = some (.cells #[.string s.name, .int .i64 s.weight, .int .i64 Q, .int .i64 R] 146 (0, 0))) := hid (by
          have e1 : Q = 0 := by rw [hQ]; simp
          have e2 : R = 0 := by rw [hR]; simp
          rw [e1, e2]; exact HS9.out)
        have HF1 : Hid (flatS (shrs 0 A l) (k + 1) = flatS (shrs 0 A l) k ++ shrCells ⟨s.name, s.weight, Q, R⟩) := hid (by rw [HF1.out, hQ, hR]; rfl)
        clear hQ hR HS8 hlt0
        rename World => W2
      all_goals
        have hlt0 := HLT.out
        have hwl : wrap64 (L1 - Q) = L2 := by have := HL1.out; have := HB2.out; unfold wrap64; omega
        have cD := cell_of HBD.out
        have fD := free_of HBD.out
        have c9 := cell_of HS9.out
        gi_upto_region 11 with fail
        have hx3 : Ext w (W2.setCell ⟨w.heap.size + 1, 1, none⟩ (.int .i64 L2)) := HX.out.set (by omega) _ _
        have hb03 : (W2.setCell ⟨w.heap.size + 1, 1, none⟩ (.int .i64 L2)).heap[w.heap.size]? = some (.cells #[.slice none 0 0, .int .i64 0, .nilFunc] 108 (0, 0)) := by rw [set_other (by omega)]; exact HB0.out
        have hbd3 : (W2.setCell ⟨w.heap.size + 1, 1, none⟩ (.int .i64 L2)).heap[w.heap.size + 1]? = some (.cells #[sv, .int .i64 L2, fnV 92] 108 (0, 0)) := set_same HBD.out 1 (.int .i64 L2)
        have hs93 : (W2.setCell ⟨w.heap.size + 1, 1, none⟩ (.int .i64 L2)).heap[N + 1]? = some (.cells #[.string s.name, .int .i64 s.weight, .int .i64 Q, .int .i64 R] 146 (0, 0)) := by rw [set_other (by omega)]; exact HS9.out
        have hrow3 := HROW.out.set (g := w.heap.size + 1) (fun e => by have := HOWN.out _ e; omega) 1 (.int .i64 L2)
        have HX := hid hx3
        have HB0 := hid hb03
        have HBD := hid hbd3
        have HROW := hid hrow3
        have HS9 := hid hs93
        clear hx3 hb03 hbd3 hrow3 hs93 cD fD c9 hwl
        generalize W2.setCell ⟨w.heap.size + 1, 1, none⟩ (.int .i64 L2) = W3 at *
        have cD := cell_of HBD.out
        have c9 := cell_of HS9.out
        obtain ⟨i0, hi0, hz0, hz1, hz2⟩ := info_parts info146
        have HZ := hid (And.intro hi0 (And.intro hz0 (And.intro hz1 hz2)))
        clear hi0 hz0 hz1 hz2
        have HRW := hid (HROW.out.mono ((Ext.refl W3).alloc (.cells #[.string s.name, .int .i64 s.weight, .int .i64 Q, .int .i64 R] 146)))
        have HBD2 := hid (((Ext.refl W3).alloc (.cells #[.string s.name, .int .i64 s.weight, .int .i64 Q, .int .i64 R] 146)).block HBD.out)
        have HNW : Hid (∀ j u, (shrCells ⟨s.name, s.weight, Q, R⟩)[j]? = some u → (W3.alloc (.cells #[.string s.name, .int .i64 s.weight, .int .i64 Q, .int .i64 R] 146)).cell? ((⟨W3.heap.size, 0, none⟩ : Addr).add j) = some u) := fun j u hj => by rw [Addr.add_mid, Nat.zero_add, new_cell _ _ rfl]; simpa [shrCells] using hj
        have hmax : k + 1 ≤ 1000000000 := by omega
        gi_wp2_with (refine wpIn_append_row (fun _ => trivial) rfl (.tmp 44) (.tmp 46) rfl Tryz.underlying105 HZ.out.1 HZ.out.2.1 HZ.out.2.2.1 HZ.out.2.2.2 (by simp [Value.cells]) (by omega) (v := sv) rfl HRW.out ⟨W3.heap.size, 0, none⟩ 1 rfl (shrCells ⟨s.name, s.weight, Q, R⟩) rfl HNW.out (fun u hu => by simp [shrCells] at hu; rcases hu with rfl | rfl | rfl | rfl <;> rfl) hmax (by omega) ?_; intro v' w' hrow' hgr' how'; obtain ⟨sa', sn', sc', rfl⟩ := hrow'.isSlice; have hbv' := grownBy_block hgr' HBD2.out (fun e => by have := HOWN.out _ e.symm; omega); have hcv' := cell_of hbv'; have hfv' := free_of hbv')
        have hsz : w.heap.size ≤ W3.heap.size := HX.out.size
        have hl3 := lt_of_block HBD.out
        have hbel : Ext w w' := Below.trans (HX.out.alloc _) ⟨hgr'.os, hgr'.tape, hgr'.output, hgr'.size, fun j hj => hgr'.block j (by simp; omega) (fun e => by have := HOWN.out j e.symm; omega)⟩
        have hb1' := grownBy_block hgr' (((Ext.refl W3).alloc _).block HB0.out) (fun e => by have := HOWN.out _ e.symm; omega)
        have hown' : ∀ g, (Value.slice sa' sn' sc').ownBlock = some g → w.heap.size + 1 < g := fun g hg => by
          rcases how' with e | e
          · exact HOWN.out g (by rw [← e]; exact hg)
          · rw [hg] at e; cases e; simp; omega
        go_roundw
        case rel =>
          refine ⟨k + 1, by omega, by go_num, hid ⟨hbel.set (by omega) _ _, by rw [set_other (by omega)]; exact hb1', _, by rw [HL2.out]; exact set_same hbv' 0 _, ?_, hown'⟩⟩
          rw [HF1.out]
          exact hrow'.set (fun e => by have := hown' _ e; omega) _ _
        case measure => simp [intOf]; omega
    · obtain rfl : k = l.length := by omega
      clear HQB HSL HSF HLB HC
      obtain ⟨hx, hb0, sv, hb1, hrow, hown⟩ := HI.out
      clear HI
      obtain ⟨ma, mc, rfl⟩ := hrow.isSliceN
      have HX := hid hx
      have HB0 := hid hb0
      have HBD := hid hb1
      have HROW := hid hrow
      have HOWN := hid hown
      have cD := cell_of hb1
      have fD := free_of hb1
      have c0 := cell_of hb0
      have f0 := free_of hb0
      clear hx hb0 hb1 hrow hown
      generalize hLL : leftTo P A l l.length = L at *
      have HLL := hid hLL
      clear hLL
      gi_wp2_with (refine wpIn_store_at 108 (.tmp 4) (.tmp 50) rfl (fun _ => trivial) (g := w.heap.size) (off := 0) rfl rfl HB0.out size108 (by simp) (by simp [Value.oneCell']) ?_; refine Hid.out ?_)
      have hk := setRow_heap wr w.heap.size _ #[.slice ma l.length mc, .int .i64 L, fnV 92] 108 (0, 0) HB0.out
      have hX := ext_setRow (g := w.heap.size) HX.out (by omega) #[.slice ma l.length mc, .int .i64 L, fnV 92]
      have hR : Row (wr.setRow w.heap.size #[.slice ma l.length mc, .int .i64 L, fnV 92]) 146 4 (.slice ma l.length mc) l.length (flatS (shrs P A l) l.length) := HROW.out.kept fun j o hj ho => by
        have := HOWN.out j hj
        rw [setRow_other wr w.heap.size j _ (by omega)]; exact ho
      refine hid ?_
      clear cD fD c0 f0 HX HB0 HBD HROW HOWN
      generalize wr.setRow w.heap.size #[.slice ma l.length mc, .int .i64 L, fnV 92] = WF at *
      have hc := cell_of hk
      gi_wp2
      exact bodyPost_ret (v := .agg #[.slice ma l.length mc, .int .i64 L, fnV 92]) (by simp [results, Tryz.results70, go_sem, hc]) rfl ⟨_, by rw [HLL.out], hX, hid hR⟩
end
end Go.Proofs.YtjocoadhalimjaaGreat
