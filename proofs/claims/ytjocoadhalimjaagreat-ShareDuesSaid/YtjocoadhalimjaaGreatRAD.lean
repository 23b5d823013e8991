/- Which of two shares comes first. -/
import Derived.Test.YtjocoadhalimjaaGreatRAB
import Derived.Deep.MidRow
import Derived.Deep.WholeRow
set_option linter.unusedSimpArgs false
set_option linter.unusedVariables false
namespace Go.Proofs.YtjocoadhalimjaaGreat
section
open Go Go.RowKit Go.Shelf

/-- A share: a stake with what it gets and its rest. -/
structure Shr where
  name : ByteArray
  weight : Int
  pence : Int
  rest : Int
  deriving Inhabited
def shrV (s : Shr) : Value := .agg #[.string s.name, .int .i64 s.weight, .int .i64 s.pence, .int .i64 s.rest]
/-- The first number that is not 0. -/
def orL : List Int → Int
  | [] => 0
  | x :: l => if x = 0 then orL l else x
theorem orL_some : ∀ {xs : List Int} {k : Nat} (h : k < xs.length), (∀ j, j < k → xs.getD j 0 = 0) → xs[k] ≠ 0 → orL xs = xs[k]
  | x :: l, 0, _, _, hn => by simp only [List.getElem_cons_zero] at hn ⊢; rw [orL, if_neg hn]
  | x :: l, k + 1, h, h0, hn => by
    have hx : x = 0 := h0 0 (by omega)
    rw [orL, if_pos hx]
    exact orL_some (xs := l) (k := k) (by simpa using h) (fun j hj => by simpa using h0 (j + 1) (by omega)) (by simpa using hn)
theorem orL_none : ∀ {xs : List Int}, (∀ j, j < xs.length → xs.getD j 0 = 0) → orL xs = 0
  | [], _ => rfl
  | x :: l, h => by
    have hx : x = 0 := h 0 (by simp)
    rw [orL, if_pos hx]
    exact orL_none fun j hj => by simpa using h (j + 1) (by simpa using hj)
set_option maxHeartbeats 1000000 in
theorem or_any (v : Value) (xs : List Int) (w : World) (hv : IntsAt w v xs) :
    Cal 110 #[v] w fun e w' => e = .returned (.int .i64 (orL xs)) ∧ w = w' := by
  obtain ⟨a, cap, rfl, ⟨hcap, hlen⟩, hc⟩ := hv
  have HC := hid hc
  clear hc
  gi_enter Tryz.func110, Tryz.ntmps110
  gi_wp2
  gi_loop [5, 8, 10, 11, 12, 13, 14, 15, 16] (fun u5 i u10 u11 u12 u13 u14 u15 u16 => ∃ k : Nat, k ≤ xs.length ∧ i = .int .i64 k ∧ Hid (∀ j, j < k → xs.getD j 0 = 0)) (fun _ i _ _ _ _ _ _ _ => xs.length - (intOf i).toNat)
  case atStart => exact ⟨0, Nat.zero_le _, rfl, fun _ h => absurd h (by omega)⟩
  case round =>
    obtain ⟨k, hk, rfl, HG⟩ := hrel
    by_cases hlt : k < xs.length
    · obtain ⟨b, off, rfl, hbb, hck⟩ := HC.out k hlt
      by_cases hz : xs[k] = 0
      · have HU : Hid (∀ j, j < k + 1 → xs.getD j 0 = 0) := fun j hj => by
          by_cases hjk : j < k
          · exact HG.out j hjk
          · obtain rfl : j = k := by omega
            rw [getD_of hlt]; exact hz
        rw [hz] at hck
        clear HG hz
        gi_wp2
        go_round
        case rel => exact ⟨k + 1, by omega, by go_num, HU⟩
        case measure => simp [intOf]; omega
      · have HF : Hid (orL xs = xs[k]) := hid (orL_some hlt HG.out hz)
        clear HG
        generalize xs[k] = x at *
        gi_wp2
        go_ret
        exact ⟨by rw [HF.out]; rfl, rfl⟩
    · obtain rfl : k = xs.length := by omega
      have HT : Hid (orL xs = 0) := hid (orL_none HG.out)
      clear HG
      gi_wp2
      go_ret
      exact ⟨by rw [HT.out]; rfl, rfl⟩
def pI (l : List Int) (v : Value) (u : World) : Prop := IntsAt u v l
def nStab (ps : Preds) : Prop := ∀ i p, psAt ps i = some p → ∀ v u u', p v u → Ext u u' → p v u'
theorem nStab_nil : nStab [] := fun i p h => by cases h
theorem nStab_cons {k : Nat} {q : Value → World → Prop} {ps : Preds} (hq : ∀ v u u', q v u → Ext u u' → q v u') (h : nStab ps) : nStab ((k, q) :: ps) := fun i p hp v u u' hv hx => by
  unfold psAt at hp
  split at hp
  · cases hp; exact hq v u u' hv hx
  · exact h i p hp v u u' hv hx
theorem pI_s (l : List Int) : ∀ v u u', pI l v u → Ext u u' → pI l v u' := fun _ _ _ h k => h.mono k
theorem ints_two {W : World} {ty : TypeId} (a b : Int) {W' : World} (hx : Ext (W.alloc (.cells #[.int .i64 a, .int .i64 b] ty)) W') : pI [a, b] (.slice (some ⟨W.heap.size, 0, none⟩) 2 2) W' := by
  refine ⟨_, 2, rfl, by simp, fun i hi => ⟨W.heap.size, 0, rfl, Nat.lt_of_lt_of_le (by simp) hx.size, ?_⟩⟩
  have hc := cell_of (Ext.new hx)
  rw [hc]
  match i, hi with
  | 0, _ => rfl
  | 1, _ => rfl
/-- Who of two gets one of the pence first: below 0, the first one. -/
def restC (a b : Shr) : Int := orL [cmpI b.rest a.rest, cmpS a.name b.name]
set_option maxRecDepth 100000 in
set_option maxHeartbeats 1000000 in
theorem byRest_any (a b : Shr) (w : World) : Cal 92 #[shrV a, shrV b] w fun e w' => e = .returned (.int .i64 (restC a b)) ∧ Ext w w' := by
  unfold shrV restC
  gi_enter Tryz.func92, Tryz.ntmps92
  gi_wp2_with fail
  have hW : Ext w ((w.alloc (.cells #[.string a.name, .int .i64 a.weight, .int .i64 a.pence, .int .i64 a.rest] 146)).alloc (.cells #[.string b.name, .int .i64 b.weight, .int .i64 b.pence, .int .i64 b.rest] 146)) := ((Ext.refl _).alloc _).alloc _
  have HA := hid (two_new (w := w) (o1 := .cells #[.string a.name, .int .i64 a.weight, .int .i64 a.pence, .int .i64 a.rest] 146) (o2 := .cells #[.string b.name, .int .i64 b.weight, .int .i64 b.pence, .int .i64 b.rest] 146))
  have HB : Hid (((w.alloc (.cells #[.string a.name, .int .i64 a.weight, .int .i64 a.pence, .int .i64 a.rest] 146)).alloc (.cells #[.string b.name, .int .i64 b.weight, .int .i64 b.pence, .int .i64 b.rest] 146)).heap[w.heap.size + 1]? = some (.cells #[.string b.name, .int .i64 b.weight, .int .i64 b.pence, .int .i64 b.rest] 146 (0, 0))) := hid (by
    have := Ext.new (w := w.alloc (.cells #[.string a.name, .int .i64 a.weight, .int .i64 a.pence, .int .i64 a.rest] 146)) (o := .cells #[.string b.name, .int .i64 b.weight, .int .i64 b.pence, .int .i64 b.rest] 146) (Ext.refl _); rwa [World.size_alloc] at this)
  generalize (w.alloc (.cells #[.string a.name, .int .i64 a.weight, .int .i64 a.pence, .int .i64 a.rest] 146)).alloc (.cells #[.string b.name, .int .i64 b.weight, .int .i64 b.pence, .int .i64 b.rest] 146) = W at *
  refine lex_wide 14 [(12, pI [cmpI b.rest a.rest, cmpS a.name b.name])] (by kernel_rfl) (by kernel_rfl) (nStab_cons (pI_s _) nStab_nil) ?_
  simp only [List.take_succ_cons, List.take_zero, List.drop_succ_cons, List.drop_zero]
  apply lex_fun (rfl : psAt _ _ = none)
  · intro x u hR hf
    clear hR hf
    go_simp
    exact ⟨rfl, Ext.refl _⟩
  simp only [Act.put, List.setIfInBounds_toArray, List.set_cons_succ, List.set_cons_zero]
  apply lex_fun (rfl : psAt _ _ = none)
  · intro x u hR hf
    have c1 := cell_of (hR.block HB.out)
    clear hR hf
    go_simp
    exact ⟨rfl, Ext.refl _⟩
  simp only [Act.put, List.setIfInBounds_toArray, List.set_cons_succ, List.set_cons_zero]
  apply lex_fun (rfl : psAt _ _ = none)
  · intro x u hR hf
    clear hR hf
    go_simp
    exact ⟨rfl, Ext.refl _⟩
  simp only [Act.put, List.setIfInBounds_toArray, List.set_cons_succ, List.set_cons_zero]
  apply lex_fun (rfl : psAt _ _ = none)
  · intro x u hR hf
    have c0 := cell_of (hR.block HA.out)
    clear hR hf
    go_simp
    exact ⟨rfl, Ext.refl _⟩
  simp only [Act.put, List.setIfInBounds_toArray, List.set_cons_succ, List.set_cons_zero]
  refine lex_fun (v := .int .i64 (cmpI b.rest a.rest)) (rfl : psAt _ _ = none) ?_ ?_
  · intro x u hR hf
    have hcal := hid (cmpI_any b.rest a.rest u)
    clear hR hf
    go_simp
    exact hcal.out.mono fun e w'' ⟨he, hx'⟩ => ⟨_, he, rfl, by subst hx'; exact Ext.refl _⟩
  simp only [Act.put, List.setIfInBounds_toArray, List.set_cons_succ, List.set_cons_zero]
  apply lex_fun (rfl : psAt _ _ = none)
  · intro x u hR hf
    clear hR hf
    go_simp
    exact ⟨rfl, Ext.refl _⟩
  simp only [Act.put, List.setIfInBounds_toArray, List.set_cons_succ, List.set_cons_zero]
  apply lex_fun (rfl : psAt _ _ = none)
  · intro x u hR hf
    clear hR hf
    go_simp
    exact ⟨rfl, Ext.refl _⟩
  simp only [Act.put, List.setIfInBounds_toArray, List.set_cons_succ, List.set_cons_zero]
  apply lex_fun (rfl : psAt _ _ = none)
  · intro x u hR hf
    have c0 := cell_of (hR.block HA.out)
    clear hR hf
    go_simp
    exact ⟨rfl, Ext.refl _⟩
  simp only [Act.put, List.setIfInBounds_toArray, List.set_cons_succ, List.set_cons_zero]
  apply lex_fun (rfl : psAt _ _ = none)
  · intro x u hR hf
    clear hR hf
    go_simp
    exact ⟨rfl, Ext.refl _⟩
  simp only [Act.put, List.setIfInBounds_toArray, List.set_cons_succ, List.set_cons_zero]
  apply lex_fun (rfl : psAt _ _ = none)
  · intro x u hR hf
    clear hR hf
    go_simp
    exact ⟨rfl, Ext.refl _⟩
  simp only [Act.put, List.setIfInBounds_toArray, List.set_cons_succ, List.set_cons_zero]
  apply lex_fun (rfl : psAt _ _ = none)
  · intro x u hR hf
    have c1 := cell_of (hR.block HB.out)
    clear hR hf
    go_simp
    exact ⟨rfl, Ext.refl _⟩
  simp only [Act.put, List.setIfInBounds_toArray, List.set_cons_succ, List.set_cons_zero]
  refine lex_fun (v := .int .i64 (cmpS a.name b.name)) (rfl : psAt _ _ = none) ?_ ?_
  · intro x u hR hf
    have hcal := hid (cmpS_any a.name b.name u)
    clear hR hf
    go_simp
    exact hcal.out.mono fun e w'' ⟨he, hx'⟩ => ⟨_, he, rfl, by subst hx'; exact Ext.refl _⟩
  simp only [Act.put, List.setIfInBounds_toArray, List.set_cons_succ, List.set_cons_zero]
  refine lex_pred (p := pI [cmpI b.rest a.rest, cmpS a.name b.name]) rfl ?_ ?_
  · intro x u hR hf
    clear hR hf
    go_simp
    exact ⟨ints_two _ _ (Ext.refl _), (Ext.refl _).alloc _⟩
  simp only [Act.put, List.setIfInBounds_toArray, List.set_cons_succ, List.set_cons_zero]
  refine lex_fun (v := .int .i64 (orL [cmpI b.rest a.rest, cmpS a.name b.name])) (rfl : psAt _ _ = none) ?_ ?_
  · intro x u hR hf
    have h12 := (hf.1 rfl : pI _ (x 12) u)
    have hcal := hid (or_any _ _ u h12)
    clear hR hf
    go_simp
    exact hcal.out.mono fun e w'' ⟨he, hx'⟩ => ⟨_, he, rfl, by subst hx'; exact Ext.refl _⟩
  simp only [Act.put, List.setIfInBounds_toArray, List.set_cons_succ, List.set_cons_zero]
  refine lex_nil fun x w6 hE hfacts => ?_
  clear hfacts
  generalize x 12 = x12
  clear x
  gi_wp2
  go_ret
  exact ⟨rfl, hW.trans hE⟩
end
section
open Go Go.RowKit Go.Shelf
theorem set_same {w : World} {g : Nat} {cs : Array Value} {t : TypeId} (h : w.heap[g]? = some (.cells cs t (0, 0))) (o : Nat) (v : Value) : (w.setCell ⟨g, o, none⟩ v).heap[g]? = some (.cells (cs.setIfInBounds o v) t (0, 0)) := heap_setCell_same w g o cs t v h

theorem set_other {w : World} {g k : Nat} (hk : k ≠ g) (o : Nat) (v : Value) : (w.setCell ⟨g, o, none⟩ v).heap[k]? = w.heap[k]? := heap_setCell_other w ⟨g, o, none⟩ k v hk

theorem alloc_at (w : World) (o : Obj) (k : Nat) : (w.alloc o).heap[k]? = if k = w.heap.size then some o else w.heap[k]? := by
  show (w.heap.push o)[k]? = _
  rw [Array.getElem?_push]

theorem grownBy_block {u v : World} {ob : Option Nat} (h : u.grownBy v ob) {k : Nat} {o : Obj} (ho : u.heap[k]? = some o) (hne : some k ≠ ob) : v.heap[k]? = some o := by
  rw [h.block k (lt_of_block ho) hne]; exact ho

theorem gives_append {F : Fence} {n : Nat} {P : Program} {R : World → World → Prop} {o : Oper} {a : Act} {w w' : World} {V : Value → World → Prop} {v xv v' : Value} (s x : Operand) (t : TypeId)
    (ho : o.op = .call { callee := .builtin .append, args := #[s, x], argTypes := #[t, t] }) (hs : a.eval s = v) (hx : a.eval x = xv)
    (hr : (Builtin.append_ #[t, t] o.type #[v, xv]).run P w = .ok v' w') (h : V v' w' ∧ R w w') : gives F n P R o a w V := by
  unfold gives
  rw [Oper.semAt_eq _ _ _ (by rw [ho]; intro c h; cases h)]
  unfold execOp
  simp only [ho, resolve, invoke, builtin, Sem.run_bind, Sem.run_pure, Result.andThen_ok, List.map_toArray, List.map_cons, List.map_nil, hs, hx, hr]
  exact h

theorem below_put {n bm : Nat} {w W : World} (h : Below n w W) (hb : n ≤ bm) (o : Obj) : Below n w (W.putObj bm o) :=
  ⟨h.os, h.tape, h.output, by simpa using h.size, fun k hk => by rw [World.putObj_heap_other (by omega)]; exact h.block k hk⟩

theorem Row.isSlice {w : World} {T : TypeId} {sz : Nat} {v : Value} {n : Nat} {xs : List Value} (h : Row w T sz v n xs) : ∃ a m c, v = .slice a m c := by
  rcases h.2 with ⟨rfl, _⟩ | ⟨g, cap, cur, rfl, _⟩
  · exact ⟨_, _, _, rfl⟩
  · exact ⟨_, _, _, rfl⟩

theorem Row.isSliceN {w : World} {T : TypeId} {sz : Nat} {v : Value} {n : Nat} {xs : List Value} (h : Row w T sz v n xs) : ∃ a c, v = .slice a n c := by
  rcases h.2 with ⟨rfl, rfl⟩ | ⟨g, cap, cur, rfl, _⟩
  · exact ⟨_, _, rfl⟩
  · exact ⟨_, _, rfl⟩

theorem Row.isCells {w : World} {T : TypeId} {sz : Nat} {v : Value} {n : Nat} {xs : List Value} (h : Row w T sz v n xs) {j : Nat} {o : Obj} (hj : v.ownBlock = some j) (ho : w.heap[j]? = some o) : o.isCells = true := by
  rcases h.2 with ⟨rfl, _⟩ | ⟨g, cap, cur, rfl, hg, _⟩
  · simp [Value.ownBlock] at hj
  · simp [Value.ownBlock] at hj; subst hj; rw [hg] at ho; cases ho; rfl

theorem Row.set {w : World} {T : TypeId} {sz : Nat} {v : Value} {n : Nat} {xs : List Value} (h : Row w T sz v n xs) {g : Nat} (hne : v.ownBlock ≠ some g) (o : Nat) (x : Value) : Row (w.setCell ⟨g, o, none⟩ x) T sz v n xs :=
  h.kept fun k ob hk ho => by rw [set_other (fun e => hne (by rw [hk, e]))]; exact ho

theorem wpIn_append_row {F : Fence} {n0 : Nat} (hF : ∀ f, F.fn f) (hn : F.depth = none) {o : Oper} {act : Act} {w : World} {K : Act → World → Prop} {Q : Exit → Act → World → Prop} (s x : Operand) {t T : TypeId} {sz bytes : Nat} {i : TypeInfo} {z : Value}
    (ho : o.op = .call { callee := .builtin .append, args := #[s, x], argTypes := #[t, t] })
    (ht : Tryz.prog.underlying t = some (.slice T)) (hi : Tryz.prog.info? T = some i) (hz : i.zero = some z) (hs : i.size = sz) (hby : i.bytes = bytes) (hzs : z.cells.size = sz) (hsz : 0 < sz)
    {v : Value} {n : Nat} {xs : List Value} (hv : act.eval s = v) (h : Row w T sz v n xs) (a : Addr) (c : Nat) (hx : act.eval x = .slice (some a) 1 c) (news : List Value) (hl : news.length = sz) (hnews : ∀ j u, news[j]? = some u → w.cell? (a.add j) = some u) (h1 : ∀ u ∈ news, u.oneCell' = true)
    (h63 : n + 1 ≤ 1000000000) (hbytes : bytes ≤ 1000)
    (hK : ∀ v' w', Row w' T sz v' (n + 1) (xs ++ news) → w.grownBy w' v.ownBlock → (v'.ownBlock = v.ownBlock ∨ v'.ownBlock = some w.heap.size) → K (act.put o.dst v') w') : o.wpIn F n0 Tryz.prog act w K Q := by
  obtain ⟨v', w', hrun, hrow, hgr, how, _⟩ := append_row (ty := o.type) ht hi hz hs hby hzs hsz h a c news hl hnews h1 h63 hbytes
  exact wpIn_of_gives (R := fun u u' => u = w → u' = w' ) (V := fun u u' => u = v' ∧ u' = w') hF hn (gives_append s x t ho hv hx hrun ⟨⟨rfl, rfl⟩, fun _ => rfl⟩) fun u u' hu _ => by
    rw [hu.1, hu.2]; exact hK v' w' hrow hgr how

theorem flat_get {sz : Nat} (f : Nat → List Value) (hf : ∀ i, (f i).length = sz) : ∀ k, ((List.range k).flatMap f).length = k * sz ∧ ∀ i j, i < k → j < sz → ((List.range k).flatMap f)[i * sz + j]? = (f i)[j]? := by
  intro k
  induction k with
  | zero => exact ⟨by simp, fun i j h => absurd h (by omega)⟩
  | succ k ih =>
    rw [List.range_succ, List.flatMap_append]
    refine ⟨by rw [List.length_append, ih.1]; simp [hf, Nat.add_mul], fun i j hi hj => ?_⟩
    rcases Nat.lt_or_ge i k with h | h
    · have hm : (i + 1) * sz ≤ k * sz := Nat.mul_le_mul_right _ h
      rw [Nat.add_mul, Nat.one_mul] at hm
      rw [List.getElem?_append_left (by rw [ih.1]; omega)]
      exact ih.2 i j h hj
    · obtain rfl : i = k := by omega
      rw [List.getElem?_append_right (by rw [ih.1]; omega), ih.1]
      simp

theorem wpIn_store_fresh {F : Fence} {n : Nat} {o : Oper} {a : Act} {w W : World} {K : Act → World → Prop} {Q : Exit → Act → World → Prop} (hF : ∀ f, F.fn f) (ty : TypeId) (x y : Operand) (ho : o.op = .store ty x y) {c c' : Array Value}
    (hx : a.eval x = .pointer (some ⟨W.heap.size, 0, none⟩)) (hy : a.eval y = .agg c') (hw : w = W.alloc (.cells c ty)) (hi : (Tryz.prog.info? ty).map (·.size) = some c'.size) (hs : c.size = c'.size) (h1 : c'.all (·.oneCell') = true)
    (h : K (a.put o.dst undef) (W.alloc (.cells c' ty))) : o.wpIn F n Tryz.prog a w K Q := by
  subst hw
  have hr := run_storeAt_new (P := Tryz.prog) W ty c c' hi hs h1
  refine ⟨fun f _ => hF f, ?_⟩
  rw [Oper.semAt_eq _ _ _ (by rw [ho]; intro c h; cases h)]
  unfold execOp
  simp only [ho, hx, hy, Sem.run_bind, Sem.run_pure, Result.andThen_ok, hr]
  exact h

theorem wpIn_append_run {F : Fence} {n0 : Nat} (hF : ∀ f, F.fn f) (hn : F.depth = none) {o : Oper} {act : Act} {w w' : World} {K : Act → World → Prop} {Q : Exit → Act → World → Prop} (s x : Operand) (t : TypeId)
    (ho : o.op = .call { callee := .builtin .append, args := #[s, x], argTypes := #[t, t] }) {v xv v' : Value} (hv : act.eval s = v) (hx : act.eval x = xv)
    (hrun : (Builtin.append_ #[t, t] o.type #[v, xv]).run Tryz.prog w = .ok v' w') (hK : K (act.put o.dst v') w') : o.wpIn F n0 Tryz.prog act w K Q :=
  wpIn_of_gives (R := fun u u' => u = w → u' = w' ) (V := fun u u' => u = v' ∧ u' = w') hF hn (gives_append s x t ho hv hx hrun ⟨⟨rfl, rfl⟩, fun _ => rfl⟩) fun u u' hu _ => by
    rw [hu.1, hu.2]; exact hK

/-- One element is appended to a slice that has no room. -/
theorem append_full {w : World} {t ty T : TypeId} {sz bytes : Nat} {i : TypeInfo} {z : Value} (ht : Tryz.prog.underlying t = some (.slice T)) (hi : Tryz.prog.info? T = some i) (hz : i.zero = some z) (hs : i.size = sz) (hby : i.bytes = bytes) (hzs : z.cells.size = sz) (hsz : 0 < sz)
    {sa : Option Addr} {n : Nat} {xs : List Value} (hxl : xs.length = n * sz) (hnil : sa = none → n = 0) (hold : ∀ p, sa = some p → ∀ j u, xs[j]? = some u → w.cell? (p.add j) = some u) (a : Addr) (c : Nat) (news : List Value) (hl : news.length = sz) (hnews : ∀ j u, news[j]? = some u → w.cell? (a.add j) = some u)
    (h63 : n + 1 ≤ 1000000000) (hbytes : bytes ≤ 1000) :
    ∃ v' w', (Builtin.append_ #[t, t] ty #[.slice sa n n, .slice (some a) 1 c]).run Tryz.prog w = .ok v' w' ∧ Row w' T sz v' (n + 1) (xs ++ news) ∧ Ext w w' ∧ v'.ownBlock = some w.heap.size := by
  subst hs
  subst hby
  have hlen : (xs ++ news).length = (n + 1) * i.size := by rw [List.length_append, hxl, hl, Nat.add_mul, Nat.one_mul]
  have hb2 : (n + 1) * i.bytes ≤ 1000000000 * 1000 := Nat.mul_le_mul h63 hbytes
  have hl1 : news.length = 1 * i.size := by rw [hl, Nat.one_mul]
  have hmax : n + 1 ≤ maxLen := by unfold maxLen; omega
  have grown : ∀ (old : Nat), ∃ w', w' = (w.drew.alloc (.cells (xs.toArray ++ news.toArray ++ Builtin.zeroCells z.cells (grownCap w (n + 1) old T - (n + 1))) T)) ∧
      Row w' T i.size (.slice (some ⟨w.heap.size, 0, none⟩) (n + 1) (grownCap w (n + 1) old T)) (n + 1) (xs ++ news) ∧ Ext w w' := by
    intro old
    have hge := grownCap_ge w (n + 1) old T
    refine ⟨_, rfl, ⟨hlen, .inr ⟨w.heap.size, _, _, rfl, heap_alloc_new w.drew _, hge, grownCap_le_maxLen w (n + 1) old T hmax, ?_, ?_⟩⟩, ?_⟩
    · simp only [Array.size_append, List.size_toArray, size_zeroCells, hzs, hxl, hl, Nat.sub_mul]
      have h2 : (n + 1) * i.size ≤ grownCap w (n + 1) old T * i.size := Nat.mul_le_mul_right _ hge
      rw [Nat.add_mul, Nat.one_mul] at h2 ⊢
      omega
    · simp only [Array.toList_append]
      rw [← hlen]
      exact List.take_left
    · exact (Ext.drawn w).alloc _
  cases sa with
  | none =>
    obtain rfl := hnil rfl
    have hx : xs = [] := List.eq_nil_of_length_eq_zero (by simpa using hxl)
    subst hx
    have hr := run_append_nil (P := Tryz.prog) w t ty T i z ht hi hz a 1 c news hl1 hnews (by omega) (by omega) (by omega)
    obtain ⟨w', hw', hrow, hgr⟩ := grown 0
    simp only [Nat.zero_add, List.nil_append, Array.empty_append] at hrow hgr hw' ⊢
    rw [← hw'] at hr
    exact ⟨_, _, hr, hrow, hgr, rfl⟩
  | some p =>
    have hr := run_append_grow (P := Tryz.prog) w t ty T i z ht hi hz p n n xs hxl (hold p rfl) a 1 c news hl1 hnews (by omega) (by omega) (growslice_fits (by omega) (by omega))
    obtain ⟨w', hw', hrow, hgr⟩ := grown n
    rw [← hw'] at hr
    exact ⟨_, _, hr, hrow, hgr, rfl⟩

theorem wpIn_append_at {F : Fence} {n0 : Nat} (hF : ∀ f, F.fn f) (hn : F.depth = none) {o : Oper} {act : Act} {w w' : World} {K : Act → World → Prop} {Q : Exit → Act → World → Prop} (W : World) (s x : Operand) (t : TypeId)
    (ho : o.op = .call { callee := .builtin .append, args := #[s, x], argTypes := #[t, t] }) (hw : w = W) {v xv v' : Value} {ty : TypeId} (hrun : (Builtin.append_ #[t, t] ty #[v, xv]).run Tryz.prog W = .ok v' w') (hty : o.type = ty) (hv : act.eval s = v) (hx : act.eval x = xv)
    (hK : K (act.put o.dst v') w') : o.wpIn F n0 Tryz.prog act w K Q := by
  subst hw
  subst hty
  exact wpIn_append_run hF hn s x t ho hv hx hrun hK

theorem wpIn_store_at {F : Fence} {n : Nat} {o : Oper} {a : Act} {w : World} {K : Act → World → Prop} {Q : Exit → Act → World → Prop} (ty : TypeId) (x y : Operand) (ho : o.op = .store ty x y) (hF : ∀ f, F.fn f) {g off : Nat} (hx : a.eval x = .pointer (some ⟨g, off, none⟩)) {t : TypeId} {cells cur : Array Value}
    (hy : a.eval y = .agg cells) (hg : w.heap[g]? = some (.cells cur t (0, 0))) (hi : (Tryz.prog.info? ty).map (·.size) = some cells.size) (hl : off + cells.size ≤ cur.size) (h1 : cells.all (·.oneCell') = true)
    (h : K (a.put o.dst undef) (w.setRow g (cur.toList.take off ++ cells.toList ++ cur.toList.drop (off + cells.size)).toArray)) : o.wpIn F n Tryz.prog a w K Q := by
  have hl : (storeVar ty ⟨g, off, none⟩ (.agg cells)).run Tryz.prog w = .ok () (w.setRow g (cur.toList.take off ++ cells.toList ++ cur.toList.drop (off + cells.size)).toArray) := by
    have := run_storeCells_at (P := Tryz.prog) g off t cells.toList 0 cur w hg (by simpa using hl) (fun v hv => (Array.all_eq_true_iff_forall_mem.1 h1) v (by simpa using hv))
    cases hq : Tryz.prog.info? ty with
    | none => simp [hq] at hi
    | some i =>
      have hs : cells.size = i.size := by simp [hq] at hi; omega
      simp only [Nat.add_zero, Array.length_toList] at this
      simp [storeVar, sizeOf, typeInfo, hq, Value.cells, hs, this]
  refine ⟨fun f _ => hF f, ?_⟩
  rw [Oper.semAt_eq _ _ _ (by rw [ho]; intro c h; cases h)]
  unfold execOp
  simp only [ho, hx, hy, Instr.storeAt, Instr.sureAddr, Sem.run_bind, Sem.run_pure, Result.andThen_ok, hl]
  exact h

theorem ext_setRow {w0 w : World} {g : Nat} (hx : Ext w0 w) (hg : w0.heap.size ≤ g) (c : Array Value) : Ext w0 (w.setRow g c) :=
  Below.trans hx ⟨rfl, rfl, rfl, by simp, fun j hj => setRow_other w g j c (by have := hx.size; omega)⟩
end
end Go.Proofs.YtjocoadhalimjaaGreat
