/- The mirror's own parts: a cell turned; steps as a row; stores into a box. -/
import Derived.Test.YtlgcnjcbmihefaaYP
import Derived.Test.YtlgcnjcbmihefaaYF
import Derived.Test.YtlgcnjcbmihefaaXS
set_option linter.unusedSimpArgs false
set_option linter.unusedVariables false
namespace Go.Proofs.Ytlgcnjcbmihefaa
open Go Go.RowKit Go.Shelf

theorem set_same {w : World} {g : Nat} {cs : Array Value} {t : TypeId} (h : w.heap[g]? = some (.cells cs t (0, 0))) (o : Nat) (v : Value) : (w.setCell ⟨g, o, none⟩ v).heap[g]? = some (.cells (cs.setIfInBounds o v) t (0, 0)) := by
  simp [World.setCell, Array.getElem?_modify, h]
theorem set_other {w : World} {g k : Nat} (hk : k ≠ g) (o : Nat) (v : Value) : (w.setCell ⟨g, o, none⟩ v).heap[k]? = w.heap[k]? := by
  simp [World.setCell, Array.getElem?_modify, Ne.symm hk]
theorem Row.set {w : World} {T : TypeId} {sz : Nat} {x : Value} {n : Nat} {xs : List Value} (h : Row w T sz x n xs) {g : Nat} (hne : ∀ k, x.ownBlock = some k → k ≠ g) (o : Nat) (v : Value) : Row (w.setCell ⟨g, o, none⟩ v) T sz x n xs :=
  h.kept fun k ob hk ho => by rw [set_other (hne k hk)]; exact ho
theorem wpIn_store_whole {F : Fence} {n : Nat} {o : Oper} {a : Act} {w : World} {K : Act → World → Prop} {Q : Exit → Act → World → Prop} (ty : TypeId) (x y : Operand) (ho : o.op = .store ty x y) (hF : ∀ f, F.fn f) {g : Nat} (hx : a.eval x = .pointer (some ⟨g, 0, none⟩)) {t : TypeId} (cells : Array Value) {old : Array Value}
    (hy : a.eval y = .agg cells) (hg : w.heap[g]? = some (.cells old t (0, 0))) (hi : (Try.prog.info? ty).map (·.size) = some cells.size) (hold : old.size = cells.size) (h1 : cells.all (·.oneCell') = true) (h : K (a.put o.dst undef) (w.setRow g cells)) : o.wpIn F n Try.prog a w K Q := by
  have hl : (storeVar ty ⟨g, 0, none⟩ (.agg cells)).run Try.prog w = .ok () (w.setRow g cells) := run_storeVar_row w _ t ty _ _ hg hi hold h1
  refine ⟨fun f _ => hF f, ?_⟩
  rw [Oper.semAt_eq _ _ _ (by rw [ho]; intro c h; cases h)]
  unfold execOp
  simp only [ho, hx, hy, Instr.storeAt, Instr.sureAddr, Sem.run_bind, Sem.run_pure, Result.andThen_ok, hl]
  exact h

def flatS (ss : List Step) : List Value := ss.flatMap fun s => [.int .i64 s.east, .int .i64 s.north]
theorem flatS_app (a b : List Step) : flatS (a ++ b) = flatS a ++ flatS b := by unfold flatS; rw [List.flatMap_append]
theorem flatS_at : ∀ (ss : List Step) (i : Nat) (h : i < ss.length), (flatS ss)[i * 2]? = some (.int .i64 ss[i].east) ∧ (flatS ss)[i * 2 + 1]? = some (.int .i64 ss[i].north)
  | [], i, h => absurd h (by simp)
  | r :: ss, 0, _ => ⟨rfl, rfl⟩
  | r :: ss, i + 1, h => by
    have ih := flatS_at ss i (by simpa using h)
    have e : flatS (r :: ss) = .int .i64 r.east :: .int .i64 r.north :: flatS ss := rfl
    rw [e, show (i + 1) * 2 = i * 2 + 1 + 1 by omega]
    exact ih
theorem Row.steps {w : World} {v : Value} {ss : List Step} (h : Row w 70 2 v ss.length (flatS ss)) (hl : ss.length ≤ 1000000) : StepsAt w v ss := by
  obtain ⟨a, cap, rfl, hc⟩ := h.at (by decide)
  refine ⟨a, cap, rfl, by omega, fun i hi => ?_⟩
  obtain ⟨g, e, hg, hcell⟩ := hc i hi
  have hf := flatS_at ss i hi
  refine ⟨g, 0, e, hg, ?_, ?_⟩
  · rw [Nat.zero_add]; have := hcell 0 (by omega); rw [Nat.add_zero, hf.1] at this; exact this
  · rw [Nat.zero_add]; have := hcell 1 (by omega); rw [hf.2] at this; exact this
theorem mirLand_succ (D : SeaD) (c : Nat) : mirLand D (c + 1) = mirLand D c ++ (if D.land.contains (turnI D.wide c) then [c] else []) := by
  unfold mirLand
  rw [List.range_succ, List.filter_append]
  congr 1
  simp only [List.filter_cons, List.filter_nil]
theorem info70 : (Try.prog.info? 70).map (fun i => (i.zero, i.size, i.bytes)) = some (some (.agg #[.int .i64 0, .int .i64 0]), 2, 16) := by kernel_rfl

set_option maxRecDepth 100000 in
set_option maxHeartbeats 1000000 in
theorem turned_any (D : SeaD) (lv dv : Value) (c : Int) (w : World) (hw : 1 ≤ D.wide ∧ D.wide ≤ 10) (hc : 0 ≤ c ∧ c ≤ 1000) :
    Cal 43 #[seaVal D lv dv, .int .i64 c] w fun e w' => e = .returned (.int .i64 (turnI D.wide c)) ∧ Ext w w' := by
  unfold seaVal turnI
  have h1 := Int.emod_nonneg c (show D.wide ≠ 0 by omega)
  have h2 := Int.emod_lt_of_pos c (show 0 < D.wide by omega)
  gi_enter Try.func43, Try.ntmps43
  gi_wp2_with fail
  have hnb : (w.alloc (.cells #[.int .i64 D.wide, .int .i64 D.high, lv, .int .i64 D.hours, dv, .int .i64 D.speed] 25)).heap[w.heap.size]? = some (.cells #[.int .i64 D.wide, .int .i64 D.high, lv, .int .i64 D.hours, dv, .int .i64 D.speed] 25 (0, 0)) := Ext.new (Ext.refl _)
  have hx1 : Ext w (w.alloc (.cells #[.int .i64 D.wide, .int .i64 D.high, lv, .int .i64 D.hours, dv, .int .i64 D.speed] 25)) := (Ext.refl w).alloc _
  generalize w.alloc (.cells #[.int .i64 D.wide, .int .i64 D.high, lv, .int .i64 D.hours, dv, .int .i64 D.speed] 25) = w1 at *
  have HC := hid fun e : Later w1 => cell_of (Ext.block e.grown hnb)
  have HX := hid hx1
  clear hnb hx1
  refine quiet_wide 15 (by kernel_rfl) (by kernel_rfl) ?_
  simp only [List.take_succ_cons, List.take_zero, List.drop_succ_cons, List.drop_zero]
  have q1 := HC.out
  repeat (any_goals (first | go_big_quiet_step (fail) | quiet_step (fail)))
  refine wpQuiet_nil ?_
  rintro w5 ⟨⟨_, hx5⟩, rfl⟩
  clear q1 HC
  gi_wp2
  go_ret
  exact ⟨rfl, HX.out.trans hx5⟩
end Go.Proofs.Ytlgcnjcbmihefaa
