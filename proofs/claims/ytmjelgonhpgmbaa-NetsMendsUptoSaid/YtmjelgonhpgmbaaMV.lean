/- The chapter's fleets and truths. -/
import Derived.Test.YtmjelgonhpgmbaaMS
import Derived.Test.YtmjelgonhpgmbaaMR
set_option linter.unusedSimpArgs false
set_option linter.unusedVariables false
namespace Go.Proofs.Ytmjelgonhpgmbaa
open Go Go.RowKit Go.Shelf

def qCells (T : TypeId) (cs : Array Value) (n k : Nat) (v : Value) (u : World) : Prop := ∃ g, v = .slice (some ⟨g, 0, none⟩) k k ∧ u.heap[g]? = some (.cells cs T (0, 0)) ∧ n ≤ g
theorem qCells_s (T : TypeId) (cs : Array Value) (n k : Nat) : ∀ v u u', qCells T cs n k v u → Ext u u' → qCells T cs n k v u' := fun _ _ _ ⟨g, h1, h2, h3⟩ hx => ⟨g, h1, hx.block h2, h3⟩
def eastC : Array Value := #[.int .i64 10, .int .i64 20, .int .i64 10, .int .i64 20, .int .i64 10, .int .i64 20]
def northC : Array Value := #[.int .i64 0, .int .i64 0, .int .i64 0, .int .i64 0, .int .i64 0, .int .i64 0]
def shotC : Array Value := #[.int .i64 0, .int .i64 0, .int .i64 100, .int .i64 1, .int .i64 0, .int .i64 3, .int .i64 0, .int .i64 0, .int .i64 0, .int .i64 0, .int .i64 25, .int .i64 0, .int .i64 100, .int .i64 1, .int .i64 1, .int .i64 3, .int .i64 0, .int .i64 0, .int .i64 0, .int .i64 0]
/-- A fleet of three hours and two nets in memory of its own. -/
def qFleet (ec nc sc : Array Value) (n : Nat) (v : Value) (u : World) : Prop := ∃ b1 b2 b3, v = .agg #[.slice (some ⟨b1, 0, none⟩) 3 3, .slice (some ⟨b2, 0, none⟩) 3 3, .int .i64 5, .slice (some ⟨b3, 0, none⟩) 2 2] ∧ u.heap[b1]? = some (.cells ec 56 (0, 0)) ∧ u.heap[b2]? = some (.cells nc 56 (0, 0)) ∧ u.heap[b3]? = some (.cells sc 58 (0, 0)) ∧ n ≤ b1 ∧ n ≤ b2 ∧ n ≤ b3
theorem qFleet_s (ec nc sc : Array Value) (n : Nat) : ∀ v u u', qFleet ec nc sc n v u → Ext u u' → qFleet ec nc sc n v u' := fun _ _ _ ⟨b1, b2, b3, h, h1, h2, h3, h4⟩ hx => ⟨b1, b2, b3, h, hx.block h1, hx.block h2, hx.block h3, h4⟩
theorem zero40 : (Try.prog.info? 40).map (fun i => (i.zero, i.size)) = some (some (.agg #[.slice none 0 0, .slice none 0 0, .int .i64 0, .slice none 0 0]), 4) := by kernel_rfl
set_option maxRecDepth 100000 in
set_option maxHeartbeats 4000000 in
theorem fleet_any (w : World) : Cal 40 #[] w fun e w' => ∃ v, e = .returned v ∧ Ext w w' ∧ qFleet eastC northC shotC w.heap.size v w' := by
  gi_enter Try.func40, Try.ntmps40
  gi_upto_region 1 with fail
  have hx0 : Ext w (w.alloc (.cells #[.slice none 0 0, .slice none 0 0, .int .i64 0, .slice none 0 0] 40)) := (Ext.refl _).alloc _
  have hb0 : (w.alloc (.cells #[.slice none 0 0, .slice none 0 0, .int .i64 0, .slice none 0 0] 40)).heap[w.heap.size]? = some (.cells #[.slice none 0 0, .slice none 0 0, .int .i64 0, .slice none 0 0] 40 (0, 0)) := Ext.new (Ext.refl _)
  generalize w.alloc (.cells #[.slice none 0 0, .slice none 0 0, .int .i64 0, .slice none 0 0] 40) = w5 at *
  have HX := hid hx0
  have HB := hid hb0
  have HLT := hid (lt_of_block hb0)
  clear hx0 hb0
  refine lex_wide 10 [(3, qCells 56 eastC w5.heap.size 3), (4, qCells 56 northC w5.heap.size 3), (8, qCells 58 shotC w5.heap.size 2), (9, qFleet eastC northC shotC w5.heap.size)] (by kernel_rfl) (by kernel_rfl) (nStab_cons (qCells_s _ _ _ _) (nStab_cons (qCells_s _ _ _ _) (nStab_cons (qCells_s _ _ _ _) (nStab_cons (qFleet_s _ _ _ _) nStab_nil)))) ?_
  simp only [List.take_succ_cons, List.take_zero, List.drop_succ_cons, List.drop_zero]
  refine lex_fun (v := .agg #[.int .i64 10, .int .i64 20]) (rfl : psAt _ _ = none) ?_ ?_
  · intro x u hR hf
    have hcal := hid (to_any 10 20 u)
    clear hR hf
    go_simp
    exact hcal.out.mono fun e w'' ⟨he, hx'⟩ => ⟨_, he, rfl, hx'⟩
  simp only [Act.put, List.setIfInBounds_toArray, List.set_cons_succ, List.set_cons_zero]
  refine lex_fun (v := .agg #[.int .i64 10, .int .i64 20]) (rfl : psAt _ _ = none) ?_ ?_
  · intro x u hR hf
    have hcal := hid (to_any 10 20 u)
    clear hR hf
    go_simp
    exact hcal.out.mono fun e w'' ⟨he, hx'⟩ => ⟨_, he, rfl, hx'⟩
  simp only [Act.put, List.setIfInBounds_toArray, List.set_cons_succ, List.set_cons_zero]
  refine lex_fun (v := .agg #[.int .i64 10, .int .i64 20]) (rfl : psAt _ _ = none) ?_ ?_
  · intro x u hR hf
    have hcal := hid (to_any 10 20 u)
    clear hR hf
    go_simp
    exact hcal.out.mono fun e w'' ⟨he, hx'⟩ => ⟨_, he, rfl, hx'⟩
  simp only [Act.put, List.setIfInBounds_toArray, List.set_cons_succ, List.set_cons_zero]
  refine lex_pred (p := qCells 56 eastC w5.heap.size 3) rfl ?_ ?_
  · intro x u hR hf
    have hn := hR.size
    clear hR hf
    go_simp
    exact ⟨⟨_, rfl, Ext.new (Ext.refl _), hn⟩, (Ext.refl _).alloc _⟩
  simp only [Act.put, List.setIfInBounds_toArray, List.set_cons_succ, List.set_cons_zero]
  refine lex_pred (p := qCells 56 northC w5.heap.size 3) rfl ?_ ?_
  · intro x u hR hf
    have hn := hR.size
    clear hR hf
    go_simp
    exact ⟨⟨_, rfl, (Ext.new (Ext.refl _)).trans (congrArg (fun c => some (Obj.cells c 56 (0, 0))) (by kernel_rfl)), hn⟩, (Ext.refl _).alloc _⟩
  simp only [Act.put, List.setIfInBounds_toArray, List.set_cons_succ, List.set_cons_zero]
  apply lex_fun (rfl : psAt _ _ = none)
  · intro x u hR hf
    clear hR hf
    go_simp
    exact ⟨rfl, Ext.refl _⟩
  simp only [Act.put, List.setIfInBounds_toArray, List.set_cons_succ, List.set_cons_zero]
  refine lex_fun (v := .agg #[.int .i64 25, .int .i64 0]) (rfl : psAt _ _ = none) ?_ ?_
  · intro x u hR hf
    have hcal := hid (at_any 25 0 u)
    clear hR hf
    go_simp
    exact hcal.out.mono fun e w'' ⟨he, hx'⟩ => ⟨_, he, rfl, hx'⟩
  simp only [Act.put, List.setIfInBounds_toArray, List.set_cons_succ, List.set_cons_zero]
  apply lex_fun (rfl : psAt _ _ = none)
  · intro x u hR hf
    clear hR hf
    go_simp
    exact ⟨rfl, Ext.refl _⟩
  simp only [Act.put, List.setIfInBounds_toArray, List.set_cons_succ, List.set_cons_zero]
  refine lex_pred (p := qCells 58 shotC w5.heap.size 2) rfl ?_ ?_
  · intro x u hR hf
    have hn := hR.size
    clear hR hf
    go_simp
    exact ⟨⟨_, rfl, Ext.new (Ext.refl _), hn⟩, (Ext.refl _).alloc _⟩
  simp only [Act.put, List.setIfInBounds_toArray, List.set_cons_succ, List.set_cons_zero]
  refine lex_pred (p := qFleet eastC northC shotC w5.heap.size) rfl ?_ ?_
  · intro x u hR hf
    have h3 : qCells 56 eastC w5.heap.size 3 (x 3) u := by first | exact hf.1 rfl | exact hf.2.1 rfl | exact hf.2.2.1 rfl
    have h4 : qCells 56 northC w5.heap.size 3 (x 4) u := by first | exact hf.1 rfl | exact hf.2.1 rfl | exact hf.2.2.1 rfl
    have h8 : qCells 58 shotC w5.heap.size 2 (x 8) u := by first | exact hf.1 rfl | exact hf.2.1 rfl | exact hf.2.2.1 rfl
    clear hR hf
    obtain ⟨b1, e1, k1, n1⟩ := h3
    obtain ⟨b2, e2, k2, n2⟩ := h4
    obtain ⟨b3, e3, k3, n3⟩ := h8
    rw [e1, e2, e3]
    clear e1 e2 e3
    have HK := hid (And.intro k1 (And.intro k2 (And.intro k3 (And.intro n1 (And.intro n2 n3)))))
    clear k1 k2 k3 n1 n2 n3
    go_simp
    exact ⟨⟨b1, b2, b3, rfl, HK.out⟩, Ext.refl _⟩
  simp only [Act.put, List.setIfInBounds_toArray, List.set_cons_succ, List.set_cons_zero]
  refine lex_nil fun x u hE hfacts => ?_
  have h9 : qFleet eastC northC shotC w5.heap.size (x 9) u := hfacts 9 _ (by omega) rfl
  clear hfacts
  generalize x 3 = x3 at *
  generalize x 4 = x4 at *
  generalize x 8 = x8 at *
  generalize x 9 = x9 at *
  clear x
  obtain ⟨b1, b2, b3, rfl, k1, k2, k3, n1, n2, n3⟩ := h9
  have hbs := hE.block HB.out
  have hcs := cell_of hbs
  have hfs := free_of hbs
  have HK := hid (And.intro k1 (And.intro k2 (And.intro k3 (And.intro n1 (And.intro n2 n3)))))
  have HE := hid hE
  have HBS := hid hbs
  clear k1 k2 k3 n1 n2 n3 hE hbs
  gi_wp2_with fail
  have hbk := set_same (set_same (set_same (set_same HBS.out 0 (.slice (some ⟨b1, 0, none⟩) 3 3)) 1 (.slice (some ⟨b2, 0, none⟩) 3 3)) 2 (.int .i64 5)) 3 (.slice (some ⟨b3, 0, none⟩) 2 2)
  simp only [List.setIfInBounds_toArray, List.set_cons_succ, List.set_cons_zero] at hbk
  have hk : ∀ {b : Nat} {o : Obj}, w5.heap.size ≤ b → u.heap[b]? = some o → ((((u.setCell ⟨w.heap.size, 0, none⟩ (.slice (some ⟨b1, 0, none⟩) 3 3)).setCell ⟨w.heap.size, 1, none⟩ (.slice (some ⟨b2, 0, none⟩) 3 3)).setCell ⟨w.heap.size, 2, none⟩ (.int .i64 5)).setCell ⟨w.heap.size, 3, none⟩ (.slice (some ⟨b3, 0, none⟩) 2 2)).heap[b]? = some o := fun {b o} hn ho => by
    have := HLT.out
    rw [set_other (by omega), set_other (by omega), set_other (by omega), set_other (by omega)]; exact ho
  have hEx := (((((HX.out.trans HE.out).set (b := w.heap.size) (by omega) 0 (.slice (some ⟨b1, 0, none⟩) 3 3)).set (b := w.heap.size) (by omega) 1 (.slice (some ⟨b2, 0, none⟩) 3 3)).set (b := w.heap.size) (by omega) 2 (.int .i64 5)).set (b := w.heap.size) (by omega) 3 (.slice (some ⟨b3, 0, none⟩) 2 2))
  have k1 := hk HK.out.2.2.2.1 HK.out.1
  have k2 := hk HK.out.2.2.2.2.1 HK.out.2.1
  have k3 := hk HK.out.2.2.2.2.2 HK.out.2.2.1
  clear hcs hfs hk
  generalize (((u.setCell ⟨w.heap.size, 0, none⟩ (.slice (some ⟨b1, 0, none⟩) 3 3)).setCell ⟨w.heap.size, 1, none⟩ (.slice (some ⟨b2, 0, none⟩) 3 3)).setCell ⟨w.heap.size, 2, none⟩ (.int .i64 5)).setCell ⟨w.heap.size, 3, none⟩ (.slice (some ⟨b3, 0, none⟩) 2 2) = WF at *
  have hc := cell_of hbk
  refine bodyPost_ret (v := .agg #[.slice (some ⟨b1, 0, none⟩) 3 3, .slice (some ⟨b2, 0, none⟩) 3 3, .int .i64 5, .slice (some ⟨b3, 0, none⟩) 2 2]) (by simp [results, Try.results40, go_sem, hc]) rfl ⟨_, rfl, hEx, b1, b2, b3, rfl, k1, k2, k3, ?_⟩
  have := HLT.out
  have := HK.out.2.2.2
  omega



theorem ints_nil (w : World) : IntsAt w (.slice none 0 0) [] := ⟨none, 0, rfl, by simp, fun i h => absurd h (by simp)⟩
theorem ints_new {w w1 : World} {g : Nat} {cs : Array Value} {xs : List Int} (n : Nat) (hg : w1.heap[g]? = some (.cells cs 3 (0, 0))) (hn : xs.length = n) (hm : n ≤ 1000) (hcs : ∀ i (h : i < xs.length), cs[i]? = some (.int .i64 xs[i])) : IntsAt w1 (.slice (some ⟨g, 0, none⟩) n n) xs :=
  ⟨_, n, by rw [hn], by omega, fun i hi => ⟨g, 0, rfl, lt_of_block hg, by rw [cell_of hg, Nat.zero_add]; exact hcs i hi⟩⟩
theorem spans_new {w1 : World} {g : Nat} {T : TypeId} {cs : Array Value} {xs : List Spn} (n : Nat) (hg : w1.heap[g]? = some (.cells cs T (0, 0))) (hn : xs.length = n) (hm : n ≤ 1000) (hcs : ∀ i (h : i < xs.length), cs[i * 2]? = some (.int .i64 xs[i].lo) ∧ cs[i * 2 + 1]? = some (.int .i64 xs[i].hi)) : SpansAt w1 (.slice (some ⟨g, 0, none⟩) n n) xs :=
  ⟨_, n, by rw [hn], by omega, fun i hi => ⟨g, 0, rfl, lt_of_block hg, by rw [cell_of hg, Nat.zero_add]; exact (hcs i hi).1, by rw [cell_of hg, Nat.zero_add]; exact (hcs i hi).2⟩⟩
set_option maxRecDepth 100000 in
theorem tide_any (a : Option Addr) (n c : Nat) (w : World) : Cal 41 #[.slice a n c] w fun e w' => ∃ v2 v3 v4, e = .returned (.agg #[.slice a n c, v2, v3, v4]) ∧ Ext w w' ∧ IntsAt w' v2 [0, 0, 0] ∧ IntsAt w' v3 [0, 0] ∧ IntsAt w' v4 [0, 0] := by
  gi_enter Try.func41, Try.ntmps41
  gi_wp2
  refine bodyPost_ret (v := .agg #[.slice a n c, .slice (some ⟨w.heap.size + 1, 0, none⟩) 3 3, .slice (some ⟨w.heap.size + 1 + 1, 0, none⟩) 2 2, .slice (some ⟨w.heap.size + 1 + 1 + 1, 0, none⟩) 2 2]) (by simp [results, Try.results41, go_sem]) rfl ⟨_, _, _, rfl, ?_, ?_, ?_, ?_⟩
  · first | exact (((((Ext.refl _).alloc _).alloc _).alloc _).alloc _) | exact (((((((Ext.refl _).alloc _).alloc _).alloc _).alloc _).set (by omega) _ _).set (by omega) _ _)
  · refine ints_new (w := w) 3 ?_ rfl (by omega) (cs := #[.int .i64 0, .int .i64 0, .int .i64 0]) (fun i hi => by rcases (by simp at hi; omega : i = 0 ∨ i = 1 ∨ i = 2) with rfl | rfl | rfl <;> rfl)
    simp only [alloc_at, World.size_alloc]; (repeat rw [if_neg (by omega)]); first | rfl | rw [if_pos (by omega)] | rw [if_pos trivial]
  · refine ints_new (w := w) 2 ?_ rfl (by omega) (cs := #[.int .i64 0, .int .i64 0]) (fun i hi => by rcases (by simp at hi; omega : i = 0 ∨ i = 1) with rfl | rfl <;> rfl)
    simp only [alloc_at, World.size_alloc]; (repeat rw [if_neg (by omega)]); first | rfl | rw [if_pos (by omega)] | rw [if_pos trivial]
  · refine ints_new (w := w) 2 ?_ rfl (by omega) (cs := #[.int .i64 0, .int .i64 0]) (fun i hi => by rcases (by simp at hi; omega : i = 0 ∨ i = 1) with rfl | rfl <;> rfl)
    simp only [alloc_at, World.size_alloc]; (repeat rw [if_neg (by omega)]); first | rfl | rw [if_pos (by omega)] | rw [if_pos trivial]
def bars3 : List Spn := [⟨0, 1⟩, ⟨1, 2⟩, ⟨1, 4⟩]
set_option maxRecDepth 100000 in
theorem torn_nil (w : World) : Cal 43 #[.slice none 0 0] w fun e w' => ∃ v, e = .returned (.agg #[.int .i64 3, .int .i64 2, v, .int .i64 10, .int .i64 3]) ∧ Ext w w' ∧ SpansAt w' v bars3 := by
  obtain ⟨i0, hi0, hz0, hz1, hz2⟩ := info_parts info86
  have HR := hid (fun (u : World) => append_none (w := u) (ty := 22) Try.underlying22 hi0 (sa := some ⟨w.heap.size + 1, 0, none⟩) (n := 3) (c := 3) (by omega) none 0)
  clear hi0 hz0 hz1 hz2
  gi_enter Try.func43, Try.ntmps43
  gi_wp2_with (refine wpIn_append_run (fun _ => trivial) rfl (.tmp 6) (.tmp 7) 22 rfl rfl rfl (HR.out _) ?_)
  refine bodyPost_ret (v := .agg #[.int .i64 3, .int .i64 2, .slice (some ⟨w.heap.size + 1, 0, none⟩) 3 3, .int .i64 10, .int .i64 3]) (by simp [results, Try.results43, go_sem]) rfl ⟨_, rfl, ((Ext.refl _).alloc _).alloc _, ?_⟩
  refine spans_new (T := 86) 3 ?_ rfl (by omega) (cs := #[.int .i64 0, .int .i64 1, .int .i64 1, .int .i64 2, .int .i64 1, .int .i64 4]) (fun i hi => by rcases (by simp [bars3] at hi; omega : i = 0 ∨ i = 1 ∨ i = 2) with rfl | rfl | rfl <;> exact ⟨rfl, rfl⟩)
  simp only [alloc_at, World.size_alloc]; (repeat rw [if_neg (by omega)]); first | rfl | rw [if_pos (by omega)] | rw [if_pos trivial]
theorem spans_row {w : World} {v : Value} {l : List Spn} (h : Row w 86 2 v l.length (spFlat l)) (hl : l.length ≤ 1000) : SpansAt w v l := by
  obtain ⟨_, h⟩ := h
  rcases h with ⟨rfl, h0⟩ | ⟨g, cap, cur, rfl, hg, h1, h2, h3, h4⟩
  · exact ⟨none, 0, by rw [h0], ⟨by omega, by omega⟩, fun i hi => by omega⟩
  · have key : ∀ j, j < l.length * 2 → cur[j]? = (spFlat l)[j]? := fun j hj => by rw [← h4, List.getElem?_take, if_pos hj, Array.getElem?_toList]
    refine ⟨_, cap, rfl, ⟨h1, by omega⟩, fun i hi => ⟨g, 0, rfl, lt_of_block hg, ?_, ?_⟩⟩
    · rw [cell_of hg, Nat.zero_add, key _ (by omega)]; exact (spFlat_get l i hi).1
    · rw [cell_of hg, Nat.zero_add, key _ (by omega)]; exact (spFlat_get l i hi).2
set_option maxRecDepth 100000 in
set_option maxHeartbeats 1000000 in
theorem torn_one (g : Nat) (p q : Int) (w : World) (hg : w.heap[g]? = some (.cells #[.int .i64 p, .int .i64 q] 86 (0, 0))) : Cal 43 #[.slice (some ⟨g, 0, none⟩) 1 1] w fun e w' => ∃ v, e = .returned (.agg #[.int .i64 3, .int .i64 2, v, .int .i64 10, .int .i64 3]) ∧ Ext w w' ∧ SpansAt w' v (bars3 ++ [⟨p, q⟩]) := by
  obtain ⟨i0, hi0, hz0, hz1, hz2⟩ := info_parts info86
  have HR := hid (fun (u : World) (hr : Row u 86 2 (.slice (some ⟨w.heap.size + 1, 0, none⟩) 3 3) 3 (spFlat bars3)) (hgu : u.heap[g]? = some (.cells #[.int .i64 p, .int .i64 q] 86 (0, 0))) =>
    append_row (w := u) (sz := 2) (bytes := 16) (t := 22) (ty := 22) Try.underlying22 hi0 hz0 hz1 hz2 (by simp [Value.cells]) (by omega) hr ⟨g, 0, none⟩ 1 (spCells ⟨p, q⟩) rfl (fun j z hj => by rw [Addr.add_mid, Nat.zero_add, cell_of hgu]; simpa [spCells] using hj) (fun z hz => by simp [spCells] at hz; rcases hz with rfl | rfl <;> rfl) (by omega) (by omega))
  have HG := hid hg
  clear hi0 hz0 hz1 hz2 hg
  gi_enter Try.func43, Try.ntmps43
  have HW1 : Hid (Ext w ((w.alloc (.cells #[.int .i64 0, .int .i64 0, .slice none 0 0, .int .i64 0, .int .i64 0] 24)).alloc (.cells #[.int .i64 0, .int .i64 1, .int .i64 1, .int .i64 2, .int .i64 1, .int .i64 4] 86)) ∧ ((w.alloc (.cells #[.int .i64 0, .int .i64 0, .slice none 0 0, .int .i64 0, .int .i64 0] 24)).alloc (.cells #[.int .i64 0, .int .i64 1, .int .i64 1, .int .i64 2, .int .i64 1, .int .i64 4] 86)).heap[w.heap.size]? = some (.cells #[.int .i64 0, .int .i64 0, .slice none 0 0, .int .i64 0, .int .i64 0] 24 (0, 0)) ∧ Row ((w.alloc (.cells #[.int .i64 0, .int .i64 0, .slice none 0 0, .int .i64 0, .int .i64 0] 24)).alloc (.cells #[.int .i64 0, .int .i64 1, .int .i64 1, .int .i64 2, .int .i64 1, .int .i64 4] 86)) 86 2 (.slice (some ⟨w.heap.size + 1, 0, none⟩) 3 3) 3 (spFlat bars3)) := by
    refine ⟨((Ext.refl _).alloc _).alloc _, two_new, rfl, .inr ⟨w.heap.size + 1, 3, #[.int .i64 0, .int .i64 1, .int .i64 1, .int .i64 2, .int .i64 1, .int .i64 4], rfl, ?_, by omega, by unfold maxLen; omega, rfl, rfl⟩⟩
    have := Ext.new (w := w.alloc (.cells #[.int .i64 0, .int .i64 0, .slice none 0 0, .int .i64 0, .int .i64 0] 24)) (o := .cells #[.int .i64 0, .int .i64 1, .int .i64 1, .int .i64 2, .int .i64 1, .int .i64 4] 86) (Ext.refl _)
    rwa [World.size_alloc] at this
  gi_wp2_with (obtain ⟨v', w', hrun, hrow, hgr, how, _⟩ := HR.out _ HW1.out.2.2 (HW1.out.1.block HG.out); obtain ⟨sa', sn', sc', rfl⟩ := hrow.isSlice; refine wpIn_append_run (fun _ => trivial) rfl (.tmp 6) (.tmp 7) 22 rfl rfl rfl hrun ?_; have hbv := grownBy_block hgr HW1.out.2.1 (fun e => by simp [Value.ownBlock] at e); have hcv := cell_of hbv; have hfv := free_of hbv; have HBV := hid hbv; have HRW := hid (And.intro hrow (And.intro hgr how)); clear hbv hrow hgr how hrun)
  have hbk := set_same (set_same (set_same (set_same (set_same HBV.out 0 (.int .i64 3)) 1 (.int .i64 2)) 2 (.slice sa' sn' sc')) 3 (.int .i64 10)) 4 (.int .i64 3)
  simp only [List.setIfInBounds_toArray, List.set_cons_succ, List.set_cons_zero] at hbk
  have hne : (Value.slice sa' sn' sc').ownBlock ≠ some w.heap.size := fun e => by
    rcases HRW.out.2.2 with e' | e'
    · rw [e] at e'; simp [Value.ownBlock] at e'
    · rw [e] at e'; have e2 := Option.some.inj e'; rw [World.size_alloc, World.size_alloc] at e2; omega
  have hrow := (((((HRW.out.1.set hne 0 (.int .i64 3)).set hne 1 (.int .i64 2)).set hne 2 (.slice sa' sn' sc')).set hne 3 (.int .i64 10)).set hne 4 (.int .i64 3))
  have hEw : Ext w w' := Below.trans HW1.out.1 ⟨HRW.out.2.1.os, HRW.out.2.1.tape, HRW.out.2.1.output, HRW.out.2.1.size, fun j hj => HRW.out.2.1.block j (by simp; omega) (fun e => by simp [Value.ownBlock] at e; omega)⟩
  have hEx := (((((hEw.set (b := w.heap.size) (by omega) 0 (.int .i64 3)).set (b := w.heap.size) (by omega) 1 (.int .i64 2)).set (b := w.heap.size) (by omega) 2 (.slice sa' sn' sc')).set (b := w.heap.size) (by omega) 3 (.int .i64 10)).set (b := w.heap.size) (by omega) 4 (.int .i64 3))
  clear hcv hfv
  generalize (((((w'.setCell ⟨w.heap.size, 0, none⟩ (.int .i64 3)).setCell ⟨w.heap.size, 1, none⟩ (.int .i64 2)).setCell ⟨w.heap.size, 2, none⟩ (.slice sa' sn' sc')).setCell ⟨w.heap.size, 3, none⟩ (.int .i64 10)).setCell ⟨w.heap.size, 4, none⟩ (.int .i64 3)) = WF at *
  have hc := cell_of hbk
  refine bodyPost_ret (v := .agg #[.int .i64 3, .int .i64 2, .slice sa' sn' sc', .int .i64 10, .int .i64 3]) (by simp [results, Try.results43, go_sem, hc]) rfl ⟨_, rfl, hEx, spans_row (l := bars3 ++ [⟨p, q⟩]) hrow (by simp [bars3])⟩
def distC : Array Value := #[.int .i64 0, .int .i64 0, .int .i64 100, .int .i64 1, .int .i64 0, .int .i64 3, .int .i64 0, .int .i64 0, .int .i64 0, .int .i64 0, .int .i64 50, .int .i64 0, .int .i64 100, .int .i64 1, .int .i64 1, .int .i64 3, .int .i64 (-4), .int .i64 0, .int .i64 0, .int .i64 0]
set_option maxRecDepth 100000 in
set_option maxHeartbeats 2000000 in
theorem distant_any (w : World) : Cal 42 #[] w fun e w' => ∃ v, e = .returned v ∧ Ext w w' ∧ qFleet eastC northC distC w.heap.size v w' := by
  gi_enter Try.func42, Try.ntmps42
  gi_upto_region 2 with (gi_at_call 40; ((with_reducible refine (fleet_any _).mono ?_); rintro e w1 ⟨v, rfl, hx1, b1, b2, b3, rfl, k1, k2, k3, n1⟩))
  have hx2 : Ext w1 (w1.alloc (.cells #[.slice (some ⟨b1, 0, none⟩) 3 3, .slice (some ⟨b2, 0, none⟩) 3 3, .int .i64 5, .slice (some ⟨b3, 0, none⟩) 2 2] 40)) := (Ext.refl _).alloc _
  have hb2 : (w1.alloc (.cells #[.slice (some ⟨b1, 0, none⟩) 3 3, .slice (some ⟨b2, 0, none⟩) 3 3, .int .i64 5, .slice (some ⟨b3, 0, none⟩) 2 2] 40)).heap[w1.heap.size]? = some (.cells #[.slice (some ⟨b1, 0, none⟩) 3 3, .slice (some ⟨b2, 0, none⟩) 3 3, .int .i64 5, .slice (some ⟨b3, 0, none⟩) 2 2] 40 (0, 0)) := Ext.new (Ext.refl _)
  have hr0 : w1.heap[w.heap.size]? = some (.cells #[.slice none 0 0, .slice none 0 0, .int .i64 0, .slice none 0 0] 40 (0, 0)) := Ext.new hx1
  have hlt : w.heap.size < w1.heap.size := lt_of_block hr0
  have hl1 := lt_of_block k1
  have hl2 := lt_of_block k2
  have hl3 := lt_of_block k3
  rw [World.size_alloc] at n1
  have HX := hid (((Ext.refl w).alloc (.cells #[.slice none 0 0, .slice none 0 0, .int .i64 0, .slice none 0 0] 40)).trans hx1 |>.trans hx2)
  have HR0 := hid (hx2.block hr0)
  have HK1 := hid (hx2.block k1)
  have HK2 := hid (hx2.block k2)
  have h3 := hx2.block k3
  have HB2 := hid hb2
  have hne : b1 ≠ b3 ∧ b2 ≠ b3 := ⟨fun e => by rw [e, k3] at k1; simp at k1, fun e => by rw [e, k3] at k2; simp at k2⟩
  clear k1 k2 k3 hx1 hx2 hr0
  obtain ⟨B, hB⟩ : ∃ n, n = w1.heap.size := ⟨_, rfl⟩
  rw [← hB] at hb2 HB2 hlt hl1 hl2 hl3 ⊢
  clear hB
  generalize w1.alloc (.cells #[.slice (some ⟨b1, 0, none⟩) 3 3, .slice (some ⟨b2, 0, none⟩) 3 3, .int .i64 5, .slice (some ⟨b3, 0, none⟩) 2 2] 40) = w2 at *
  have c2 := cell_of hb2
  have c3 := cell_of h3
  have f3 := free_of h3
  have HK3 := hid h3
  clear hb2 h3
  gi_upto_region 3 with fail
  have hk3 := set_same HK3.out 10 (.int .i64 50)
  have HB3 := hid ((set_other (w := w2) (k := B) (g := b3) (by omega) 10 (.int .i64 50)).trans HB2.out)
  have HK1 := hid ((set_other (w := w2) (k := b1) (g := b3) hne.1 10 (.int .i64 50)).trans HK1.out)
  have HK2 := hid ((set_other (w := w2) (k := b2) (g := b3) hne.2 10 (.int .i64 50)).trans HK2.out)
  have HR0 := hid ((set_other (w := w2) (k := w.heap.size) (g := b3) (by omega) 10 (.int .i64 50)).trans HR0.out)
  have HX := hid (HX.out.set (b := b3) (by omega) 10 (.int .i64 50))
  have HK3 := hid hk3
  clear c2 c3 f3 hk3 HB2
  generalize w2.setCell ⟨b3, 10, none⟩ (.int .i64 50) = w3 at *
  have HC := hid fun e : Later w3 => cell_of (Ext.block e.grown HB3.out)
  have HTO := hid (fun u => to_any (-4) 0 u)
  have q0 := HC.out
  refine quiet_wide 3 (by kernel_rfl) (by kernel_rfl) ?_
  simp only [List.take_succ_cons, List.take_zero, List.drop_succ_cons, List.drop_zero]
  repeat (any_goals (first | go_big_quiet_step ((go_at_call 31; with_reducible exact Cal.quiet (HTO.out _))) | quiet_step ((go_at_call 31; with_reducible exact Cal.quiet (HTO.out _)))))
  refine wpQuiet_nil ?_
  rintro w4 ⟨⟨w4q, hx4⟩, hew⟩
  obtain rfl : w4 = w4q := hew
  have hx4 : Ext w3 w4 := hx4
  clear q0 HC
  have h3 := hx4.block HK3.out
  simp only [List.setIfInBounds_toArray, List.set_cons_succ, List.set_cons_zero, shotC] at h3
  have HB4 := hid (hx4.block HB3.out)
  have HK1 := hid (hx4.block HK1.out)
  have HK2 := hid (hx4.block HK2.out)
  have HR0 := hid (hx4.block HR0.out)
  have HX := hid (HX.out.trans hx4)
  clear hx4 HB3 HK3
  have c3 := cell_of h3
  have f3 := free_of h3
  have HK3 := hid h3
  clear h3
  gi_upto_region 4 with fail
  have hk3 := set_same (set_same HK3.out 16 (.int .i64 (-4))) 17 (.int .i64 0)
  simp only [List.setIfInBounds_toArray, List.set_cons_succ, List.set_cons_zero] at hk3
  have tw : ∀ {k : Nat} {o : Obj}, k ≠ b3 → w4.heap[k]? = some o → ((w4.setCell ⟨b3, 16, none⟩ (.int .i64 (-4))).setCell ⟨b3, 17, none⟩ (.int .i64 0)).heap[k]? = some o := fun hk ho => by rw [set_other hk, set_other hk]; exact ho
  have hb := tw (by omega) HB4.out
  have HK1 := hid (tw hne.1 HK1.out)
  have HK2 := hid (tw hne.2 HK2.out)
  have hr := tw (by omega) HR0.out
  have HX := hid ((HX.out.set (b := b3) (by omega) 16 (.int .i64 (-4))).set (b := b3) (by omega) 17 (.int .i64 0))
  have HK3 := hid hk3
  clear c3 f3 hk3 tw HB4
  generalize (w4.setCell ⟨b3, 16, none⟩ (.int .i64 (-4))).setCell ⟨b3, 17, none⟩ (.int .i64 0) = w5 at *
  have cb := cell_of hb
  have cr := cell_of hr
  have fr := free_of hr
  have HRR := hid hr
  clear hb hr
  gi_wp2_with fail
  have hbk := set_same (set_same (set_same (set_same HRR.out 0 (.slice (some ⟨b1, 0, none⟩) 3 3)) 1 (.slice (some ⟨b2, 0, none⟩) 3 3)) 2 (.int .i64 5)) 3 (.slice (some ⟨b3, 0, none⟩) 2 2)
  simp only [List.setIfInBounds_toArray, List.set_cons_succ, List.set_cons_zero] at hbk
  have hk : ∀ {b : Nat} {o : Obj}, w.heap.size + 1 ≤ b → w5.heap[b]? = some o → ((((w5.setCell ⟨w.heap.size, 0, none⟩ (.slice (some ⟨b1, 0, none⟩) 3 3)).setCell ⟨w.heap.size, 1, none⟩ (.slice (some ⟨b2, 0, none⟩) 3 3)).setCell ⟨w.heap.size, 2, none⟩ (.int .i64 5)).setCell ⟨w.heap.size, 3, none⟩ (.slice (some ⟨b3, 0, none⟩) 2 2)).heap[b]? = some o := fun {b o} hn ho => by
    rw [set_other (by omega), set_other (by omega), set_other (by omega), set_other (by omega)]; exact ho
  have hEx := (((((HX.out).set (b := w.heap.size) (by omega) 0 (.slice (some ⟨b1, 0, none⟩) 3 3)).set (b := w.heap.size) (by omega) 1 (.slice (some ⟨b2, 0, none⟩) 3 3)).set (b := w.heap.size) (by omega) 2 (.int .i64 5)).set (b := w.heap.size) (by omega) 3 (.slice (some ⟨b3, 0, none⟩) 2 2))
  have k1 := hk n1.1 HK1.out
  have k2 := hk n1.2.1 HK2.out
  have k3 := hk n1.2.2 HK3.out
  clear cb cr fr hk
  generalize (((w5.setCell ⟨w.heap.size, 0, none⟩ (.slice (some ⟨b1, 0, none⟩) 3 3)).setCell ⟨w.heap.size, 1, none⟩ (.slice (some ⟨b2, 0, none⟩) 3 3)).setCell ⟨w.heap.size, 2, none⟩ (.int .i64 5)).setCell ⟨w.heap.size, 3, none⟩ (.slice (some ⟨b3, 0, none⟩) 2 2) = WF at *
  have hc := cell_of hbk
  refine bodyPost_ret (v := .agg #[.slice (some ⟨b1, 0, none⟩) 3 3, .slice (some ⟨b2, 0, none⟩) 3 3, .int .i64 5, .slice (some ⟨b3, 0, none⟩) 2 2]) (by simp [results, Try.results42, go_sem, hc]) rfl ⟨_, rfl, hEx, b1, b2, b3, rfl, k1, k2, k3, ?_⟩
  omega
/-- The chapter's fleets. -/
def exF : FleetD := ⟨[⟨10, 20⟩, ⟨10, 20⟩, ⟨10, 20⟩], [⟨0, 0⟩, ⟨0, 0⟩, ⟨0, 0⟩], 5, [⟨0, 0, 100, 1, 0, 3, ⟨0, 0⟩, ⟨0, 0⟩⟩, ⟨25, 0, 100, 1, 1, 3, ⟨0, 0⟩, ⟨0, 0⟩⟩]⟩
def exD : FleetD := ⟨[⟨10, 20⟩, ⟨10, 20⟩, ⟨10, 20⟩], [⟨0, 0⟩, ⟨0, 0⟩, ⟨0, 0⟩], 5, [⟨0, 0, 100, 1, 0, 3, ⟨0, 0⟩, ⟨0, 0⟩⟩, ⟨50, 0, 100, 1, 1, 3, ⟨-4, 0⟩, ⟨0, 0⟩⟩]⟩
theorem shots_new {w1 : World} {g : Nat} {cs : Array Value} {xs : List NetD} (n : Nat) (hg : w1.heap[g]? = some (.cells cs 58 (0, 0))) (hn : xs.length = n) (hm : n ≤ 1000) (hcs : ∀ i (h : i < xs.length) j, j < 10 → cs[i * 10 + j]? = (netCells xs[i] i)[j]?) : ShotsAt w1 (.slice (some ⟨g, 0, none⟩) n n) xs := by
  refine ⟨_, n, by rw [hn], by omega, fun i hi => ⟨g, 0, rfl, lt_of_block hg, ?_⟩⟩
  have key : ∀ j, j < 10 → w1.cell? ⟨g, 0 + i * 10 + j, none⟩ = (netCells xs[i] i)[j]? := fun j hj => by rw [cell_of hg, Nat.zero_add]; exact hcs i hi j hj
  exact ⟨key 0 (by omega), key 1 (by omega), key 2 (by omega), key 3 (by omega), key 4 (by omega), key 5 (by omega), key 6 (by omega), key 7 (by omega), key 8 (by omega), key 9 (by omega)⟩
/-- A fleet that is told. -/
def FlAt (w : World) (v : Value) (F : FleetD) : Prop := ∃ ev nv sv, v = .agg #[ev, nv, .int .i64 F.gap, sv] ∧ SpansAt w ev F.east ∧ SpansAt w nv F.north ∧ ShotsAt w sv F.nets
theorem FlAt.mono {w w' : World} {v : Value} {F : FleetD} (h : FlAt w v F) (hx : Ext w w') : FlAt w' v F := by
  obtain ⟨ev, nv, sv, h0, h1, h2, h3⟩ := h
  exact ⟨ev, nv, sv, h0, h1.mono hx, h2.mono hx, h3.mono hx⟩
theorem fl_new {w : World} {v : Value} {ec nc sc : Array Value} {n : Nat} {F : FleetD} (h : qFleet ec nc sc n v w) (hg : F.gap = 5) (he : F.east.length = 3) (hn : F.north.length = 3) (hs : F.nets.length = 2)
    (ce : ∀ i (h : i < F.east.length), ec[i * 2]? = some (.int .i64 F.east[i].lo) ∧ ec[i * 2 + 1]? = some (.int .i64 F.east[i].hi)) (cn : ∀ i (h : i < F.north.length), nc[i * 2]? = some (.int .i64 F.north[i].lo) ∧ nc[i * 2 + 1]? = some (.int .i64 F.north[i].hi)) (cs : ∀ i (h : i < F.nets.length) j, j < 10 → sc[i * 10 + j]? = (netCells F.nets[i] i)[j]?) : FlAt w v F := by
  obtain ⟨b1, b2, b3, rfl, k1, k2, k3, _⟩ := h
  exact ⟨_, _, _, by rw [hg], spans_new 3 k1 he (by omega) ce, spans_new 3 k2 hn (by omega) cn, shots_new 2 k3 hs (by omega) cs⟩
theorem three {i : Nat} (h : i < 3) : i = 0 ∨ i = 1 ∨ i = 2 := by omega
theorem two_c {i : Nat} (h : i < 2) : i = 0 ∨ i = 1 := by omega
theorem ten_c {i : Nat} (h : i < 10) : i = 0 ∨ i = 1 ∨ i = 2 ∨ i = 3 ∨ i = 4 ∨ i = 5 ∨ i = 6 ∨ i = 7 ∨ i = 8 ∨ i = 9 := by omega
theorem fl_ex {w : World} {v : Value} {n : Nat} (h : qFleet eastC northC shotC n v w) : FlAt w v exF := fl_new h rfl rfl rfl rfl
  (fun i hi => by rcases three hi with rfl | rfl | rfl <;> exact ⟨rfl, rfl⟩) (fun i hi => by rcases three hi with rfl | rfl | rfl <;> exact ⟨rfl, rfl⟩)
  (fun i hi j hj => by rcases two_c hi with rfl | rfl <;> rcases ten_c hj with rfl | rfl | rfl | rfl | rfl | rfl | rfl | rfl | rfl | rfl <;> rfl)
theorem fl_exd {w : World} {v : Value} {n : Nat} (h : qFleet eastC northC distC n v w) : FlAt w v exD := fl_new h rfl rfl rfl rfl
  (fun i hi => by rcases three hi with rfl | rfl | rfl <;> exact ⟨rfl, rfl⟩) (fun i hi => by rcases three hi with rfl | rfl | rfl <;> exact ⟨rfl, rfl⟩)
  (fun i hi j hj => by rcases two_c hi with rfl | rfl <;> rcases ten_c hj with rfl | rfl | rfl | rfl | rfl | rfl | rfl | rfl | rfl | rfl <;> rfl)



def TrAt (w : World) (v : Value) (T : TruthD) : Prop := ∃ a b c d, v = .agg #[a, b, c, d] ∧ IntsAt w a T.east ∧ IntsAt w b T.north ∧ IntsAt w c T.se ∧ IntsAt w d T.sn
theorem TrAt.mono {w w' : World} {v : Value} {T : TruthD} (h : TrAt w v T) (hx : Ext w w') : TrAt w' v T := by
  obtain ⟨a, b, c, d, h0, h1, h2, h3, h4⟩ := h
  exact ⟨a, b, c, d, h0, h1.mono hx, h2.mono hx, h3.mono hx, h4.mono hx⟩
theorem Lies_c (F : FleetD) (T : TruthD) (fv tv : Value) (i h : Int) (w : World) (hf : FlAt w fv F) (ht : TrAt w tv T) : Cal 29 #[fv, tv, .int .i64 i, .int .i64 h] w fun e w' => e = .returned (.tuple #[.agg #[.int .i64 (liesVe F T i h), .int .i64 (liesVn F T i h)], .int .i64 (liesE F T i h)]) ∧ Ext w w' := by
  obtain ⟨ev, nv, sv, rfl, h1, h2, h3⟩ := hf
  obtain ⟨a, b, c, d, rfl, k1, k2, k3, k4⟩ := ht
  exact Lies_any F T ev nv sv a b c d i h w h1 h2 h3 k1 k2 k3 k4
theorem Fouls_c (F : FleetD) (T : TruthD) (fv tv : Value) (w : World) (hf : FlAt w fv F) (ht : TrAt w tv T) : Cal 24 #[fv, tv] w fun e w' => e = .returned (.tuple #[.agg (foulsV F T), .int .i64 (foulsE F T)]) ∧ Ext w w' := by
  obtain ⟨ev, nv, sv, rfl, h1, h2, h3⟩ := hf
  obtain ⟨a, b, c, d, rfl, k1, k2, k3, k4⟩ := ht
  exact Fouls_any F T ev nv sv a b c d w h1 h2 h3 k1 k2 k3 k4
theorem Can_c (F : FleetD) (fv : Value) (w : World) (hf : FlAt w fv F) : Cal 21 #[fv] w fun e w' => e = .returned (.tuple #[.agg (canV F), .int .i64 (canE F)]) ∧ Ext w w' := by
  obtain ⟨ev, nv, sv, rfl, h1, h2, h3⟩ := hf
  exact Can_any F ev nv sv w h1 h2 h3
theorem Apart_c (F : FleetD) (fv : Value) (i k h : Int) (w : World) (hf : FlAt w fv F) : Cal 28 #[fv, .int .i64 i, .int .i64 k, .int .i64 h] w fun e w' => e = .returned (.tuple #[spnV (apartVe F i k h), spnV (apartVn F i k h), .int .i64 (apartE F i k h)]) ∧ Ext w w' := by
  obtain ⟨ev, nv, sv, rfl, h1, h2, h3⟩ := hf
  exact Apart_any F ev nv sv i k h w h1 h2 h3
theorem Shift_c (F : FleetD) (fv : Value) (i m : Int) (w : World) (hf : FlAt w fv F) : Cal 33 #[fv, .int .i64 i, .int .i64 m] w fun e w' => e = .returned (.tuple #[.int .i64 (shiftV F i m), .int .i64 (shiftE F i m)]) ∧ Ext w w' := by
  obtain ⟨ev, nv, sv, rfl, h1, h2, h3⟩ := hf
  exact Shift_any F ev nv sv i m w h1 h2 h3
def TnAt (w : World) (v : Value) (T : TornD) : Prop := ∃ sv, v = .agg #[.int .i64 T.wide, .int .i64 T.high, sv, .int .i64 T.mesh, .int .i64 T.knot] ∧ SpansAt w sv T.bars
theorem TnAt.mono {w w' : World} {v : Value} {T : TornD} (h : TnAt w v T) (hx : Ext w w') : TnAt w' v T := by
  obtain ⟨sv, h0, h1⟩ := h
  exact ⟨sv, h0, h1.mono hx⟩
theorem IsMend_c (T : TornD) (tv pv : Value) (ps : List (List Int)) (w : World) (ht : TnAt w tv T) (hp : PiecesAt w pv ps) : Cal 12 #[tv, pv] w fun e w' => e = .returned (.tuple #[.int .i64 (isTw T ps), .bool (isV T ps), .int .i64 (tornE T)]) ∧ Ext w w' := by
  obtain ⟨sv, rfl, hs⟩ := ht
  exact IsMend_any T sv pv ps w hs hp
theorem Twine_c (T : TornD) (tv : Value) (w : World) (ht : TnAt w tv T) : Cal 16 #[tv] w fun e w' => e = .returned (.tuple #[.int .i64 (twineV T), .int .i64 (tornE T)]) ∧ Ext w w' := by
  obtain ⟨sv, rfl, hs⟩ := ht
  exact Twine_any T sv w hs
theorem Mend_c (T : TornD) (tv : Value) (w : World) (ht : TnAt w tv T) : Cal 18 #[tv] w fun e w' => ∃ v, e = .returned (.tuple #[v, .int .i64 (mendE T)]) ∧ Ext w w' ∧ PcsAt w' w.heap.size w'.heap.size v (mendV T) := by
  obtain ⟨sv, rfl, hs⟩ := ht
  exact Mend_any T sv w hs
theorem CheckTorn_c (T : TornD) (tv : Value) (w : World) (ht : TnAt w tv T) : Cal 14 #[tv] w fun e w' => e = .returned (.int .i64 (tornE T)) ∧ Ext w w' := by
  obtain ⟨sv, rfl, hs⟩ := ht
  exact CheckTorn_any T sv w hs
theorem pcs_slice {w : World} {base nb n : Nat} {v : Value} {ps : List (List Int)} (h : PcsAt w base nb v ps) (hn : ps.length = n) : ∃ a c, v = .slice a n c := by
  obtain ⟨⟨vals, _, hr, _⟩, _⟩ := h
  obtain ⟨a, c, rfl⟩ := hr.isSliceN
  exact ⟨a, c, by rw [hn]⟩
def exT1 : TruthD := ⟨[10, 12, 14], [0, 0, 0], [0, 0], [0, 0]⟩
def exT2 : TruthD := ⟨[20, 10, 10], [0, 0, 0], [0, 0], [0, 0]⟩
def exN : TornD := ⟨3, 2, bars3, 10, 3⟩
def exN4 : TornD := ⟨3, 2, bars3 ++ [⟨0, 3⟩], 10, 3⟩
def exP : List (List Int) := [[0, 1, 4], [1, 2]]
theorem ex_lies : liesVe exF exT1 1 3 = 51 ∧ liesVn exF exT1 1 3 = 0 ∧ liesE exF exT1 1 3 = 0 := ⟨by kernel_rfl, by kernel_rfl, by kernel_rfl⟩
theorem ex_fouls : foulsV exF exT2 = #[.int .i64 1, .int .i64 0, .int .i64 1] ∧ foulsE exF exT2 = 0 := ⟨by kernel_rfl, by kernel_rfl⟩
theorem ex_apart : apartVe exD 0 1 3 = ⟨-40, -22⟩ ∧ apartVn exD 0 1 3 = ⟨0, 0⟩ ∧ apartE exD 0 1 3 = 0 := ⟨by kernel_rfl, by kernel_rfl, by kernel_rfl⟩
theorem ex_can : canV exF = #[.int .i64 1, .int .i64 0, .int .i64 1] ∧ canE exF = 0 := ⟨by kernel_rfl, by kernel_rfl⟩
theorem ex_shift : shiftV exF 1 100 = 1 ∧ shiftE exF 1 100 = 0 := ⟨by kernel_rfl, by kernel_rfl⟩
theorem ex_mend : isTw exN exP = 42 ∧ isV exN exP = true ∧ tornE exN = 0 := ⟨by kernel_rfl, by kernel_rfl, by kernel_rfl⟩
theorem ex_twine : twineV exN4 = 52 ∧ tornE exN4 = 0 := ⟨by kernel_rfl, by kernel_rfl⟩
theorem ex_pieces : mendE exN = 0 ∧ (mendV exN).length = 2 := ⟨by kernel_rfl, by kernel_rfl⟩

set_option maxRecDepth 100000 in
set_option maxHeartbeats 4000000 in
theorem works_any (w : World) : Cal 19 #[] w fun e w' => e = .returned (.bool true) ∧ Ext w w' := by
  gi_enter Try.func19, Try.ntmps19
  gi_wp2_with (gi_at_call 40; ((with_reducible refine (fleet_any _).mono ?_); rintro e w1 ⟨v1, rfl, hx1, hq1⟩))
  have hs := ints_new (w1 := w1.alloc (.cells #[.int .i64 10, .int .i64 12, .int .i64 14] 3)) (w := w1) (xs := [10, 12, 14]) 3 (Ext.new (Ext.refl _)) rfl (by omega) (cs := #[.int .i64 10, .int .i64 12, .int .i64 14]) (fun i hi => by rcases three hi with rfl | rfl | rfl <;> rfl)
  have hxa : Ext w1 (w1.alloc (.cells #[.int .i64 10, .int .i64 12, .int .i64 14] 3)) := (Ext.refl _).alloc _
  gi_wp2_with (gi_at_call 41; ((with_reducible refine (tide_any _ _ _ _).mono ?_); rintro e w2 ⟨a2, b2, c2, rfl, hx2, i2, j2, k2⟩))
  have HC := hid (Lies_c exF exT1 v1 _ 1 3 w2 ((fl_ex hq1).mono (hxa.trans hx2)) ⟨_, _, _, _, rfl, hs.mono hx2, i2, j2, k2⟩)
  rw [ex_lies.1, ex_lies.2.1, ex_lies.2.2] at HC
  gi_wp2_with (gi_at_call 29; ((with_reducible refine (HC.out).mono ?_); rintro e w3 ⟨rfl, hx3⟩))
  have hxb : Ext w3 (w3.alloc (.cells #[.int .i64 51, .int .i64 0] 54)) := (Ext.refl _).alloc _
  have HX := hid ((((hx1.trans hxa).trans hx2).trans hx3).trans hxb)
  have HB1 : Hid ((w3.alloc (.cells #[.int .i64 51, .int .i64 0] 54)).heap[w3.heap.size]? = some (.cells #[.int .i64 51, .int .i64 0] 54 (0, 0))) := Ext.new (Ext.refl _)
  clear hx1 hxa hx2 hx3 hxb hq1 hs i2 j2 k2 HC
  gi_wp2_with (gi_at_call 40; ((with_reducible refine (fleet_any _).mono ?_); rintro e w4 ⟨v1, rfl, hx1, hq1⟩))
  have hs := ints_new (w1 := w4.alloc (.cells #[.int .i64 20, .int .i64 10, .int .i64 10] 3)) (w := w4) (xs := [20, 10, 10]) 3 (Ext.new (Ext.refl _)) rfl (by omega) (cs := #[.int .i64 20, .int .i64 10, .int .i64 10]) (fun i hi => by rcases three hi with rfl | rfl | rfl <;> rfl)
  have hxa : Ext w4 (w4.alloc (.cells #[.int .i64 20, .int .i64 10, .int .i64 10] 3)) := (Ext.refl _).alloc _
  gi_wp2_with (gi_at_call 41; ((with_reducible refine (tide_any _ _ _ _).mono ?_); rintro e w5 ⟨a2, b2, c2, rfl, hx2, i2, j2, k2⟩))
  have HC := hid (Fouls_c exF exT2 v1 _ w5 ((fl_ex hq1).mono (hxa.trans hx2)) ⟨_, _, _, _, rfl, hs.mono hx2, i2, j2, k2⟩)
  rw [ex_fouls.1, ex_fouls.2] at HC
  gi_wp2_with (gi_at_call 24; ((with_reducible refine (HC.out).mono ?_); rintro e w6 ⟨rfl, hx3⟩))
  have hxb : Ext w6 (w6.alloc (.cells #[.int .i64 1, .int .i64 0, .int .i64 1] 43)) := (Ext.refl _).alloc _
  have HX := hid (HX.out.trans ((((hx1.trans hxa).trans hx2).trans hx3).trans hxb))
  have HB1 := hid (((((hx1.trans hxa).trans hx2).trans hx3).trans hxb).block HB1.out)
  have HB2 : Hid ((w6.alloc (.cells #[.int .i64 1, .int .i64 0, .int .i64 1] 43)).heap[w6.heap.size]? = some (.cells #[.int .i64 1, .int .i64 0, .int .i64 1] 43 (0, 0))) := Ext.new (Ext.refl _)
  clear hx1 hxa hx2 hx3 hxb hq1 hs i2 j2 k2 HC
  gi_wp2_with (gi_at_call 42; ((with_reducible refine (distant_any _).mono ?_); rintro e w7 ⟨v1, rfl, hx1, hq1⟩))
  have HC := hid (Apart_c exD v1 0 1 3 w7 (fl_exd hq1))
  rw [ex_apart.1, ex_apart.2.1, ex_apart.2.2] at HC
  simp only [spnV] at HC
  gi_wp2_with (gi_at_call 28; ((with_reducible refine (HC.out).mono ?_); rintro e w8 ⟨rfl, hx2⟩))
  have hxc : Ext _ ((w8.alloc (.cells #[.int .i64 (-40), .int .i64 (-22)] 56)).alloc (.cells #[.int .i64 0, .int .i64 0] 56)) := ((hx1.trans hx2).alloc (.cells #[.int .i64 (-40), .int .i64 (-22)] 56)).alloc (.cells #[.int .i64 0, .int .i64 0] 56)
  have HX := hid (HX.out.trans hxc)
  have HB1 := hid (hxc.block HB1.out)
  have HB2 := hid (hxc.block HB2.out)
  have HB3 : Hid (((w8.alloc (.cells #[.int .i64 (-40), .int .i64 (-22)] 56)).alloc (.cells #[.int .i64 0, .int .i64 0] 56)).heap[w8.heap.size]? = some (.cells #[.int .i64 (-40), .int .i64 (-22)] 56 (0, 0))) := two_new
  have HB4 : Hid (((w8.alloc (.cells #[.int .i64 (-40), .int .i64 (-22)] 56)).alloc (.cells #[.int .i64 0, .int .i64 0] 56)).heap[w8.heap.size + 1]? = some (.cells #[.int .i64 0, .int .i64 0] 56 (0, 0))) := by have := Ext.new (w := (w8.alloc (.cells #[.int .i64 (-40), .int .i64 (-22)] 56))) (o := .cells #[.int .i64 0, .int .i64 0] 56) (Ext.refl _); rwa [World.size_alloc] at this
  clear hx1 hx2 hxc hq1 HC
  gi_wp2_with (gi_at_call 40; ((with_reducible refine (fleet_any _).mono ?_); rintro e w9 ⟨v1, rfl, hx1, hq1⟩))
  have HC := hid (Can_c exF v1 w9 (fl_ex hq1))
  rw [ex_can.1, ex_can.2] at HC
  gi_wp2_with (gi_at_call 21; ((with_reducible refine (HC.out).mono ?_); rintro e w10 ⟨rfl, hx2⟩))
  have hxc : Ext _ (w10.alloc (.cells #[.int .i64 1, .int .i64 0, .int .i64 1] 43)) := (hx1.trans hx2).alloc (.cells #[.int .i64 1, .int .i64 0, .int .i64 1] 43)
  have HX := hid (HX.out.trans hxc)
  have HB1 := hid (hxc.block HB1.out)
  have HB2 := hid (hxc.block HB2.out)
  have HB3 := hid (hxc.block HB3.out)
  have HB4 := hid (hxc.block HB4.out)
  have HB5 : Hid ((w10.alloc (.cells #[.int .i64 1, .int .i64 0, .int .i64 1] 43)).heap[w10.heap.size]? = some (.cells #[.int .i64 1, .int .i64 0, .int .i64 1] 43 (0, 0))) := Ext.new (Ext.refl _)
  clear hx1 hx2 hxc hq1 HC
  gi_wp2_with (gi_at_call 40; ((with_reducible refine (fleet_any _).mono ?_); rintro e w11 ⟨v1, rfl, hx1, hq1⟩))
  have HC := hid (Shift_c exF v1 1 100 w11 (fl_ex hq1))
  rw [ex_shift.1, ex_shift.2] at HC
  gi_wp2_with (gi_at_call 33; ((with_reducible refine (HC.out).mono ?_); rintro e w12 ⟨rfl, hx2⟩))
  have hxc : Ext _ w12 := hx1.trans hx2
  have HX := hid (HX.out.trans hxc)
  have HB1 := hid (hxc.block HB1.out)
  have HB2 := hid (hxc.block HB2.out)
  have HB3 := hid (hxc.block HB3.out)
  have HB4 := hid (hxc.block HB4.out)
  have HB5 := hid (hxc.block HB5.out)
  clear hx1 hx2 hxc hq1 HC
  have HC := hid fun e : Later w12 => And.intro (cell_of (Ext.block e.grown HB1.out)) (And.intro (cell_of (Ext.block e.grown HB2.out)) (And.intro (cell_of (Ext.block e.grown HB3.out)) (And.intro (cell_of (Ext.block e.grown HB4.out)) (cell_of (Ext.block e.grown HB5.out)))))
  have HAT := hid (fun u => at_any 51 0 u)
  have HT1 := hid (fun u => to_any (-40) (-22) u)
  have HT2 := hid (fun u => to_any 0 0 u)
  have q0 := HC.out
  refine quiet_wide 47 (by kernel_rfl) (by kernel_rfl) ?_
  simp only [List.take_succ_cons, List.take_zero, List.drop_succ_cons, List.drop_zero]
  repeat (any_goals (first | go_big_quiet_step ((first | (go_at_call 37; with_reducible exact Cal.quiet (HAT.out _)) | (go_at_call 31; with_reducible exact Cal.quiet (HT1.out _)) | (go_at_call 31; with_reducible exact Cal.quiet (HT2.out _)))) | quiet_step ((first | (go_at_call 37; with_reducible exact Cal.quiet (HAT.out _)) | (go_at_call 31; with_reducible exact Cal.quiet (HT1.out _)) | (go_at_call 31; with_reducible exact Cal.quiet (HT2.out _))))))
  refine wpQuiet_nil ?_
  rintro w13 ⟨⟨w13q, hx13⟩, hew⟩
  obtain rfl : w13 = w13q := hew
  have hx13 : Ext w12 w13 := hx13
  have HX := hid (HX.out.trans hx13)
  clear q0 HC HAT HT1 HT2 HB1 HB2 HB3 HB4 HB5 hx13
  gi_wp2_with (gi_at_call 43; ((with_reducible refine (torn_nil _).mono ?_); rintro e w14 ⟨v1, rfl, hx1, hq1⟩))

  have hxl : Ext w14 (((w14.alloc (.cells #[.int .i64 0, .int .i64 1, .int .i64 4] 3)).alloc (.cells #[.int .i64 1, .int .i64 2] 3)).alloc (.cells #[.slice (some ⟨w14.heap.size, 0, none⟩) 3 3, .slice (some ⟨w14.heap.size + 1, 0, none⟩) 2 2] 41)) := (((Ext.refl _).alloc _).alloc _).alloc _
  have hP : PiecesAt (((w14.alloc (.cells #[.int .i64 0, .int .i64 1, .int .i64 4] 3)).alloc (.cells #[.int .i64 1, .int .i64 2] 3)).alloc (.cells #[.slice (some ⟨w14.heap.size, 0, none⟩) 3 3, .slice (some ⟨w14.heap.size + 1, 0, none⟩) 2 2] 41)) (.slice (some ⟨w14.heap.size + 1 + 1, 0, none⟩) 2 2) exP := by
    have h1 : (((w14.alloc (.cells #[.int .i64 0, .int .i64 1, .int .i64 4] 3)).alloc (.cells #[.int .i64 1, .int .i64 2] 3)).alloc (.cells #[.slice (some ⟨w14.heap.size, 0, none⟩) 3 3, .slice (some ⟨w14.heap.size + 1, 0, none⟩) 2 2] 41)).heap[w14.heap.size]? = some (.cells #[.int .i64 0, .int .i64 1, .int .i64 4] 3 (0, 0)) := three_new
    have h2 : (((w14.alloc (.cells #[.int .i64 0, .int .i64 1, .int .i64 4] 3)).alloc (.cells #[.int .i64 1, .int .i64 2] 3)).alloc (.cells #[.slice (some ⟨w14.heap.size, 0, none⟩) 3 3, .slice (some ⟨w14.heap.size + 1, 0, none⟩) 2 2] 41)).heap[w14.heap.size + 1]? = some (.cells #[.int .i64 1, .int .i64 2] 3 (0, 0)) := three_mid
    have h3 : (((w14.alloc (.cells #[.int .i64 0, .int .i64 1, .int .i64 4] 3)).alloc (.cells #[.int .i64 1, .int .i64 2] 3)).alloc (.cells #[.slice (some ⟨w14.heap.size, 0, none⟩) 3 3, .slice (some ⟨w14.heap.size + 1, 0, none⟩) 2 2] 41)).heap[w14.heap.size + 1 + 1]? = some (.cells #[.slice (some ⟨w14.heap.size, 0, none⟩) 3 3, .slice (some ⟨w14.heap.size + 1, 0, none⟩) 2 2] 41 (0, 0)) := three_top
    generalize (((w14.alloc (.cells #[.int .i64 0, .int .i64 1, .int .i64 4] 3)).alloc (.cells #[.int .i64 1, .int .i64 2] 3)).alloc (.cells #[.slice (some ⟨w14.heap.size, 0, none⟩) 3 3, .slice (some ⟨w14.heap.size + 1, 0, none⟩) 2 2] 41)) = W at *
    have i1 : IntsAt W (.slice (some ⟨w14.heap.size, 0, none⟩) 3 3) [0, 1, 4] := ints_new (w := w14) 3 h1 rfl (by omega) (fun i hi => by rcases three hi with rfl | rfl | rfl <;> rfl)
    have i2 : IntsAt W (.slice (some ⟨w14.heap.size + 1, 0, none⟩) 2 2) [1, 2] := ints_new (w := w14) 2 h2 rfl (by omega) (fun i hi => by rcases two_c hi with rfl | rfl <;> rfl)
    refine ⟨_, 2, rfl, by simp [exP], fun i hi => ?_⟩
    rcases two_c hi with rfl | rfl
    · exact ⟨_, 0, _, rfl, lt_of_block h3, by rw [cell_of h3]; rfl, i1⟩
    · exact ⟨_, 0, _, rfl, lt_of_block h3, by rw [cell_of h3]; rfl, i2⟩
  have HC := hid (IsMend_c exN (.agg #[.int .i64 3, .int .i64 2, v1, .int .i64 10, .int .i64 3]) _ exP _ ⟨v1, rfl, hq1.mono hxl⟩ hP)
  rw [ex_mend.1, ex_mend.2.1, ex_mend.2.2] at HC
  have HX := hid (HX.out.trans (hx1.trans hxl))
  clear hP hxl hx1 hq1
  gi_wp2_with (gi_at_call 12; ((with_reducible refine HC.out.mono ?_); rintro e w15 ⟨rfl, hx2⟩))
  have HX := hid (HX.out.trans hx2)
  clear HC hx2
  have hg1 : (w15.alloc (.cells #[.int .i64 0, .int .i64 3] 86)).heap[w15.heap.size]? = some (.cells #[.int .i64 0, .int .i64 3] 86 (0, 0)) := Ext.new (Ext.refl _)
  have HC := hid (torn_one _ 0 3 _ hg1)
  have HX := hid (HX.out.alloc (.cells #[.int .i64 0, .int .i64 3] 86))
  clear hg1
  gi_wp2_with (gi_at_call 43; ((with_reducible refine HC.out.mono ?_); rintro e w16 ⟨v2, rfl, hx3, hq2⟩))
  have HX := hid (HX.out.trans hx3)
  clear HC hx3
  have HC := hid (Twine_c exN4 (.agg #[.int .i64 3, .int .i64 2, v2, .int .i64 10, .int .i64 3]) _ ⟨v2, rfl, hq2⟩)
  rw [ex_twine.1, ex_twine.2] at HC
  clear hq2
  gi_wp2_with (gi_at_call 16; ((with_reducible refine HC.out.mono ?_); rintro e w17 ⟨rfl, hx4⟩))
  have HX := hid (HX.out.trans hx4)
  clear HC hx4
  gi_wp2_with (gi_at_call 43; ((with_reducible refine (torn_nil _).mono ?_); rintro e w18 ⟨v3, rfl, hx5, hq3⟩))
  have HC := hid (Mend_c exN (.agg #[.int .i64 3, .int .i64 2, v3, .int .i64 10, .int .i64 3]) _ ⟨v3, rfl, hq3⟩)
  rw [ex_pieces.1] at HC
  have HX := hid (HX.out.trans hx5)
  clear hx5 hq3
  gi_wp2_with (gi_at_call 18; ((with_reducible refine HC.out.mono ?_); rintro e w19 ⟨v4, rfl, hx6, hq4⟩; obtain ⟨va, vc, rfl⟩ : ∃ a c, v4 = .slice a 2 c := pcs_slice hq4 ex_pieces.2))
  have HX := hid (HX.out.trans hx6)
  clear HC hx6 hq4
  gi_wp2_with fail
  go_ret
  exact ⟨rfl, HX.out⟩

end Go.Proofs.Ytmjelgonhpgmbaa
