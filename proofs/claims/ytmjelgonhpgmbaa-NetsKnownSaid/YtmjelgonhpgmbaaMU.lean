/- chosen: a truth, as numbers choose it. -/
import Derived.Test.YtmjelgonhpgmbaaMS
import Derived.Test.YtmjelgonhpgmbaaMO
set_option linter.unusedSimpArgs false
set_option linter.unusedVariables false
namespace Go.Proofs.Ytmjelgonhpgmbaa
open Go Go.RowKit Go.Shelf

theorem chosen_ext (lo hi n : Int) (w : World) (hb : (-1000000 ≤ lo ∧ lo ≤ 1000000) ∧ -1000000 ≤ hi ∧ hi ≤ 1000000) :
    Cal 36 #[.int .i64 lo, .int .i64 hi, .int .i64 n] w fun e w' => e = .returned (.int .i64 (chosenI lo hi n)) ∧ Ext w w' :=
  (chosen_num lo hi n w hb).mono fun e w' ⟨h1, h2⟩ => ⟨h1, h2 ▸ Ext.refl _⟩
theorem intsV_snoc (l : List Int) (x : Int) : intsV (l ++ [x]) = intsV l ++ [.int .i64 x] := by unfold intsV; simp
/-- Four rows of numbers in a box. -/
structure ChAt (w : World) (T : Nat) (v1 v2 v3 v4 : Value) (r1 r2 r3 r4 : List Int) : Prop where
  box : w.heap[T]? = some (.cells #[v1, v2, v3, v4] 50 (0, 0))
  row1 : Row w 3 1 v1 r1.length (intsV r1)
  row2 : Row w 3 1 v2 r2.length (intsV r2)
  row3 : Row w 3 1 v3 r3.length (intsV r3)
  row4 : Row w 3 1 v4 r4.length (intsV r4)
  own1 : ∀ g, v1.ownBlock = some g → T < g
  own2 : ∀ g, v2.ownBlock = some g → T < g
  own3 : ∀ g, v3.ownBlock = some g → T < g
  own4 : ∀ g, v4.ownBlock = some g → T < g
  d12 : ∀ g, v1.ownBlock = some g → v2.ownBlock ≠ some g
  d13 : ∀ g, v1.ownBlock = some g → v3.ownBlock ≠ some g
  d14 : ∀ g, v1.ownBlock = some g → v4.ownBlock ≠ some g
  d21 : ∀ g, v2.ownBlock = some g → v1.ownBlock ≠ some g
  d23 : ∀ g, v2.ownBlock = some g → v3.ownBlock ≠ some g
  d24 : ∀ g, v2.ownBlock = some g → v4.ownBlock ≠ some g
  d31 : ∀ g, v3.ownBlock = some g → v1.ownBlock ≠ some g
  d32 : ∀ g, v3.ownBlock = some g → v2.ownBlock ≠ some g
  d34 : ∀ g, v3.ownBlock = some g → v4.ownBlock ≠ some g
  d41 : ∀ g, v4.ownBlock = some g → v1.ownBlock ≠ some g
  d42 : ∀ g, v4.ownBlock = some g → v2.ownBlock ≠ some g
  d43 : ∀ g, v4.ownBlock = some g → v3.ownBlock ≠ some g
theorem ChAt.ext {w w' : World} {T : Nat} {v1 v2 v3 v4 : Value} {r1 r2 r3 r4 : List Int} (h : ChAt w T v1 v2 v3 v4 r1 r2 r3 r4) (hx : Ext w w') : ChAt w' T v1 v2 v3 v4 r1 r2 r3 r4 where
  box := hx.block h.box
  row1 := h.row1.mono hx
  row2 := h.row2.mono hx
  row3 := h.row3.mono hx
  row4 := h.row4.mono hx
  own1 := h.own1
  own2 := h.own2
  own3 := h.own3
  own4 := h.own4
  d12 := h.d12
  d13 := h.d13
  d14 := h.d14
  d21 := h.d21
  d23 := h.d23
  d24 := h.d24
  d31 := h.d31
  d32 := h.d32
  d34 := h.d34
  d41 := h.d41
  d42 := h.d42
  d43 := h.d43
theorem ChAt.add1 {w u : World} {T : Nat} {v1 v2 v3 v4 : Value} {r1 r2 r3 r4 : List Int} (h : ChAt w T v1 v2 v3 v4 r1 r2 r3 r4) (hg : w.grownBy u v1.ownBlock) {x : Value} {c : Int} (hx : gNew 3 1 w.heap.size (r1.length + 1) v1.ownBlock (intsV r1 ++ [.int .i64 c]) x u) : ChAt (u.setCell ⟨T, 0, none⟩ x) T x v2 v3 v4 (r1 ++ [c]) r2 r3 r4 := by
  obtain ⟨hrow, hown⟩ := hx
  have hb := grownBy_block hg h.box (fun e => by have := h.own1 _ e.symm; omega)
  have hT := lt_of_block h.box
  have ho : ∀ g, x.ownBlock = some g → T < g := fun g hg => by
    rcases hown with e | ⟨k, e, hk⟩
    · exact h.own1 g (by rw [← e]; exact hg)
    · rw [hg] at e; cases e; omega
  exact {
    box := set_same hb 0 x
    row1 := by rw [intsV_snoc, List.length_append, List.length_singleton]; exact hrow.set (fun e => by have := ho _ e; omega) _ _
    row2 := (h.row2.kept fun k o hk hb => grownBy_block hg hb fun e => h.d21 k hk e.symm).set (fun e => by have := h.own2 _ e; omega) _ _
    row3 := (h.row3.kept fun k o hk hb => grownBy_block hg hb fun e => h.d31 k hk e.symm).set (fun e => by have := h.own3 _ e; omega) _ _
    row4 := (h.row4.kept fun k o hk hb => grownBy_block hg hb fun e => h.d41 k hk e.symm).set (fun e => by have := h.own4 _ e; omega) _ _
    own1 := ho
    own2 := h.own2
    own3 := h.own3
    own4 := h.own4
    d12 := fun g hg hk => by
      rcases hown with e | ⟨q, e, hq⟩
      · exact h.d12 g (by rw [← e]; exact hg) hk
      · rw [hg] at e; cases e; have := h.row2.lt hk; omega
    d13 := fun g hg hk => by
      rcases hown with e | ⟨q, e, hq⟩
      · exact h.d13 g (by rw [← e]; exact hg) hk
      · rw [hg] at e; cases e; have := h.row3.lt hk; omega
    d14 := fun g hg hk => by
      rcases hown with e | ⟨q, e, hq⟩
      · exact h.d14 g (by rw [← e]; exact hg) hk
      · rw [hg] at e; cases e; have := h.row4.lt hk; omega
    d21 := fun g hg hk => by
      rcases hown with e | ⟨q, e, hq⟩
      · exact h.d21 g hg (by rw [← e]; exact hk)
      · rw [hk] at e; cases e; have := h.row2.lt hg; omega
    d23 := h.d23
    d24 := h.d24
    d31 := fun g hg hk => by
      rcases hown with e | ⟨q, e, hq⟩
      · exact h.d31 g hg (by rw [← e]; exact hk)
      · rw [hk] at e; cases e; have := h.row3.lt hg; omega
    d32 := h.d32
    d34 := h.d34
    d41 := fun g hg hk => by
      rcases hown with e | ⟨q, e, hq⟩
      · exact h.d41 g hg (by rw [← e]; exact hk)
      · rw [hk] at e; cases e; have := h.row4.lt hg; omega
    d42 := h.d42
    d43 := h.d43
  }
theorem ChAt.add2 {w u : World} {T : Nat} {v1 v2 v3 v4 : Value} {r1 r2 r3 r4 : List Int} (h : ChAt w T v1 v2 v3 v4 r1 r2 r3 r4) (hg : w.grownBy u v2.ownBlock) {x : Value} {c : Int} (hx : gNew 3 1 w.heap.size (r2.length + 1) v2.ownBlock (intsV r2 ++ [.int .i64 c]) x u) : ChAt (u.setCell ⟨T, 1, none⟩ x) T v1 x v3 v4 r1 (r2 ++ [c]) r3 r4 := by
  obtain ⟨hrow, hown⟩ := hx
  have hb := grownBy_block hg h.box (fun e => by have := h.own2 _ e.symm; omega)
  have hT := lt_of_block h.box
  have ho : ∀ g, x.ownBlock = some g → T < g := fun g hg => by
    rcases hown with e | ⟨k, e, hk⟩
    · exact h.own2 g (by rw [← e]; exact hg)
    · rw [hg] at e; cases e; omega
  exact {
    box := set_same hb 1 x
    row1 := (h.row1.kept fun k o hk hb => grownBy_block hg hb fun e => h.d12 k hk e.symm).set (fun e => by have := h.own1 _ e; omega) _ _
    row2 := by rw [intsV_snoc, List.length_append, List.length_singleton]; exact hrow.set (fun e => by have := ho _ e; omega) _ _
    row3 := (h.row3.kept fun k o hk hb => grownBy_block hg hb fun e => h.d32 k hk e.symm).set (fun e => by have := h.own3 _ e; omega) _ _
    row4 := (h.row4.kept fun k o hk hb => grownBy_block hg hb fun e => h.d42 k hk e.symm).set (fun e => by have := h.own4 _ e; omega) _ _
    own1 := h.own1
    own2 := ho
    own3 := h.own3
    own4 := h.own4
    d12 := fun g hg hk => by
      rcases hown with e | ⟨q, e, hq⟩
      · exact h.d12 g hg (by rw [← e]; exact hk)
      · rw [hk] at e; cases e; have := h.row1.lt hg; omega
    d13 := h.d13
    d14 := h.d14
    d21 := fun g hg hk => by
      rcases hown with e | ⟨q, e, hq⟩
      · exact h.d21 g (by rw [← e]; exact hg) hk
      · rw [hg] at e; cases e; have := h.row1.lt hk; omega
    d23 := fun g hg hk => by
      rcases hown with e | ⟨q, e, hq⟩
      · exact h.d23 g (by rw [← e]; exact hg) hk
      · rw [hg] at e; cases e; have := h.row3.lt hk; omega
    d24 := fun g hg hk => by
      rcases hown with e | ⟨q, e, hq⟩
      · exact h.d24 g (by rw [← e]; exact hg) hk
      · rw [hg] at e; cases e; have := h.row4.lt hk; omega
    d31 := h.d31
    d32 := fun g hg hk => by
      rcases hown with e | ⟨q, e, hq⟩
      · exact h.d32 g hg (by rw [← e]; exact hk)
      · rw [hk] at e; cases e; have := h.row3.lt hg; omega
    d34 := h.d34
    d41 := h.d41
    d42 := fun g hg hk => by
      rcases hown with e | ⟨q, e, hq⟩
      · exact h.d42 g hg (by rw [← e]; exact hk)
      · rw [hk] at e; cases e; have := h.row4.lt hg; omega
    d43 := h.d43
  }
theorem ChAt.add3 {w u : World} {T : Nat} {v1 v2 v3 v4 : Value} {r1 r2 r3 r4 : List Int} (h : ChAt w T v1 v2 v3 v4 r1 r2 r3 r4) (hg : w.grownBy u v3.ownBlock) {x : Value} {c : Int} (hx : gNew 3 1 w.heap.size (r3.length + 1) v3.ownBlock (intsV r3 ++ [.int .i64 c]) x u) : ChAt (u.setCell ⟨T, 2, none⟩ x) T v1 v2 x v4 r1 r2 (r3 ++ [c]) r4 := by
  obtain ⟨hrow, hown⟩ := hx
  have hb := grownBy_block hg h.box (fun e => by have := h.own3 _ e.symm; omega)
  have hT := lt_of_block h.box
  have ho : ∀ g, x.ownBlock = some g → T < g := fun g hg => by
    rcases hown with e | ⟨k, e, hk⟩
    · exact h.own3 g (by rw [← e]; exact hg)
    · rw [hg] at e; cases e; omega
  exact {
    box := set_same hb 2 x
    row1 := (h.row1.kept fun k o hk hb => grownBy_block hg hb fun e => h.d13 k hk e.symm).set (fun e => by have := h.own1 _ e; omega) _ _
    row2 := (h.row2.kept fun k o hk hb => grownBy_block hg hb fun e => h.d23 k hk e.symm).set (fun e => by have := h.own2 _ e; omega) _ _
    row3 := by rw [intsV_snoc, List.length_append, List.length_singleton]; exact hrow.set (fun e => by have := ho _ e; omega) _ _
    row4 := (h.row4.kept fun k o hk hb => grownBy_block hg hb fun e => h.d43 k hk e.symm).set (fun e => by have := h.own4 _ e; omega) _ _
    own1 := h.own1
    own2 := h.own2
    own3 := ho
    own4 := h.own4
    d12 := h.d12
    d13 := fun g hg hk => by
      rcases hown with e | ⟨q, e, hq⟩
      · exact h.d13 g hg (by rw [← e]; exact hk)
      · rw [hk] at e; cases e; have := h.row1.lt hg; omega
    d14 := h.d14
    d21 := h.d21
    d23 := fun g hg hk => by
      rcases hown with e | ⟨q, e, hq⟩
      · exact h.d23 g hg (by rw [← e]; exact hk)
      · rw [hk] at e; cases e; have := h.row2.lt hg; omega
    d24 := h.d24
    d31 := fun g hg hk => by
      rcases hown with e | ⟨q, e, hq⟩
      · exact h.d31 g (by rw [← e]; exact hg) hk
      · rw [hg] at e; cases e; have := h.row1.lt hk; omega
    d32 := fun g hg hk => by
      rcases hown with e | ⟨q, e, hq⟩
      · exact h.d32 g (by rw [← e]; exact hg) hk
      · rw [hg] at e; cases e; have := h.row2.lt hk; omega
    d34 := fun g hg hk => by
      rcases hown with e | ⟨q, e, hq⟩
      · exact h.d34 g (by rw [← e]; exact hg) hk
      · rw [hg] at e; cases e; have := h.row4.lt hk; omega
    d41 := h.d41
    d42 := h.d42
    d43 := fun g hg hk => by
      rcases hown with e | ⟨q, e, hq⟩
      · exact h.d43 g hg (by rw [← e]; exact hk)
      · rw [hk] at e; cases e; have := h.row4.lt hg; omega
  }
theorem ChAt.add4 {w u : World} {T : Nat} {v1 v2 v3 v4 : Value} {r1 r2 r3 r4 : List Int} (h : ChAt w T v1 v2 v3 v4 r1 r2 r3 r4) (hg : w.grownBy u v4.ownBlock) {x : Value} {c : Int} (hx : gNew 3 1 w.heap.size (r4.length + 1) v4.ownBlock (intsV r4 ++ [.int .i64 c]) x u) : ChAt (u.setCell ⟨T, 3, none⟩ x) T v1 v2 v3 x r1 r2 r3 (r4 ++ [c]) := by
  obtain ⟨hrow, hown⟩ := hx
  have hb := grownBy_block hg h.box (fun e => by have := h.own4 _ e.symm; omega)
  have hT := lt_of_block h.box
  have ho : ∀ g, x.ownBlock = some g → T < g := fun g hg => by
    rcases hown with e | ⟨k, e, hk⟩
    · exact h.own4 g (by rw [← e]; exact hg)
    · rw [hg] at e; cases e; omega
  exact {
    box := set_same hb 3 x
    row1 := (h.row1.kept fun k o hk hb => grownBy_block hg hb fun e => h.d14 k hk e.symm).set (fun e => by have := h.own1 _ e; omega) _ _
    row2 := (h.row2.kept fun k o hk hb => grownBy_block hg hb fun e => h.d24 k hk e.symm).set (fun e => by have := h.own2 _ e; omega) _ _
    row3 := (h.row3.kept fun k o hk hb => grownBy_block hg hb fun e => h.d34 k hk e.symm).set (fun e => by have := h.own3 _ e; omega) _ _
    row4 := by rw [intsV_snoc, List.length_append, List.length_singleton]; exact hrow.set (fun e => by have := ho _ e; omega) _ _
    own1 := h.own1
    own2 := h.own2
    own3 := h.own3
    own4 := ho
    d12 := h.d12
    d13 := h.d13
    d14 := fun g hg hk => by
      rcases hown with e | ⟨q, e, hq⟩
      · exact h.d14 g hg (by rw [← e]; exact hk)
      · rw [hk] at e; cases e; have := h.row1.lt hg; omega
    d21 := h.d21
    d23 := h.d23
    d24 := fun g hg hk => by
      rcases hown with e | ⟨q, e, hq⟩
      · exact h.d24 g hg (by rw [← e]; exact hk)
      · rw [hk] at e; cases e; have := h.row2.lt hg; omega
    d31 := h.d31
    d32 := h.d32
    d34 := fun g hg hk => by
      rcases hown with e | ⟨q, e, hq⟩
      · exact h.d34 g hg (by rw [← e]; exact hk)
      · rw [hk] at e; cases e; have := h.row3.lt hg; omega
    d41 := fun g hg hk => by
      rcases hown with e | ⟨q, e, hq⟩
      · exact h.d41 g (by rw [← e]; exact hg) hk
      · rw [hg] at e; cases e; have := h.row1.lt hk; omega
    d42 := fun g hg hk => by
      rcases hown with e | ⟨q, e, hq⟩
      · exact h.d42 g (by rw [← e]; exact hg) hk
      · rw [hg] at e; cases e; have := h.row2.lt hk; omega
    d43 := fun g hg hk => by
      rcases hown with e | ⟨q, e, hq⟩
      · exact h.d43 g (by rw [← e]; exact hg) hk
      · rw [hg] at e; cases e; have := h.row3.lt hk; omega
  }

def chTo (l : List Spn) (bits : List Int) (off : Int) (k : Nat) : List Int := (List.range k).map fun i => chosenI (l.getD i ⟨0, 0⟩).lo (l.getD i ⟨0, 0⟩).hi (pickI bits (i + off))
theorem chTo_succ (l : List Spn) (bits : List Int) (off : Int) {k : Nat} (h : k < l.length) : chTo l bits off (k + 1) = chTo l bits off k ++ [chosenI l[k].lo l[k].hi (pickI bits (k + off))] := by
  unfold chTo
  rw [List.range_succ, List.map_append, List.map_cons, List.map_nil, getD_of h]
theorem chTo_len (l : List Spn) (bits : List Int) (off : Int) (k : Nat) : (chTo l bits off k).length = k := by simp [chTo]
def chosenT (F : FleetD) (bits : List Int) : TruthD := ⟨chTo F.east bits 0 F.east.length, chTo F.north bits 3 F.east.length, chTo (F.nets.map (·.se)) bits 5 F.nets.length, chTo (F.nets.map (·.sn)) bits 8 F.nets.length⟩
theorem chTo_within {l : List Spn} (h : ∀ s ∈ l, s.lo ≤ s.hi) (bits : List Int) (off : Int) : withinB (chTo l bits off l.length) l = true := by
  unfold withinB
  rw [chTo_len, allTo_yes (good := withinGood (chTo l bits off l.length) l) fun i hi => by
    rw [withinGood_eq hi (by rw [chTo_len]; exact hi)]
    apply inB_of
    unfold chTo
    rw [List.getElem_map, List.getElem_range, getD_of hi]
    exact chosenI_ok _ (h _ (List.getElem_mem hi))]
  simp
theorem chosenT_ok {F : FleetD} (hF : FleetOk F) (bits : List Int) : truthB F (chosenT F bits) = true := by
  unfold truthB chosenT
  simp only
  have h1 := chTo_within hF.easto bits 0
  have h2 := chTo_within (l := F.nets.map (·.se)) (fun s hs => by obtain ⟨m, hm, rfl⟩ := List.mem_map.1 hs; exact (hF.nets m hm).seo) bits 5
  have h3 := chTo_within hF.northo bits 3
  have h4 := chTo_within (l := F.nets.map (·.sn)) (fun s hs => by obtain ⟨m, hm, rfl⟩ := List.mem_map.1 hs; exact (hF.nets m hm).sno) bits 8
  rw [hF.same] at h3
  rw [List.length_map] at h2 h4
  rw [h1, h2, h3, h4]
  rfl



theorem ch_keep {w w5 u : World} {ob : Option Nat} (hx : Ext w w5) (hob : ∀ g, ob = some g → w.heap.size + 2 < g) (hg : w5.grownBy u ob) : Ext w u :=
  Below.trans hx ⟨hg.os, hg.tape, hg.output, hg.size, fun j hj => hg.block j (Nat.lt_of_lt_of_le hj hx.size) (fun e => by have := hob j e.symm; omega)⟩

def ChI (w : World) (FB : Array Value) (r1 r2 r3 r4 : List Int) (u : World) : Prop := Ext w u ∧ u.heap[w.heap.size]? = some (.cells FB 40 (0, 0)) ∧ u.heap[w.heap.size + 1]? = some (.cells #[.slice none 0 0, .slice none 0 0, .slice none 0 0, .slice none 0 0] 50 (0, 0)) ∧ ∃ v1 v2 v3 v4, ChAt u (w.heap.size + 2) v1 v2 v3 v4 r1 r2 r3 r4
/-- Four rows of numbers that are new. -/
structure Four (n0 : Nat) (w : World) (v1 v2 v3 v4 : Value) (r1 r2 r3 r4 : List Int) : Prop where
  row1 : Row w 3 1 v1 r1.length (intsV r1)
  row2 : Row w 3 1 v2 r2.length (intsV r2)
  row3 : Row w 3 1 v3 r3.length (intsV r3)
  row4 : Row w 3 1 v4 r4.length (intsV r4)
  own1 : ∀ g, v1.ownBlock = some g → n0 ≤ g
  own2 : ∀ g, v2.ownBlock = some g → n0 ≤ g
  own3 : ∀ g, v3.ownBlock = some g → n0 ≤ g
  own4 : ∀ g, v4.ownBlock = some g → n0 ≤ g
  d12 : ∀ g, v1.ownBlock = some g → v2.ownBlock ≠ some g
  d13 : ∀ g, v1.ownBlock = some g → v3.ownBlock ≠ some g
  d14 : ∀ g, v1.ownBlock = some g → v4.ownBlock ≠ some g
  d21 : ∀ g, v2.ownBlock = some g → v1.ownBlock ≠ some g
  d23 : ∀ g, v2.ownBlock = some g → v3.ownBlock ≠ some g
  d24 : ∀ g, v2.ownBlock = some g → v4.ownBlock ≠ some g
  d31 : ∀ g, v3.ownBlock = some g → v1.ownBlock ≠ some g
  d32 : ∀ g, v3.ownBlock = some g → v2.ownBlock ≠ some g
  d34 : ∀ g, v3.ownBlock = some g → v4.ownBlock ≠ some g
  d41 : ∀ g, v4.ownBlock = some g → v1.ownBlock ≠ some g
  d42 : ∀ g, v4.ownBlock = some g → v2.ownBlock ≠ some g
  d43 : ∀ g, v4.ownBlock = some g → v3.ownBlock ≠ some g
theorem Four.ext {n0 : Nat} {w w' : World} {v1 v2 v3 v4 : Value} {r1 r2 r3 r4 : List Int} (h : Four n0 w v1 v2 v3 v4 r1 r2 r3 r4) (hx : Ext w w') : Four n0 w' v1 v2 v3 v4 r1 r2 r3 r4 where
  row1 := h.row1.mono hx
  row2 := h.row2.mono hx
  row3 := h.row3.mono hx
  row4 := h.row4.mono hx
  own1 := h.own1
  own2 := h.own2
  own3 := h.own3
  own4 := h.own4
  d12 := h.d12
  d13 := h.d13
  d14 := h.d14
  d21 := h.d21
  d23 := h.d23
  d24 := h.d24
  d31 := h.d31
  d32 := h.d32
  d34 := h.d34
  d41 := h.d41
  d42 := h.d42
  d43 := h.d43
theorem ChAt.four {u : World} {T n0 g : Nat} {v1 v2 v3 v4 : Value} {r1 r2 r3 r4 : List Int} (h : ChAt u T v1 v2 v3 v4 r1 r2 r3 r4) (hn : n0 ≤ T) (hg : g ≤ T) (a b c d : Value) : Four n0 ((((u.setCell ⟨g, 0, none⟩ a).setCell ⟨g, 1, none⟩ b).setCell ⟨g, 2, none⟩ c).setCell ⟨g, 3, none⟩ d) v1 v2 v3 v4 r1 r2 r3 r4 := by
  have k1 : v1.ownBlock ≠ some g := fun e => by have := h.own1 _ e; omega
  have k2 : v2.ownBlock ≠ some g := fun e => by have := h.own2 _ e; omega
  have k3 : v3.ownBlock ≠ some g := fun e => by have := h.own3 _ e; omega
  have k4 : v4.ownBlock ≠ some g := fun e => by have := h.own4 _ e; omega
  exact {
    row1 := (((h.row1.set k1 0 a).set k1 1 b).set k1 2 c).set k1 3 d
    row2 := (((h.row2.set k2 0 a).set k2 1 b).set k2 2 c).set k2 3 d
    row3 := (((h.row3.set k3 0 a).set k3 1 b).set k3 2 c).set k3 3 d
    row4 := (((h.row4.set k4 0 a).set k4 1 b).set k4 2 c).set k4 3 d
    own1 := fun g hg => by have := h.own1 g hg; omega
    own2 := fun g hg => by have := h.own2 g hg; omega
    own3 := fun g hg => by have := h.own3 g hg; omega
    own4 := fun g hg => by have := h.own4 g hg; omega
    d12 := h.d12
    d13 := h.d13
    d14 := h.d14
    d21 := h.d21
    d23 := h.d23
    d24 := h.d24
    d31 := h.d31
    d32 := h.d32
    d34 := h.d34
    d41 := h.d41
    d42 := h.d42
    d43 := h.d43
  }

set_option maxRecDepth 100000 in
set_option maxHeartbeats 8000000 in
theorem chosen_any (F : FleetD) (hF : fleetB F = true) (bits : List Int) (ev nv sv bv : Value) (w : World) (he : SpansAt w ev F.east) (hn : SpansAt w nv F.north) (hs : ShotsAt w sv F.nets) (hb : IntsAt w bv bits) :
    Cal 25 #[.agg #[ev, nv, .int .i64 F.gap, sv], bv] w fun e w' => ∃ v1 v2 v3 v4, e = .returned (.agg #[v1, v2, v3, v4]) ∧ Ext w w' ∧ Four w.heap.size w' v1 v2 v3 v4 (chosenT F bits).east (chosenT F bits).north (chosenT F bits).se (chosenT F bits).sn := by
  have HBI := hid hb
  have ok := fleetB_ok hF
  have hcn := ok.count
  have hh := ok.hours
  have HSM := hid ok.same
  obtain ⟨ea, ec, rfl, hel, hec⟩ := he
  obtain ⟨na, nc, rfl, hnl, hnc⟩ := hn
  obtain ⟨sa, sc, rfl, hsl, hsc⟩ := hs
  obtain ⟨ba, bc, rfl, hbl, _⟩ := hb
  have HEC := hid (And.intro hec (And.intro hnc hsc))
  have HTI := hid (And.intro ok.east ok.north)
  have HNE := hid (fun (i : Nat) (h : i < F.nets.length) => ok.nets F.nets[i] (List.getElem_mem h))
  clear hec hnc hsc ok
  gi_enter Try.func25, Try.ntmps25
  gi_upto_region 2 with fail
  have hI0 : ChI w #[.slice ea F.east.length ec, .slice na F.north.length nc, .int .i64 F.gap, .slice sa F.nets.length sc] (chTo F.east bits 0 0) (chTo F.north bits 3 0) [] [] (((w.alloc (.cells #[.slice ea F.east.length ec, .slice na F.north.length nc, .int .i64 F.gap, .slice sa F.nets.length sc] 40)).alloc (.cells #[.slice none 0 0, .slice none 0 0, .slice none 0 0, .slice none 0 0] 50)).alloc (.cells #[.slice none 0 0, .slice none 0 0, .slice none 0 0, .slice none 0 0] 50)) := by
    refine ⟨(((Ext.refl _).alloc _).alloc _).alloc _, three_new, three_mid, .slice none 0 0, .slice none 0 0, .slice none 0 0, .slice none 0 0, ?_⟩
    exact { box := three_top, row1 := Row.nil _ _ _, row2 := Row.nil _ _ _, row3 := Row.nil _ _ _, row4 := Row.nil _ _ _, own1 := fun g hg => by simp [Value.ownBlock] at hg, own2 := fun g hg => by simp [Value.ownBlock] at hg, own3 := fun g hg => by simp [Value.ownBlock] at hg, own4 := fun g hg => by simp [Value.ownBlock] at hg, d12 := fun g hg => by simp [Value.ownBlock] at hg, d13 := fun g hg => by simp [Value.ownBlock] at hg, d14 := fun g hg => by simp [Value.ownBlock] at hg, d21 := fun g hg => by simp [Value.ownBlock] at hg, d23 := fun g hg => by simp [Value.ownBlock] at hg, d24 := fun g hg => by simp [Value.ownBlock] at hg, d31 := fun g hg => by simp [Value.ownBlock] at hg, d32 := fun g hg => by simp [Value.ownBlock] at hg, d34 := fun g hg => by simp [Value.ownBlock] at hg, d41 := fun g hg => by simp [Value.ownBlock] at hg, d42 := fun g hg => by simp [Value.ownBlock] at hg, d43 := fun g hg => by simp [Value.ownBlock] at hg }
  have HI0 := hid hI0
  clear hI0
  generalize ((w.alloc (.cells #[.slice ea F.east.length ec, .slice na F.north.length nc, .int .i64 F.gap, .slice sa F.nets.length sc] 40)).alloc (.cells #[.slice none 0 0, .slice none 0 0, .slice none 0 0, .slice none 0 0] 50)).alloc (.cells #[.slice none 0 0, .slice none 0 0, .slice none 0 0, .slice none 0 0] 50) = W0 at *
  gi_wp2_with fail
  gi_loopw [6] (fun i wr => ∃ k : Nat, k ≤ F.east.length ∧ i = .int .i64 k ∧ Hid (ChI w #[.slice ea F.east.length ec, .slice na F.north.length nc, .int .i64 F.gap, .slice sa F.nets.length sc] (chTo F.east bits 0 k) (chTo F.north bits 3 k) [] [] wr)) (fun i _ => F.east.length - (intOf i).toNat)
  case atStart => exact ⟨0, Nat.zero_le _, rfl, HI0⟩
  case round =>
    obtain ⟨k, hk, rfl, hI⟩ := hrel
    clear HI0
    obtain ⟨hx, hb0, hb1, v1, v2, v3, v4, hch⟩ := hI.out
    have HCH := hid hch
    have HX := hid hx
    have HB0 := hid hb0
    have HB1 := hid hb1
    have c0 := cell_of hb0
    clear hI hch hx hb0 hb1
    by_cases hlt : k < F.east.length
    · have hki : (k : Int) < F.east.length := by omega
      have hw3 : IntKind.i64.wrap ((k : Int) + 3) = k + 3 := by rw [IntKind.wrap_i64]; omega
      have hkn : (k : Int) < F.north.length := by have := HSM.out; omega
      have hkN : k < F.north.length := by have := HSM.out; omega
      obtain ⟨eb, eo, rfl, heb, he0, he1⟩ := HEC.out.1 k hlt
      obtain ⟨nb, no, rfl, hnb, hn0, hn1⟩ := HEC.out.2.1 k hkN
      have HL1 := hid (And.intro heb he0)
      have HH1 := hid (And.intro heb he1)
      have HL2 := hid (And.intro hnb hn0)
      have HH2 := hid (And.intro hnb hn1)
      have hti1 := HTI.out.1 _ (List.getElem_mem hlt)
      have hti2 := HTI.out.2 _ (List.getElem_mem hkN)
      unfold spIn at hti1 hti2
      have HT1 := hid (chTo_succ F.east bits 0 hlt)
      have HT2 := hid (chTo_succ F.north bits 3 hkN)
      rw [Int.add_zero] at HT1
      have HLEN : Hid ((chTo F.east bits 0 k).length ≤ 1000 ∧ (chTo F.north bits 3 k).length ≤ 1000) := by show _ ∧ _; rw [chTo_len, chTo_len]; omega
      clear he0 he1 hn0 hn1 heb hnb
      generalize F.east[k] = es at *
      generalize F.north[k] = ns at *
      have HLH : Hid ((-1000000 ≤ es.lo ∧ es.lo ≤ 1000000) ∧ -1000000 ≤ es.hi ∧ es.hi ≤ 1000000) := by show _ ∧ _; omega
      have HLH2 : Hid ((-1000000 ≤ ns.lo ∧ ns.lo ≤ 1000000) ∧ -1000000 ≤ ns.hi ∧ ns.hi ≤ 1000000) := by show _ ∧ _; omega
      clear hti1 hti2
      generalize chTo F.east bits 0 k = r1 at *
      generalize chTo F.north bits 3 k = r2 at *
      obtain ⟨es0, es1⟩ := es
      obtain ⟨ns0, ns1⟩ := ns
      simp only at HL1 HH1 HL2 HH2 HT1 HT2 HLH HLH2
      gi_wp2_with fail
      clear c0
      have hob := HCH.out.own1
      have hobl : ∀ g, v1.ownBlock = some g → g < wr.heap.size := fun g hg => HCH.out.row1.lt hg
      have HOB := hid (And.intro hob hobl)
      have HG := hid (fun (u : World) (hu : wr.grownBy u v1.ownBlock) => And.intro (grownBy_block hu HCH.out.box (fun e => by have := HOB.out.1 _ e.symm; omega)) (And.intro (grownBy_block hu HB0.out (fun e => by have := HOB.out.1 _ e.symm; omega)) (ch_keep HX.out HOB.out.1 hu)))
      clear hob hobl
      refine lex_own 20 [(18, gRow 3 wr.heap.size [.int .i64 (chosenI es0 es1 (pickI bits ((k : Int))))]), (19, gNew 3 1 wr.heap.size ((r1).length + 1) v1.ownBlock (intsV (r1) ++ [.int .i64 (chosenI es0 es1 (pickI bits ((k : Int))))]))] (gR v1.ownBlock 19) (gC wr v1.ownBlock 19) (fun u => wr.grownBy u v1.ownBlock) (by kernel_rfl) (by kernel_rfl)
        (fun i => ?_) ((Ext.drawn wr).grown _) gC_ok gE_ok (gStab_free (gRow_free fun g hg => HOB.out.2 g hg) (gStab_last gNew_ext gStab_nil)) ?_
      · unfold gC
        split
        · exact Ext.drawn wr
        · exact (Ext.drawn wr).grown _
      simp only [List.take_succ_cons, List.take_zero, List.drop_succ_cons, List.drop_zero]
      apply gg_fun rfl (by omega)
      · intro x u hR
        clear hR
        go_simp
        exact ⟨rfl, Ext.refl _⟩
      simp only [Act.put, List.setIfInBounds_toArray, List.set_cons_succ, List.set_cons_zero]
      apply gg_fun rfl (by omega)
      · intro x u hR
        have c1 := cell_of (HG.out u hR).1
        clear hR
        go_simp
        exact ⟨rfl, Ext.refl _⟩
      simp only [Act.put, List.setIfInBounds_toArray, List.set_cons_succ, List.set_cons_zero]
      apply gg_fun rfl (by omega)
      · intro x u hR
        clear hR
        go_simp
        exact ⟨rfl, Ext.refl _⟩
      simp only [Act.put, List.setIfInBounds_toArray, List.set_cons_succ, List.set_cons_zero]
      apply gg_fun rfl (by omega)
      · intro x u hR
        have c1 := cell_of (HG.out u hR).2.1
        clear hR
        go_simp
        exact ⟨rfl, Ext.refl _⟩
      simp only [Act.put, List.setIfInBounds_toArray, List.set_cons_succ, List.set_cons_zero]
      apply gg_fun rfl (by omega)
      · intro x u hR
        clear hR
        go_simp
        exact ⟨rfl, Ext.refl _⟩
      simp only [Act.put, List.setIfInBounds_toArray, List.set_cons_succ, List.set_cons_zero]
      apply gg_fun rfl (by omega)
      · intro x u hR
        clear hR
        go_simp
        exact ⟨rfl, Ext.refl _⟩
      simp only [Act.put, List.setIfInBounds_toArray, List.set_cons_succ, List.set_cons_zero]
      apply gg_fun rfl (by omega)
      · intro x u hR
        clear hR
        go_simp
        exact ⟨rfl, Ext.refl _⟩
      simp only [Act.put, List.setIfInBounds_toArray, List.set_cons_succ, List.set_cons_zero]
      apply gg_fun rfl (by omega)
      · intro x u hR
        have c1 := ((HG.out u hR).2.2.cell (p := ⟨_, _, none⟩) HL1.1).trans HL1.2
        clear hR
        go_simp
        exact ⟨rfl, Ext.refl _⟩
      simp only [Act.put, List.setIfInBounds_toArray, List.set_cons_succ, List.set_cons_zero]
      apply gg_fun rfl (by omega)
      · intro x u hR
        clear hR
        go_simp
        exact ⟨rfl, Ext.refl _⟩
      simp only [Act.put, List.setIfInBounds_toArray, List.set_cons_succ, List.set_cons_zero]
      apply gg_fun rfl (by omega)
      · intro x u hR
        have c1 := cell_of (HG.out u hR).2.1
        clear hR
        go_simp
        exact ⟨rfl, Ext.refl _⟩
      simp only [Act.put, List.setIfInBounds_toArray, List.set_cons_succ, List.set_cons_zero]
      apply gg_fun rfl (by omega)
      · intro x u hR
        clear hR
        go_simp
        exact ⟨rfl, Ext.refl _⟩
      simp only [Act.put, List.setIfInBounds_toArray, List.set_cons_succ, List.set_cons_zero]
      apply gg_fun rfl (by omega)
      · intro x u hR
        clear hR
        go_simp
        exact ⟨rfl, Ext.refl _⟩
      simp only [Act.put, List.setIfInBounds_toArray, List.set_cons_succ, List.set_cons_zero]
      apply gg_fun rfl (by omega)
      · intro x u hR
        clear hR
        go_simp
        exact ⟨rfl, Ext.refl _⟩
      simp only [Act.put, List.setIfInBounds_toArray, List.set_cons_succ, List.set_cons_zero]
      apply gg_fun rfl (by omega)
      · intro x u hR
        have c1 := ((HG.out u hR).2.2.cell (p := ⟨_, _, none⟩) HH1.1).trans HH1.2
        clear hR
        go_simp
        exact ⟨rfl, Ext.refl _⟩
      simp only [Act.put, List.setIfInBounds_toArray, List.set_cons_succ, List.set_cons_zero]
      apply gg_fun rfl (by omega)
      · intro x u hR
        clear hR
        go_simp
        exact ⟨rfl, Ext.refl _⟩
      simp only [Act.put, List.setIfInBounds_toArray, List.set_cons_succ, List.set_cons_zero]
      apply gg_fun rfl (by omega)
      · intro x u hR
        clear hR
        go_simp
        exact ⟨rfl, Ext.refl _⟩
      simp only [Act.put, List.setIfInBounds_toArray, List.set_cons_succ, List.set_cons_zero]
      refine gg_fun (v := .int .i64 (pickI bits ((k : Int)))) rfl (by omega) ?_ ?_
      · intro x u hR
        have hcal := hid (Pick_any (.slice ba bits.length bc) bits ((k : Int)) u (HBI.out.mono (HG.out u hR).2.2))
        clear hR
        go_simp
        with_reducible refine hcal.out.mono ?_
        exact fun e w'' ⟨he, hx'⟩ => ⟨_, he, rfl, hx'⟩
      simp only [Act.put, List.setIfInBounds_toArray, List.set_cons_succ, List.set_cons_zero]
      refine gg_fun (v := .int .i64 (chosenI es0 es1 (pickI bits ((k : Int))))) rfl (by omega) ?_ ?_
      · intro x u hR
        have hcal := hid (chosen_ext es0 es1 (pickI bits ((k : Int))) u HLH.out)
        clear hR
        go_simp
        with_reducible refine hcal.out.mono ?_
        exact fun e w'' ⟨he, hx'⟩ => ⟨_, he, rfl, hx'⟩
      simp only [Act.put, List.setIfInBounds_toArray, List.set_cons_succ, List.set_cons_zero]
      refine gg_pred (p := gRow 3 wr.heap.size [.int .i64 (chosenI es0 es1 (pickI bits ((k : Int))))]) rfl (by omega) ?_ ?_
      · intro x u hR hf
        have hn := hR.size
        clear hR hf
        go_simp
        exact ⟨⟨_, rfl, Ext.new (Ext.refl _), hn⟩, (Ext.refl _).alloc _⟩
      simp only [Act.put, List.setIfInBounds_toArray, List.set_cons_succ, List.set_cons_zero]
      refine gg_last (p := gNew 3 1 wr.heap.size ((r1).length + 1) v1.ownBlock (intsV (r1) ++ [.int .i64 (chosenI es0 es1 (pickI bits ((k : Int))))])) rfl ?_ ?_
      · intro x u hR hf
        have h15 : gRow 3 wr.heap.size [.int .i64 (chosenI es0 es1 (pickI bits ((k : Int))))] (x 18) u := by first | exact hf.1 rfl | exact hf.2.1 rfl | exact hf.2.2.1 rfl | exact hf.2.2.2.1 rfl
        clear hf
        obtain ⟨g, e15, hg, hgn⟩ := h15
        obtain ⟨i0, hi0, hz0, hz1, hz2⟩ := info_parts info3
        obtain ⟨v', w', hrun, hrow', hgr, how, hown⟩ := append_row (sz := 1) (bytes := 8) (t := 41) (ty := 41) Try.underlying41 hi0 hz0 hz1 hz2 (by simp [Value.cells]) (by omega) (HCH.out.row1.mono hR) ⟨g, 0, none⟩ 1 [.int .i64 (chosenI es0 es1 (pickI bits ((k : Int))))] rfl
          (fun j z hj => by rw [Addr.add_mid, Nat.zero_add, cell_of hg]; simpa using hj) (fun z hz => by simp at hz; rcases hz with rfl; rfl) (by have := HLEN.out; omega) (by omega)
        have HRX := hid (And.intro hrow' (And.intro hgr how))
        have hun := hR.size
        clear hR hg hrow' hgr how hown hi0 hz0 hz1 hz2
        rw [if_pos (show Region.wanted _ _ = true from rfl)]
        exact gives_append (.tmp 17) (.tmp 34) 41 rfl rfl e15 hrun ⟨⟨HRX.out.1, HRX.out.2.2.imp id fun e => ⟨_, e, hun⟩⟩, HRX.out.2.1⟩
      simp only [Act.put, List.setIfInBounds_toArray, List.set_cons_succ, List.set_cons_zero]
      refine lex_nil fun x u hE hfacts => ?_
      have hlast : gNew 3 1 wr.heap.size ((r1).length + 1) v1.ownBlock (intsV (r1) ++ [.int .i64 (chosenI es0 es1 (pickI bits ((k : Int))))]) (x 19) u := hfacts 19 _ (by omega) rfl
      clear hfacts
      generalize x 18 = xx1 at *
      generalize x 19 = xx2 at *
      clear x
      have HXN := hid (ch_keep HX.out HOB.out.1 hE)
      have HB0N := hid (grownBy_block hE HB0.out (fun e => by have := HOB.out.1 _ e.symm; omega))
      have HB1N := hid (grownBy_block hE HB1.out (fun e => by have := HOB.out.1 _ e.symm; omega))
      have hbs := grownBy_block hE HCH.out.box (fun e => by have := HOB.out.1 _ e.symm; omega)
      have hcs := cell_of hbs
      have hfs := free_of hbs
      obtain ⟨xa, xn, xc, rfl⟩ := hlast.1.isSlice
      have HCN := hid (HCH.out.add1 hE hlast)
      clear hbs hlast HG HOB hE
      gi_wp2_with fail
      clear hcs hfs
      have HX2 := hid (HXN.out.set (b := w.heap.size + 2) (by omega) 0 (.slice xa xn xc))
      have HB02 : Hid ((u.setCell ⟨w.heap.size + 2, 0, none⟩ (.slice xa xn xc)).heap[w.heap.size]? = some (.cells #[.slice (some ⟨eb, eo, none⟩) F.east.length ec, .slice (some ⟨nb, no, none⟩) F.north.length nc, .int .i64 F.gap, .slice sa F.nets.length sc] 40 (0, 0))) := by show _ = _; rw [set_other (by omega)]; exact HB0N.out
      have HB12 : Hid ((u.setCell ⟨w.heap.size + 2, 0, none⟩ (.slice xa xn xc)).heap[w.heap.size + 1]? = some (.cells #[.slice none 0 0, .slice none 0 0, .slice none 0 0, .slice none 0 0] 50 (0, 0))) := by show _ = _; rw [set_other (by omega)]; exact HB1N.out
      clear HX HB0 HB1 HCH HXN HB0N HB1N 
      generalize u.setCell ⟨w.heap.size + 2, 0, none⟩ (.slice xa xn xc) = wr1 at *
      have HX := HX2
      have HB0 := HB02
      have HB1 := HB12
      have HCH := HCN
      clear HX2 HB02 HB12 HCN 
      generalize Value.slice xa xn xc = v1n at *
      have HLH := HLH2
      clear HLH2
      have hob := HCH.out.own2
      have hobl : ∀ g, v2.ownBlock = some g → g < wr1.heap.size := fun g hg => HCH.out.row2.lt hg
      have HOB := hid (And.intro hob hobl)
      have HG := hid (fun (u : World) (hu : wr1.grownBy u v2.ownBlock) => And.intro (grownBy_block hu HCH.out.box (fun e => by have := HOB.out.1 _ e.symm; omega)) (And.intro (grownBy_block hu HB0.out (fun e => by have := HOB.out.1 _ e.symm; omega)) (ch_keep HX.out HOB.out.1 hu)))
      clear hob hobl
      refine lex_own 21 [(19, gRow 3 wr1.heap.size [.int .i64 (chosenI ns0 ns1 (pickI bits ((k : Int) + 3)))]), (20, gNew 3 1 wr1.heap.size ((r2).length + 1) v2.ownBlock (intsV (r2) ++ [.int .i64 (chosenI ns0 ns1 (pickI bits ((k : Int) + 3)))]))] (gR v2.ownBlock 20) (gC wr1 v2.ownBlock 20) (fun u => wr1.grownBy u v2.ownBlock) (by kernel_rfl) (by kernel_rfl)
        (fun i => ?_) ((Ext.drawn wr1).grown _) gC_ok gE_ok (gStab_free (gRow_free fun g hg => HOB.out.2 g hg) (gStab_last gNew_ext gStab_nil)) ?_
      · unfold gC
        split
        · exact Ext.drawn wr1
        · exact (Ext.drawn wr1).grown _
      simp only [List.take_succ_cons, List.take_zero, List.drop_succ_cons, List.drop_zero]
      apply gg_fun rfl (by omega)
      · intro x u hR
        clear hR
        go_simp
        exact ⟨rfl, Ext.refl _⟩
      simp only [Act.put, List.setIfInBounds_toArray, List.set_cons_succ, List.set_cons_zero]
      apply gg_fun rfl (by omega)
      · intro x u hR
        have c1 := cell_of (HG.out u hR).1
        clear hR
        go_simp
        exact ⟨rfl, Ext.refl _⟩
      simp only [Act.put, List.setIfInBounds_toArray, List.set_cons_succ, List.set_cons_zero]
      apply gg_fun rfl (by omega)
      · intro x u hR
        clear hR
        go_simp
        exact ⟨rfl, Ext.refl _⟩
      simp only [Act.put, List.setIfInBounds_toArray, List.set_cons_succ, List.set_cons_zero]
      apply gg_fun rfl (by omega)
      · intro x u hR
        have c1 := cell_of (HG.out u hR).2.1
        clear hR
        go_simp
        exact ⟨rfl, Ext.refl _⟩
      simp only [Act.put, List.setIfInBounds_toArray, List.set_cons_succ, List.set_cons_zero]
      apply gg_fun rfl (by omega)
      · intro x u hR
        clear hR
        go_simp
        exact ⟨rfl, Ext.refl _⟩
      simp only [Act.put, List.setIfInBounds_toArray, List.set_cons_succ, List.set_cons_zero]
      apply gg_fun rfl (by omega)
      · intro x u hR
        clear hR
        go_simp
        exact ⟨rfl, Ext.refl _⟩
      simp only [Act.put, List.setIfInBounds_toArray, List.set_cons_succ, List.set_cons_zero]
      apply gg_fun rfl (by omega)
      · intro x u hR
        clear hR
        go_simp
        exact ⟨rfl, Ext.refl _⟩
      simp only [Act.put, List.setIfInBounds_toArray, List.set_cons_succ, List.set_cons_zero]
      apply gg_fun rfl (by omega)
      · intro x u hR
        have c1 := ((HG.out u hR).2.2.cell (p := ⟨_, _, none⟩) HL2.1).trans HL2.2
        clear hR
        go_simp
        exact ⟨rfl, Ext.refl _⟩
      simp only [Act.put, List.setIfInBounds_toArray, List.set_cons_succ, List.set_cons_zero]
      apply gg_fun rfl (by omega)
      · intro x u hR
        clear hR
        go_simp
        exact ⟨rfl, Ext.refl _⟩
      simp only [Act.put, List.setIfInBounds_toArray, List.set_cons_succ, List.set_cons_zero]
      apply gg_fun rfl (by omega)
      · intro x u hR
        have c1 := cell_of (HG.out u hR).2.1
        clear hR
        go_simp
        exact ⟨rfl, Ext.refl _⟩
      simp only [Act.put, List.setIfInBounds_toArray, List.set_cons_succ, List.set_cons_zero]
      apply gg_fun rfl (by omega)
      · intro x u hR
        clear hR
        go_simp
        exact ⟨rfl, Ext.refl _⟩
      simp only [Act.put, List.setIfInBounds_toArray, List.set_cons_succ, List.set_cons_zero]
      apply gg_fun rfl (by omega)
      · intro x u hR
        clear hR
        go_simp
        exact ⟨rfl, Ext.refl _⟩
      simp only [Act.put, List.setIfInBounds_toArray, List.set_cons_succ, List.set_cons_zero]
      apply gg_fun rfl (by omega)
      · intro x u hR
        clear hR
        go_simp
        exact ⟨rfl, Ext.refl _⟩
      simp only [Act.put, List.setIfInBounds_toArray, List.set_cons_succ, List.set_cons_zero]
      apply gg_fun rfl (by omega)
      · intro x u hR
        have c1 := ((HG.out u hR).2.2.cell (p := ⟨_, _, none⟩) HH2.1).trans HH2.2
        clear hR
        go_simp
        exact ⟨rfl, Ext.refl _⟩
      simp only [Act.put, List.setIfInBounds_toArray, List.set_cons_succ, List.set_cons_zero]
      apply gg_fun rfl (by omega)
      · intro x u hR
        clear hR
        go_simp
        exact ⟨rfl, Ext.refl _⟩
      simp only [Act.put, List.setIfInBounds_toArray, List.set_cons_succ, List.set_cons_zero]
      apply gg_fun rfl (by omega)
      · intro x u hR
        clear hR
        go_simp
        exact ⟨rfl, Ext.refl _⟩
      simp only [Act.put, List.setIfInBounds_toArray, List.set_cons_succ, List.set_cons_zero]
      apply gg_fun rfl (by omega)
      · intro x u hR
        clear hR
        go_simp
        exact ⟨rfl, Ext.refl _⟩
      simp only [Act.put, List.setIfInBounds_toArray, List.set_cons_succ, List.set_cons_zero]
      refine gg_fun (v := .int .i64 (pickI bits ((k : Int) + 3))) rfl (by omega) ?_ ?_
      · intro x u hR
        have hcal := hid (Pick_any (.slice ba bits.length bc) bits ((k : Int) + 3) u (HBI.out.mono (HG.out u hR).2.2))
        clear hR
        go_simp
        with_reducible refine hcal.out.mono ?_
        exact fun e w'' ⟨he, hx'⟩ => ⟨_, he, rfl, hx'⟩
      simp only [Act.put, List.setIfInBounds_toArray, List.set_cons_succ, List.set_cons_zero]
      refine gg_fun (v := .int .i64 (chosenI ns0 ns1 (pickI bits ((k : Int) + 3)))) rfl (by omega) ?_ ?_
      · intro x u hR
        have hcal := hid (chosen_ext ns0 ns1 (pickI bits ((k : Int) + 3)) u HLH.out)
        clear hR
        go_simp
        with_reducible refine hcal.out.mono ?_
        exact fun e w'' ⟨he, hx'⟩ => ⟨_, he, rfl, hx'⟩
      simp only [Act.put, List.setIfInBounds_toArray, List.set_cons_succ, List.set_cons_zero]
      refine gg_pred (p := gRow 3 wr1.heap.size [.int .i64 (chosenI ns0 ns1 (pickI bits ((k : Int) + 3)))]) rfl (by omega) ?_ ?_
      · intro x u hR hf
        have hn := hR.size
        clear hR hf
        go_simp
        exact ⟨⟨_, rfl, Ext.new (Ext.refl _), hn⟩, (Ext.refl _).alloc _⟩
      simp only [Act.put, List.setIfInBounds_toArray, List.set_cons_succ, List.set_cons_zero]
      refine gg_last (p := gNew 3 1 wr1.heap.size ((r2).length + 1) v2.ownBlock (intsV (r2) ++ [.int .i64 (chosenI ns0 ns1 (pickI bits ((k : Int) + 3)))])) rfl ?_ ?_
      · intro x u hR hf
        have h15 : gRow 3 wr1.heap.size [.int .i64 (chosenI ns0 ns1 (pickI bits ((k : Int) + 3)))] (x 19) u := by first | exact hf.1 rfl | exact hf.2.1 rfl | exact hf.2.2.1 rfl | exact hf.2.2.2.1 rfl
        clear hf
        obtain ⟨g, e15, hg, hgn⟩ := h15
        obtain ⟨i0, hi0, hz0, hz1, hz2⟩ := info_parts info3
        obtain ⟨v', w', hrun, hrow', hgr, how, hown⟩ := append_row (sz := 1) (bytes := 8) (t := 41) (ty := 41) Try.underlying41 hi0 hz0 hz1 hz2 (by simp [Value.cells]) (by omega) (HCH.out.row2.mono hR) ⟨g, 0, none⟩ 1 [.int .i64 (chosenI ns0 ns1 (pickI bits ((k : Int) + 3)))] rfl
          (fun j z hj => by rw [Addr.add_mid, Nat.zero_add, cell_of hg]; simpa using hj) (fun z hz => by simp at hz; rcases hz with rfl; rfl) (by have := HLEN.out; omega) (by omega)
        have HRX := hid (And.intro hrow' (And.intro hgr how))
        have hun := hR.size
        clear hR hg hrow' hgr how hown hi0 hz0 hz1 hz2
        rw [if_pos (show Region.wanted _ _ = true from rfl)]
        exact gives_append (.tmp 38) (.tmp 56) 41 rfl rfl e15 hrun ⟨⟨HRX.out.1, HRX.out.2.2.imp id fun e => ⟨_, e, hun⟩⟩, HRX.out.2.1⟩
      simp only [Act.put, List.setIfInBounds_toArray, List.set_cons_succ, List.set_cons_zero]
      refine lex_nil fun x u hE hfacts => ?_
      have hlast : gNew 3 1 wr1.heap.size ((r2).length + 1) v2.ownBlock (intsV (r2) ++ [.int .i64 (chosenI ns0 ns1 (pickI bits ((k : Int) + 3)))]) (x 20) u := hfacts 20 _ (by omega) rfl
      clear hfacts
      generalize x 19 = xx1 at *
      generalize x 20 = xx2 at *
      clear x
      have HXN := hid (ch_keep HX.out HOB.out.1 hE)
      have HB0N := hid (grownBy_block hE HB0.out (fun e => by have := HOB.out.1 _ e.symm; omega))
      have HB1N := hid (grownBy_block hE HB1.out (fun e => by have := HOB.out.1 _ e.symm; omega))
      have hbs := grownBy_block hE HCH.out.box (fun e => by have := HOB.out.1 _ e.symm; omega)
      have hcs := cell_of hbs
      have hfs := free_of hbs
      obtain ⟨xa, xn, xc, rfl⟩ := hlast.1.isSlice
      have HCN := hid (HCH.out.add2 hE hlast)
      clear hbs hlast HG HOB hE
      gi_wp2_with fail
      clear hcs hfs
      have HX2 := hid (HXN.out.set (b := w.heap.size + 2) (by omega) 1 (.slice xa xn xc))
      have HB02 : Hid ((u.setCell ⟨w.heap.size + 2, 1, none⟩ (.slice xa xn xc)).heap[w.heap.size]? = some (.cells #[.slice (some ⟨eb, eo, none⟩) F.east.length ec, .slice (some ⟨nb, no, none⟩) F.north.length nc, .int .i64 F.gap, .slice sa F.nets.length sc] 40 (0, 0))) := by show _ = _; rw [set_other (by omega)]; exact HB0N.out
      have HB12 : Hid ((u.setCell ⟨w.heap.size + 2, 1, none⟩ (.slice xa xn xc)).heap[w.heap.size + 1]? = some (.cells #[.slice none 0 0, .slice none 0 0, .slice none 0 0, .slice none 0 0] 50 (0, 0))) := by show _ = _; rw [set_other (by omega)]; exact HB1N.out
      clear HX HB0 HB1 HCH HXN HB0N HB1N 
      generalize u.setCell ⟨w.heap.size + 2, 1, none⟩ (.slice xa xn xc) = wr2 at *
      have HX := HX2
      have HB0 := HB02
      have HB1 := HB12
      have HCH := HCN
      clear HX2 HB02 HB12 HCN 
      generalize Value.slice xa xn xc = v2n at *
      go_roundw
      case rel => exact ⟨k + 1, by omega, by go_num, HX.out, HB0.out, HB1.out, v1n, v2n, v3, v4, by rw [HT1.out, HT2.out]; exact HCH.out⟩
      case measure => simp [intOf]; omega
    · obtain rfl : k = F.east.length := by omega
      have hI1 : Hid (ChI w #[.slice ea F.east.length ec, .slice na F.north.length nc, .int .i64 F.gap, .slice sa F.nets.length sc] (chTo F.east bits 0 F.east.length) (chTo F.north bits 3 F.east.length) (chTo (F.nets.map (·.se)) bits 5 0) (chTo (F.nets.map (·.sn)) bits 8 0) wr) := ⟨HX.out, HB0.out, HB1.out, v1, v2, v3, v4, HCH.out⟩
      clear HCH HX HB0 HB1
      have HLEN0 : Hid (F.nets.length ≤ 6) := hcn.2
      obtain ⟨q1, hq1⟩ : ∃ q, q = chTo F.east bits 0 F.east.length := ⟨_, rfl⟩
      obtain ⟨q2, hq2⟩ : ∃ q, q = chTo F.north bits 3 F.east.length := ⟨_, rfl⟩
      rw [← hq1, ← hq2] at hI1
      have HQ : Hid (q1 = (chosenT F bits).east ∧ q2 = (chosenT F bits).north) := ⟨hq1, hq2⟩
      clear hq1 hq2
      gi_wp2_with fail
      clear c0
      gi_loopw [7] (fun i wr => ∃ k : Nat, k ≤ F.nets.length ∧ i = .int .i64 k ∧ Hid (ChI w #[.slice ea F.east.length ec, .slice na F.north.length nc, .int .i64 F.gap, .slice sa F.nets.length sc] q1 q2 (chTo (F.nets.map (·.se)) bits 5 k) (chTo (F.nets.map (·.sn)) bits 8 k) wr)) (fun i _ => F.nets.length - (intOf i).toNat)
      case atStart => exact ⟨0, Nat.zero_le _, rfl, hI1⟩
      case round =>
        obtain ⟨k, hk, rfl, hI⟩ := hrel
        clear hI1
        obtain ⟨hx, hb0, hb1, v1, v2, v3, v4, hch⟩ := hI.out
        have HCH := hid hch
        have HX := hid hx
        have HB0 := hid hb0
        have HB1 := hid hb1
        have c0 := cell_of hb0
        clear hI hch hx
        by_cases hlt : k < F.nets.length
        · have hki : (k : Int) < F.nets.length := by omega
          have hw5 : IntKind.i64.wrap ((k : Int) + 5) = k + 5 := by rw [IntKind.wrap_i64]; omega
          have hw8 : IntKind.i64.wrap ((k : Int) + 8) = k + 8 := by rw [IntKind.wrap_i64]; omega
          obtain ⟨b, off, rfl, hb, d0, d1, d2, d3, d4, d5, d6, d7, d8, d9⟩ := HEC.out.2.2 k hlt
          rw [← HX.out.cell (p := ⟨b, _, none⟩) hb] at d0 d1 d2 d3 d4 d5 d6 d7 d8 d9
          have hom := HNE.out k hlt
          have HT1 := hid (chTo_succ (F.nets.map (·.se)) bits 5 (k := k) (by simpa using hlt))
          have HT2 := hid (chTo_succ (F.nets.map (·.sn)) bits 8 (k := k) (by simpa using hlt))
          rw [List.getElem_map] at HT1 HT2
          have HLEN : Hid ((chTo (F.nets.map (·.se)) bits 5 k).length ≤ 1000 ∧ (chTo (F.nets.map (·.sn)) bits 8 k).length ≤ 1000) := by show _ ∧ _; rw [chTo_len, chTo_len]; have := HLEN0.out; omega
          generalize F.nets[k] = m at *
          have hms := hom.se
          have hmn := hom.sn
          unfold spIn at hms hmn
          have HLH : Hid ((-1000000 ≤ m.se.lo ∧ m.se.lo ≤ 1000000) ∧ -1000000 ≤ m.se.hi ∧ m.se.hi ≤ 1000000) := by show _ ∧ _; omega
          have HLH2 : Hid ((-1000000 ≤ m.sn.lo ∧ m.sn.lo ≤ 1000000) ∧ -1000000 ≤ m.sn.hi ∧ m.sn.hi ≤ 1000000) := by show _ ∧ _; omega
          clear hms hmn hom
          generalize chTo (F.nets.map (·.se)) bits 5 k = r3 at *
          generalize chTo (F.nets.map (·.sn)) bits 8 k = r4 at *
          have hlts := lt_of_block HCH.out.box
          have HNG : Hid (w.heap.size + 2 < wr.heap.size) := hlts
          have HNF3 : Hid (∀ g, v3.ownBlock = some g → wr.heap.size ≠ g) := fun g hg => by have := HCH.out.row3.lt hg; omega
          have HNF4 : Hid (∀ g, v4.ownBlock = some g → wr.heap.size ≠ g) := fun g hg => by have := HCH.out.row4.lt hg; omega
          clear hlts hb1 hb0
          gi_upto_region 11 with fail
          have hx2 : Ext wr (wr.alloc (.cells #[.int .i64 m.east, .int .i64 m.north, .int .i64 m.long, .int .i64 m.along, .int .i64 m.shot, .int .i64 m.haul, .int .i64 m.se.lo, .int .i64 m.se.hi, .int .i64 m.sn.lo, .int .i64 m.sn.hi] 58)) := (Ext.refl _).alloc _
          have hb2 : (wr.alloc (.cells #[.int .i64 m.east, .int .i64 m.north, .int .i64 m.long, .int .i64 m.along, .int .i64 m.shot, .int .i64 m.haul, .int .i64 m.se.lo, .int .i64 m.se.hi, .int .i64 m.sn.lo, .int .i64 m.sn.hi] 58)).heap[wr.heap.size]? = some (.cells #[.int .i64 m.east, .int .i64 m.north, .int .i64 m.long, .int .i64 m.along, .int .i64 m.shot, .int .i64 m.haul, .int .i64 m.se.lo, .int .i64 m.se.hi, .int .i64 m.sn.lo, .int .i64 m.sn.hi] 58 (0, 0)) := Ext.new (Ext.refl _)
          clear d0 d1 d2 d3 d4 d5 d6 d7 d8 d9 c0
          have HX := hid (HX.out.trans hx2)
          have HB0 := hid (hx2.block HB0.out)
          have HB1 := hid (hx2.block HB1.out)
          have HCH := hid (HCH.out.ext hx2)
          have HNB := hid hb2
          obtain ⟨NB, hNB⟩ : ∃ n, n = wr.heap.size := ⟨_, rfl⟩
          rw [← hNB] at HNG HNF3 HNF4 HNB ⊢
          clear hb2 hx2 hNB
          generalize wr.alloc (.cells #[.int .i64 m.east, .int .i64 m.north, .int .i64 m.long, .int .i64 m.along, .int .i64 m.shot, .int .i64 m.haul, .int .i64 m.se.lo, .int .i64 m.se.hi, .int .i64 m.sn.lo, .int .i64 m.sn.hi] 58) = wr1 at *
          have hob := HCH.out.own3
          have hobl : ∀ g, v3.ownBlock = some g → g < wr1.heap.size := fun g hg => HCH.out.row3.lt hg
          have HOB := hid (And.intro hob hobl)
          have HG := hid (fun (u : World) (hu : wr1.grownBy u v3.ownBlock) => And.intro (grownBy_block hu HCH.out.box (fun e => by have := HOB.out.1 _ e.symm; omega)) (And.intro (grownBy_block hu HB0.out (fun e => by have := HOB.out.1 _ e.symm; omega)) (And.intro (ch_keep HX.out HOB.out.1 hu) (grownBy_block hu HNB.out (fun e => HNF3.out _ e.symm rfl)))))
          clear hob hobl
          refine lex_own 15 [(13, gRow 3 wr1.heap.size [.int .i64 (chosenI m.se.lo m.se.hi (pickI bits ((k : Int) + 5)))]), (14, gNew 3 1 wr1.heap.size ((r3).length + 1) v3.ownBlock (intsV (r3) ++ [.int .i64 (chosenI m.se.lo m.se.hi (pickI bits ((k : Int) + 5)))]))] (gR v3.ownBlock 14) (gC wr1 v3.ownBlock 14) (fun u => wr1.grownBy u v3.ownBlock) (by kernel_rfl) (by kernel_rfl)
            (fun i => ?_) ((Ext.drawn wr1).grown _) gC_ok gE_ok (gStab_free (gRow_free fun g hg => HOB.out.2 g hg) (gStab_last gNew_ext gStab_nil)) ?_
          · unfold gC
            split
            · exact Ext.drawn wr1
            · exact (Ext.drawn wr1).grown _
          simp only [List.take_succ_cons, List.take_zero, List.drop_succ_cons, List.drop_zero]
          apply gg_fun rfl (by omega)
          · intro x u hR
            clear hR
            go_simp
            exact ⟨rfl, Ext.refl _⟩
          simp only [Act.put, List.setIfInBounds_toArray, List.set_cons_succ, List.set_cons_zero]
          apply gg_fun rfl (by omega)
          · intro x u hR
            have c1 := cell_of (HG.out u hR).1
            clear hR
            go_simp
            exact ⟨rfl, Ext.refl _⟩
          simp only [Act.put, List.setIfInBounds_toArray, List.set_cons_succ, List.set_cons_zero]
          apply gg_fun rfl (by omega)
          · intro x u hR
            clear hR
            go_simp
            exact ⟨rfl, Ext.refl _⟩
          simp only [Act.put, List.setIfInBounds_toArray, List.set_cons_succ, List.set_cons_zero]
          apply gg_fun rfl (by omega)
          · intro x u hR
            clear hR
            go_simp
            exact ⟨rfl, Ext.refl _⟩
          simp only [Act.put, List.setIfInBounds_toArray, List.set_cons_succ, List.set_cons_zero]
          apply gg_fun rfl (by omega)
          · intro x u hR
            have c1 := cell_of (HG.out u hR).2.2.2
            clear hR
            go_simp
            exact ⟨rfl, Ext.refl _⟩
          simp only [Act.put, List.setIfInBounds_toArray, List.set_cons_succ, List.set_cons_zero]
          apply gg_fun rfl (by omega)
          · intro x u hR
            clear hR
            go_simp
            exact ⟨rfl, Ext.refl _⟩
          simp only [Act.put, List.setIfInBounds_toArray, List.set_cons_succ, List.set_cons_zero]
          apply gg_fun rfl (by omega)
          · intro x u hR
            clear hR
            go_simp
            exact ⟨rfl, Ext.refl _⟩
          simp only [Act.put, List.setIfInBounds_toArray, List.set_cons_succ, List.set_cons_zero]
          apply gg_fun rfl (by omega)
          · intro x u hR
            have c1 := cell_of (HG.out u hR).2.2.2
            clear hR
            go_simp
            exact ⟨rfl, Ext.refl _⟩
          simp only [Act.put, List.setIfInBounds_toArray, List.set_cons_succ, List.set_cons_zero]
          apply gg_fun rfl (by omega)
          · intro x u hR
            clear hR
            go_simp
            exact ⟨rfl, Ext.refl _⟩
          simp only [Act.put, List.setIfInBounds_toArray, List.set_cons_succ, List.set_cons_zero]
          apply gg_fun rfl (by omega)
          · intro x u hR
            clear hR
            go_simp
            exact ⟨rfl, Ext.refl _⟩
          simp only [Act.put, List.setIfInBounds_toArray, List.set_cons_succ, List.set_cons_zero]
          apply gg_fun rfl (by omega)
          · intro x u hR
            clear hR
            go_simp
            exact ⟨rfl, Ext.refl _⟩
          simp only [Act.put, List.setIfInBounds_toArray, List.set_cons_succ, List.set_cons_zero]
          refine gg_fun (v := .int .i64 (pickI bits ((k : Int) + 5))) rfl (by omega) ?_ ?_
          · intro x u hR
            have hcal := hid (Pick_any (.slice ba bits.length bc) bits ((k : Int) + 5) u (HBI.out.mono (HG.out u hR).2.2.1))
            clear hR
            go_simp
            with_reducible refine hcal.out.mono ?_
            exact fun e w'' ⟨he, hx'⟩ => ⟨_, he, rfl, hx'⟩
          simp only [Act.put, List.setIfInBounds_toArray, List.set_cons_succ, List.set_cons_zero]
          refine gg_fun (v := .int .i64 (chosenI m.se.lo m.se.hi (pickI bits ((k : Int) + 5)))) rfl (by omega) ?_ ?_
          · intro x u hR
            have hcal := hid (chosen_ext m.se.lo m.se.hi (pickI bits ((k : Int) + 5)) u HLH.out)
            clear hR
            go_simp
            with_reducible refine hcal.out.mono ?_
            exact fun e w'' ⟨he, hx'⟩ => ⟨_, he, rfl, hx'⟩
          simp only [Act.put, List.setIfInBounds_toArray, List.set_cons_succ, List.set_cons_zero]
          refine gg_pred (p := gRow 3 wr1.heap.size [.int .i64 (chosenI m.se.lo m.se.hi (pickI bits ((k : Int) + 5)))]) rfl (by omega) ?_ ?_
          · intro x u hR hf
            have hn := hR.size
            clear hR hf
            go_simp
            exact ⟨⟨_, rfl, Ext.new (Ext.refl _), hn⟩, (Ext.refl _).alloc _⟩
          simp only [Act.put, List.setIfInBounds_toArray, List.set_cons_succ, List.set_cons_zero]
          refine gg_last (p := gNew 3 1 wr1.heap.size ((r3).length + 1) v3.ownBlock (intsV (r3) ++ [.int .i64 (chosenI m.se.lo m.se.hi (pickI bits ((k : Int) + 5)))])) rfl ?_ ?_
          · intro x u hR hf
            have h15 : gRow 3 wr1.heap.size [.int .i64 (chosenI m.se.lo m.se.hi (pickI bits ((k : Int) + 5)))] (x 13) u := by first | exact hf.1 rfl | exact hf.2.1 rfl | exact hf.2.2.1 rfl | exact hf.2.2.2.1 rfl
            clear hf
            obtain ⟨g, e15, hg, hgn⟩ := h15
            obtain ⟨i0, hi0, hz0, hz1, hz2⟩ := info_parts info3
            obtain ⟨v', w', hrun, hrow', hgr, how, hown⟩ := append_row (sz := 1) (bytes := 8) (t := 41) (ty := 41) Try.underlying41 hi0 hz0 hz1 hz2 (by simp [Value.cells]) (by omega) (HCH.out.row3.mono hR) ⟨g, 0, none⟩ 1 [.int .i64 (chosenI m.se.lo m.se.hi (pickI bits ((k : Int) + 5)))] rfl
              (fun j z hj => by rw [Addr.add_mid, Nat.zero_add, cell_of hg]; simpa using hj) (fun z hz => by simp at hz; rcases hz with rfl; rfl) (by have := HLEN.out; omega) (by omega)
            have HRX := hid (And.intro hrow' (And.intro hgr how))
            have hun := hR.size
            clear hR hg hrow' hgr how hown hi0 hz0 hz1 hz2
            rw [if_pos (show Region.wanted _ _ = true from rfl)]
            exact gives_append (.tmp 72) (.tmp 84) 41 rfl rfl e15 hrun ⟨⟨HRX.out.1, HRX.out.2.2.imp id fun e => ⟨_, e, hun⟩⟩, HRX.out.2.1⟩
          simp only [Act.put, List.setIfInBounds_toArray, List.set_cons_succ, List.set_cons_zero]
          refine lex_nil fun x u hE hfacts => ?_
          have hlast : gNew 3 1 wr1.heap.size ((r3).length + 1) v3.ownBlock (intsV (r3) ++ [.int .i64 (chosenI m.se.lo m.se.hi (pickI bits ((k : Int) + 5)))]) (x 14) u := hfacts 14 _ (by omega) rfl
          clear hfacts
          generalize x 13 = xx1 at *
          generalize x 14 = xx2 at *
          clear x
          have HXN := hid (ch_keep HX.out HOB.out.1 hE)
          have HB0N := hid (grownBy_block hE HB0.out (fun e => by have := HOB.out.1 _ e.symm; omega))
          have HB1N := hid (grownBy_block hE HB1.out (fun e => by have := HOB.out.1 _ e.symm; omega))
          have HNBN := hid (grownBy_block hE HNB.out (fun e => HNF3.out _ e.symm rfl))
          have hbs := grownBy_block hE HCH.out.box (fun e => by have := HOB.out.1 _ e.symm; omega)
          have hcs := cell_of hbs
          have hfs := free_of hbs
          obtain ⟨xa, xn, xc, rfl⟩ := hlast.1.isSlice
          have HCN := hid (HCH.out.add3 hE hlast)
          clear hbs hlast HG HOB hE
          gi_wp2_with fail
          clear hcs hfs
          have HX2 := hid (HXN.out.set (b := w.heap.size + 2) (by omega) 2 (.slice xa xn xc))
          have HB02 : Hid ((u.setCell ⟨w.heap.size + 2, 2, none⟩ (.slice xa xn xc)).heap[w.heap.size]? = some (.cells #[.slice ea F.east.length ec, .slice na F.north.length nc, .int .i64 F.gap, .slice (some ⟨b, off, none⟩) F.nets.length sc] 40 (0, 0))) := by show _ = _; rw [set_other (by omega)]; exact HB0N.out
          have HB12 : Hid ((u.setCell ⟨w.heap.size + 2, 2, none⟩ (.slice xa xn xc)).heap[w.heap.size + 1]? = some (.cells #[.slice none 0 0, .slice none 0 0, .slice none 0 0, .slice none 0 0] 50 (0, 0))) := by show _ = _; rw [set_other (by omega)]; exact HB1N.out
          have HNB2 : Hid ((u.setCell ⟨w.heap.size + 2, 2, none⟩ (.slice xa xn xc)).heap[NB]? = some (.cells #[.int .i64 m.east, .int .i64 m.north, .int .i64 m.long, .int .i64 m.along, .int .i64 m.shot, .int .i64 m.haul, .int .i64 m.se.lo, .int .i64 m.se.hi, .int .i64 m.sn.lo, .int .i64 m.sn.hi] 58 (0, 0))) := by show _ = _; rw [set_other (by have := HNG.out; omega)]; exact HNBN.out
          clear HX HB0 HB1 HCH HXN HB0N HB1N HNB HNBN
          generalize u.setCell ⟨w.heap.size + 2, 2, none⟩ (.slice xa xn xc) = wr2 at *
          have HX := HX2
          have HB0 := HB02
          have HB1 := HB12
          have HCH := HCN
          have HNB := HNB2
          clear HX2 HB02 HB12 HCN HNB2
          generalize Value.slice xa xn xc = v3n at *
          have HLH := HLH2
          clear HLH2
          have HNF4 := HNF4
          have hob := HCH.out.own4
          have hobl : ∀ g, v4.ownBlock = some g → g < wr2.heap.size := fun g hg => HCH.out.row4.lt hg
          have HOB := hid (And.intro hob hobl)
          have HG := hid (fun (u : World) (hu : wr2.grownBy u v4.ownBlock) => And.intro (grownBy_block hu HCH.out.box (fun e => by have := HOB.out.1 _ e.symm; omega)) (And.intro (grownBy_block hu HB0.out (fun e => by have := HOB.out.1 _ e.symm; omega)) (And.intro (ch_keep HX.out HOB.out.1 hu) (grownBy_block hu HNB.out (fun e => HNF4.out _ e.symm rfl)))))
          clear hob hobl
          refine lex_own 15 [(13, gRow 3 wr2.heap.size [.int .i64 (chosenI m.sn.lo m.sn.hi (pickI bits ((k : Int) + 8)))]), (14, gNew 3 1 wr2.heap.size ((r4).length + 1) v4.ownBlock (intsV (r4) ++ [.int .i64 (chosenI m.sn.lo m.sn.hi (pickI bits ((k : Int) + 8)))]))] (gR v4.ownBlock 14) (gC wr2 v4.ownBlock 14) (fun u => wr2.grownBy u v4.ownBlock) (by kernel_rfl) (by kernel_rfl)
            (fun i => ?_) ((Ext.drawn wr2).grown _) gC_ok gE_ok (gStab_free (gRow_free fun g hg => HOB.out.2 g hg) (gStab_last gNew_ext gStab_nil)) ?_
          · unfold gC
            split
            · exact Ext.drawn wr2
            · exact (Ext.drawn wr2).grown _
          simp only [List.take_succ_cons, List.take_zero, List.drop_succ_cons, List.drop_zero]
          apply gg_fun rfl (by omega)
          · intro x u hR
            clear hR
            go_simp
            exact ⟨rfl, Ext.refl _⟩
          simp only [Act.put, List.setIfInBounds_toArray, List.set_cons_succ, List.set_cons_zero]
          apply gg_fun rfl (by omega)
          · intro x u hR
            have c1 := cell_of (HG.out u hR).1
            clear hR
            go_simp
            exact ⟨rfl, Ext.refl _⟩
          simp only [Act.put, List.setIfInBounds_toArray, List.set_cons_succ, List.set_cons_zero]
          apply gg_fun rfl (by omega)
          · intro x u hR
            clear hR
            go_simp
            exact ⟨rfl, Ext.refl _⟩
          simp only [Act.put, List.setIfInBounds_toArray, List.set_cons_succ, List.set_cons_zero]
          apply gg_fun rfl (by omega)
          · intro x u hR
            clear hR
            go_simp
            exact ⟨rfl, Ext.refl _⟩
          simp only [Act.put, List.setIfInBounds_toArray, List.set_cons_succ, List.set_cons_zero]
          apply gg_fun rfl (by omega)
          · intro x u hR
            have c1 := cell_of (HG.out u hR).2.2.2
            clear hR
            go_simp
            exact ⟨rfl, Ext.refl _⟩
          simp only [Act.put, List.setIfInBounds_toArray, List.set_cons_succ, List.set_cons_zero]
          apply gg_fun rfl (by omega)
          · intro x u hR
            clear hR
            go_simp
            exact ⟨rfl, Ext.refl _⟩
          simp only [Act.put, List.setIfInBounds_toArray, List.set_cons_succ, List.set_cons_zero]
          apply gg_fun rfl (by omega)
          · intro x u hR
            clear hR
            go_simp
            exact ⟨rfl, Ext.refl _⟩
          simp only [Act.put, List.setIfInBounds_toArray, List.set_cons_succ, List.set_cons_zero]
          apply gg_fun rfl (by omega)
          · intro x u hR
            have c1 := cell_of (HG.out u hR).2.2.2
            clear hR
            go_simp
            exact ⟨rfl, Ext.refl _⟩
          simp only [Act.put, List.setIfInBounds_toArray, List.set_cons_succ, List.set_cons_zero]
          apply gg_fun rfl (by omega)
          · intro x u hR
            clear hR
            go_simp
            exact ⟨rfl, Ext.refl _⟩
          simp only [Act.put, List.setIfInBounds_toArray, List.set_cons_succ, List.set_cons_zero]
          apply gg_fun rfl (by omega)
          · intro x u hR
            clear hR
            go_simp
            exact ⟨rfl, Ext.refl _⟩
          simp only [Act.put, List.setIfInBounds_toArray, List.set_cons_succ, List.set_cons_zero]
          apply gg_fun rfl (by omega)
          · intro x u hR
            clear hR
            go_simp
            exact ⟨rfl, Ext.refl _⟩
          simp only [Act.put, List.setIfInBounds_toArray, List.set_cons_succ, List.set_cons_zero]
          refine gg_fun (v := .int .i64 (pickI bits ((k : Int) + 8))) rfl (by omega) ?_ ?_
          · intro x u hR
            have hcal := hid (Pick_any (.slice ba bits.length bc) bits ((k : Int) + 8) u (HBI.out.mono (HG.out u hR).2.2.1))
            clear hR
            go_simp
            with_reducible refine hcal.out.mono ?_
            exact fun e w'' ⟨he, hx'⟩ => ⟨_, he, rfl, hx'⟩
          simp only [Act.put, List.setIfInBounds_toArray, List.set_cons_succ, List.set_cons_zero]
          refine gg_fun (v := .int .i64 (chosenI m.sn.lo m.sn.hi (pickI bits ((k : Int) + 8)))) rfl (by omega) ?_ ?_
          · intro x u hR
            have hcal := hid (chosen_ext m.sn.lo m.sn.hi (pickI bits ((k : Int) + 8)) u HLH.out)
            clear hR
            go_simp
            with_reducible refine hcal.out.mono ?_
            exact fun e w'' ⟨he, hx'⟩ => ⟨_, he, rfl, hx'⟩
          simp only [Act.put, List.setIfInBounds_toArray, List.set_cons_succ, List.set_cons_zero]
          refine gg_pred (p := gRow 3 wr2.heap.size [.int .i64 (chosenI m.sn.lo m.sn.hi (pickI bits ((k : Int) + 8)))]) rfl (by omega) ?_ ?_
          · intro x u hR hf
            have hn := hR.size
            clear hR hf
            go_simp
            exact ⟨⟨_, rfl, Ext.new (Ext.refl _), hn⟩, (Ext.refl _).alloc _⟩
          simp only [Act.put, List.setIfInBounds_toArray, List.set_cons_succ, List.set_cons_zero]
          refine gg_last (p := gNew 3 1 wr2.heap.size ((r4).length + 1) v4.ownBlock (intsV (r4) ++ [.int .i64 (chosenI m.sn.lo m.sn.hi (pickI bits ((k : Int) + 8)))])) rfl ?_ ?_
          · intro x u hR hf
            have h15 : gRow 3 wr2.heap.size [.int .i64 (chosenI m.sn.lo m.sn.hi (pickI bits ((k : Int) + 8)))] (x 13) u := by first | exact hf.1 rfl | exact hf.2.1 rfl | exact hf.2.2.1 rfl | exact hf.2.2.2.1 rfl
            clear hf
            obtain ⟨g, e15, hg, hgn⟩ := h15
            obtain ⟨i0, hi0, hz0, hz1, hz2⟩ := info_parts info3
            obtain ⟨v', w', hrun, hrow', hgr, how, hown⟩ := append_row (sz := 1) (bytes := 8) (t := 41) (ty := 41) Try.underlying41 hi0 hz0 hz1 hz2 (by simp [Value.cells]) (by omega) (HCH.out.row4.mono hR) ⟨g, 0, none⟩ 1 [.int .i64 (chosenI m.sn.lo m.sn.hi (pickI bits ((k : Int) + 8)))] rfl
              (fun j z hj => by rw [Addr.add_mid, Nat.zero_add, cell_of hg]; simpa using hj) (fun z hz => by simp at hz; rcases hz with rfl; rfl) (by have := HLEN.out; omega) (by omega)
            have HRX := hid (And.intro hrow' (And.intro hgr how))
            have hun := hR.size
            clear hR hg hrow' hgr how hown hi0 hz0 hz1 hz2
            rw [if_pos (show Region.wanted _ _ = true from rfl)]
            exact gives_append (.tmp 88) (.tmp 100) 41 rfl rfl e15 hrun ⟨⟨HRX.out.1, HRX.out.2.2.imp id fun e => ⟨_, e, hun⟩⟩, HRX.out.2.1⟩
          simp only [Act.put, List.setIfInBounds_toArray, List.set_cons_succ, List.set_cons_zero]
          refine lex_nil fun x u hE hfacts => ?_
          have hlast : gNew 3 1 wr2.heap.size ((r4).length + 1) v4.ownBlock (intsV (r4) ++ [.int .i64 (chosenI m.sn.lo m.sn.hi (pickI bits ((k : Int) + 8)))]) (x 14) u := hfacts 14 _ (by omega) rfl
          clear hfacts
          generalize x 13 = xx1 at *
          generalize x 14 = xx2 at *
          clear x
          have HXN := hid (ch_keep HX.out HOB.out.1 hE)
          have HB0N := hid (grownBy_block hE HB0.out (fun e => by have := HOB.out.1 _ e.symm; omega))
          have HB1N := hid (grownBy_block hE HB1.out (fun e => by have := HOB.out.1 _ e.symm; omega))
          have HNBN := hid (grownBy_block hE HNB.out (fun e => HNF4.out _ e.symm rfl))
          have hbs := grownBy_block hE HCH.out.box (fun e => by have := HOB.out.1 _ e.symm; omega)
          have hcs := cell_of hbs
          have hfs := free_of hbs
          obtain ⟨xa, xn, xc, rfl⟩ := hlast.1.isSlice
          have HCN := hid (HCH.out.add4 hE hlast)
          clear hbs hlast HG HOB hE
          gi_wp2_with fail
          clear hcs hfs
          have HX2 := hid (HXN.out.set (b := w.heap.size + 2) (by omega) 3 (.slice xa xn xc))
          have HB02 : Hid ((u.setCell ⟨w.heap.size + 2, 3, none⟩ (.slice xa xn xc)).heap[w.heap.size]? = some (.cells #[.slice ea F.east.length ec, .slice na F.north.length nc, .int .i64 F.gap, .slice (some ⟨b, off, none⟩) F.nets.length sc] 40 (0, 0))) := by show _ = _; rw [set_other (by omega)]; exact HB0N.out
          have HB12 : Hid ((u.setCell ⟨w.heap.size + 2, 3, none⟩ (.slice xa xn xc)).heap[w.heap.size + 1]? = some (.cells #[.slice none 0 0, .slice none 0 0, .slice none 0 0, .slice none 0 0] 50 (0, 0))) := by show _ = _; rw [set_other (by omega)]; exact HB1N.out
          have HNB2 : Hid ((u.setCell ⟨w.heap.size + 2, 3, none⟩ (.slice xa xn xc)).heap[NB]? = some (.cells #[.int .i64 m.east, .int .i64 m.north, .int .i64 m.long, .int .i64 m.along, .int .i64 m.shot, .int .i64 m.haul, .int .i64 m.se.lo, .int .i64 m.se.hi, .int .i64 m.sn.lo, .int .i64 m.sn.hi] 58 (0, 0))) := by show _ = _; rw [set_other (by have := HNG.out; omega)]; exact HNBN.out
          clear HX HB0 HB1 HCH HXN HB0N HB1N HNB HNBN
          generalize u.setCell ⟨w.heap.size + 2, 3, none⟩ (.slice xa xn xc) = wr3 at *
          have HX := HX2
          have HB0 := HB02
          have HB1 := HB12
          have HCH := HCN
          have HNB := HNB2
          clear HX2 HB02 HB12 HCN HNB2
          generalize Value.slice xa xn xc = v4n at *
          go_roundw
          case rel => exact ⟨k + 1, by omega, by go_num, HX.out, HB0.out, HB1.out, v1, v2, v3n, v4n, by rw [HT1.out, HT2.out]; exact HCH.out⟩
          case measure => simp [intOf]; omega
        · obtain rfl : k = F.nets.length := by omega
          obtain ⟨a1, c1, rfl⟩ := HCH.out.row1.isSliceN
          obtain ⟨a2, c2, rfl⟩ := HCH.out.row2.isSliceN
          obtain ⟨a3, c3, rfl⟩ := HCH.out.row3.isSliceN
          obtain ⟨a4, c4, rfl⟩ := HCH.out.row4.isSliceN
          have ct := cell_of HCH.out.box
          have cr := cell_of hb1
          have fr := free_of hb1
          have hbk := (set_same (set_same (set_same (set_same hb1 0 (.slice a1 q1.length c1)) 1 (.slice a2 q2.length c2)) 2 (.slice a3 (chTo (F.nets.map (·.se)) bits 5 F.nets.length).length c3)) 3 (.slice a4 (chTo (F.nets.map (·.sn)) bits 8 F.nets.length).length c4))
          have hEx := ((((HX.out.set (b := w.heap.size + 1) (by omega) 0 (.slice a1 q1.length c1)).set (b := w.heap.size + 1) (by omega) 1 (.slice a2 q2.length c2)).set (b := w.heap.size + 1) (by omega) 2 (.slice a3 (chTo (F.nets.map (·.se)) bits 5 F.nets.length).length c3)).set (b := w.heap.size + 1) (by omega) 3 (.slice a4 (chTo (F.nets.map (·.sn)) bits 8 F.nets.length).length c4))
          simp only [List.setIfInBounds_toArray, List.set_cons_succ, List.set_cons_zero] at hbk
          have HR1 : Hid (Four w.heap.size ((((wr.setCell ⟨w.heap.size + 1, 0, none⟩ (.slice a1 q1.length c1)).setCell ⟨w.heap.size + 1, 1, none⟩ (.slice a2 q2.length c2)).setCell ⟨w.heap.size + 1, 2, none⟩ (.slice a3 (chTo (F.nets.map (·.se)) bits 5 F.nets.length).length c3)).setCell ⟨w.heap.size + 1, 3, none⟩ (.slice a4 (chTo (F.nets.map (·.sn)) bits 8 F.nets.length).length c4)) (.slice a1 q1.length c1) (.slice a2 q2.length c2) (.slice a3 (chTo (F.nets.map (·.se)) bits 5 F.nets.length).length c3) (.slice a4 (chTo (F.nets.map (·.sn)) bits 8 F.nets.length).length c4) q1 q2 (chTo (F.nets.map (·.se)) bits 5 F.nets.length) (chTo (F.nets.map (·.sn)) bits 8 F.nets.length)) := HCH.out.four (by omega) (by omega) _ _ _ _
          have HBK := hid hbk
          have HEX := hid hEx
          clear hb1 hb0 hbk hEx
          gi_wp2_with fail
          generalize ((((wr.setCell ⟨w.heap.size + 1, 0, none⟩ (.slice a1 q1.length c1)).setCell ⟨w.heap.size + 1, 1, none⟩ (.slice a2 q2.length c2)).setCell ⟨w.heap.size + 1, 2, none⟩ (.slice a3 (chTo (F.nets.map (·.se)) bits 5 F.nets.length).length c3)).setCell ⟨w.heap.size + 1, 3, none⟩ (.slice a4 (chTo (F.nets.map (·.sn)) bits 8 F.nets.length).length c4)) = WF at *
          clear ct cr fr c0
          have hc := cell_of HBK.out
          exact bodyPost_ret (v := .agg #[.slice a1 q1.length c1, .slice a2 q2.length c2, .slice a3 (chTo (F.nets.map (·.se)) bits 5 F.nets.length).length c3, .slice a4 (chTo (F.nets.map (·.sn)) bits 8 F.nets.length).length c4]) (by simp [results, Try.results25, go_sem, hc]) rfl ⟨_, _, _, _, rfl, HEX.out, HQ.out.1 ▸ HQ.out.2 ▸ HR1.out⟩

end Go.Proofs.Ytmjelgonhpgmbaa
