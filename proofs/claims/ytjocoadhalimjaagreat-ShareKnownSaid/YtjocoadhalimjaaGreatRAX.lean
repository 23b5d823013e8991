/- The laws' own night, with its blocks; voyages that are none. -/
import Derived.Test.YtjocoadhalimjaaGreatRAW
import Derived.Test.YtjocoadhalimjaaGreatRAQ
import Derived.Test.YtjocoadhalimjaaGreatRAP
import Derived.Test.YtjocoadhalimjaaGreatRAU
import Derived.Test.YtjocoadhalimjaaGreatRAB
import Derived.Test.YtjocoadhalimjaaGreatRAA
set_option linter.unusedSimpArgs false
set_option linter.unusedVariables false
namespace Go.Proofs.YtjocoadhalimjaaGreat
section
open Go Go.RowKit Go.Shelf

def VSn (g : Nat) : VS := ⟨some ⟨g, 0, none⟩, some ⟨g + 1, 0, none⟩, some ⟨g + 1 + 1, 0, none⟩, some ⟨g + 1 + 1 + 1, 0, none⟩, some ⟨g + 1 + 1 + 1 + 1, 0, none⟩, 2, 2, 3, 3, 1⟩
/-- The blocks of a night. -/
structure NightB (w : World) (g : Nat) : Prop where
  cs : w.heap[g]? = some (.cells #[.int .i64 40, .int .i64 19] 3 (0, 0))
  ow : w.heap[g + 1]? = some (.cells #[.string ⟨#[98, 117, 99, 107, 105, 101]⟩, .int .i64 5, .string ⟨#[99, 117, 108, 108, 101, 110]⟩, .int .i64 3] 49 (0, 0))
  le : w.heap[g + 1 + 1]? = some (.cells #[.string ⟨#[98, 117, 99, 107, 105, 101]⟩, .int .i64 20, .string ⟨#[101, 121, 101, 109, 111, 117, 116, 104]⟩, .int .i64 10, .string ⟨#[115, 109, 105, 116, 104]⟩, .int .i64 0] 49 (0, 0))
  ha : w.heap[g + 1 + 1 + 1]? = some (.cells #[.string ⟨#[115, 109, 105, 116, 104]⟩, .int .i64 10, .string ⟨#[119, 105, 99, 107]⟩, .int .i64 8, .string ⟨#[98, 111, 121]⟩, .int .i64 4] 49 (0, 0))
  lo : w.heap[g + 1 + 1 + 1 + 1]? = some (.cells #[.string ⟨#[101, 121, 101, 109, 111, 117, 116, 104]⟩, .string ⟨#[115, 109, 105, 116, 104]⟩, .int .i64 10, .int .i64 3] 59 (0, 0))
theorem NightB.ext {w w' : World} {g : Nat} (h : NightB w g) (hx : Ext w w') : NightB w' g := ⟨hx.block h.cs, hx.block h.ow, hx.block h.le, hx.block h.ha, hx.block h.lo⟩
theorem NightB.lt {w : World} {g : Nat} (h : NightB w g) : g + 4 < w.heap.size := lt_of_block h.lo
section
variable {w : World} {g : Nat}
theorem NightB.css (h : w.heap[g]? = some (.cells #[.int .i64 40, .int .i64 19] 3 (0, 0))) : IntsAt w (.slice (some ⟨g, 0, none⟩) 2 2) nt.cs := ints_new (xs := nt.cs) h rfl (by decide)
theorem NightB.ows (h : NightB w g) : StakesAt w (.slice (some ⟨g + 1, 0, none⟩) 2 2) nt.ow := stakes_new (l := nt.ow) h.ow rfl (by decide)
theorem NightB.les (h : NightB w g) : StakesAt w (.slice (some ⟨g + 1 + 1, 0, none⟩) 3 3) nt.le := stakes_new (l := nt.le) h.le rfl (by decide)
theorem NightB.has (h : NightB w g) : StakesAt w (.slice (some ⟨g + 1 + 1 + 1, 0, none⟩) 3 3) nt.ha := stakes_new (l := nt.ha) h.ha rfl (by decide)
theorem LoansAt.night {q : Nat} (h : w.heap[q]? = some (.cells #[.string ⟨#[101, 121, 101, 109, 111, 117, 116, 104]⟩, .string ⟨#[115, 109, 105, 116, 104]⟩, .int .i64 10, .int .i64 3] 59 (0, 0))) : LoansAt w (.slice (some ⟨q, 0, none⟩) 1 1) nt.lo := ⟨_, _, rfl, ⟨Nat.le_refl _, by decide⟩, fun i hi => ⟨_, 0, rfl, lt_of_block h, by
    have h0 : i = 0 := by have : nt.lo.length = 1 := rfl; omega
    subst h0
    rw [cell_of h, cell_of h, cell_of h, cell_of h]
    exact ⟨rfl, rfl, rfl, rfl⟩⟩⟩
theorem NightB.los (h : NightB w g) : LoansAt w (.slice (some ⟨g + 1 + 1 + 1 + 1, 0, none⟩) 1 1) nt.lo := ⟨_, _, rfl, ⟨Nat.le_refl _, by decide⟩, fun i hi => ⟨_, 0, rfl, lt_of_block h.lo, by
    have h0 : i = 0 := by have : nt.lo.length = 1 := rfl; omega
    subst h0
    rw [cell_of h.lo, cell_of h.lo, cell_of h.lo, cell_of h.lo]
    exact ⟨rfl, rfl, rfl, rfl⟩⟩⟩
theorem NightB.at (h : NightB w g) : VoyAt w nt (VSn g) := ⟨NightB.css h.cs, h.ows, h.les, h.has, h.los, ntNm.1, ntNm.2.1, ntNm.2.2⟩
end
set_option maxRecDepth 100000 in
set_option maxHeartbeats 8000000 in
theorem night2_any (w : World) : Cal 44 #[] w fun e w' => ∃ g, e = .returned (.agg (voyA nt (VSn g))) ∧ Ext w w' ∧ Hid (w.heap.size ≤ g ∧ NightB w' g) := by
  gi_enter Tryz.func44, Tryz.ntmps44
  gi_upto_region 1 with fail
  have hx0 : Ext w (w.alloc (.cells #[.int .i64 0, .slice none 0 0, .int .i64 0, .int .i64 0, .int .i64 0, .slice none 0 0, .slice none 0 0, .slice none 0 0, .slice none 0 0] 32)) := (Ext.refl _).alloc _
  have hb0 := Ext.new (w := w) (o := .cells #[.int .i64 0, .slice none 0 0, .int .i64 0, .int .i64 0, .int .i64 0, .slice none 0 0, .slice none 0 0, .slice none 0 0, .slice none 0 0] 32) (Ext.refl _)
  generalize w.alloc (.cells #[.int .i64 0, .slice none 0 0, .int .i64 0, .int .i64 0, .int .i64 0, .slice none 0 0, .slice none 0 0, .slice none 0 0, .slice none 0 0] 32) = W0 at *
  have hb1 : (((((W0.alloc (.cells #[.int .i64 40, .int .i64 19] 3)).alloc (.cells #[.string ⟨#[98, 117, 99, 107, 105, 101]⟩, .int .i64 5, .string ⟨#[99, 117, 108, 108, 101, 110]⟩, .int .i64 3] 49)).alloc (.cells #[.string ⟨#[98, 117, 99, 107, 105, 101]⟩, .int .i64 20, .string ⟨#[101, 121, 101, 109, 111, 117, 116, 104]⟩, .int .i64 10, .string ⟨#[115, 109, 105, 116, 104]⟩, .int .i64 0] 49)).alloc (.cells #[.string ⟨#[115, 109, 105, 116, 104]⟩, .int .i64 10, .string ⟨#[119, 105, 99, 107]⟩, .int .i64 8, .string ⟨#[98, 111, 121]⟩, .int .i64 4] 49)).alloc (.cells #[.string ⟨#[101, 121, 101, 109, 111, 117, 116, 104]⟩, .string ⟨#[115, 109, 105, 116, 104]⟩, .int .i64 10, .int .i64 3] 59)).heap[W0.heap.size]? = some (.cells #[.int .i64 40, .int .i64 19] 3 (0, 0)) := by
    have h := Ext.new (w := W0) (o := .cells #[.int .i64 40, .int .i64 19] 3) (Ext.refl _)
    try simp only [World.size_alloc] at h
    exact Ext.block (((((Ext.refl _).alloc _).alloc _).alloc _).alloc _) h
  have hb2 : (((((W0.alloc (.cells #[.int .i64 40, .int .i64 19] 3)).alloc (.cells #[.string ⟨#[98, 117, 99, 107, 105, 101]⟩, .int .i64 5, .string ⟨#[99, 117, 108, 108, 101, 110]⟩, .int .i64 3] 49)).alloc (.cells #[.string ⟨#[98, 117, 99, 107, 105, 101]⟩, .int .i64 20, .string ⟨#[101, 121, 101, 109, 111, 117, 116, 104]⟩, .int .i64 10, .string ⟨#[115, 109, 105, 116, 104]⟩, .int .i64 0] 49)).alloc (.cells #[.string ⟨#[115, 109, 105, 116, 104]⟩, .int .i64 10, .string ⟨#[119, 105, 99, 107]⟩, .int .i64 8, .string ⟨#[98, 111, 121]⟩, .int .i64 4] 49)).alloc (.cells #[.string ⟨#[101, 121, 101, 109, 111, 117, 116, 104]⟩, .string ⟨#[115, 109, 105, 116, 104]⟩, .int .i64 10, .int .i64 3] 59)).heap[W0.heap.size + 1]? = some (.cells #[.string ⟨#[98, 117, 99, 107, 105, 101]⟩, .int .i64 5, .string ⟨#[99, 117, 108, 108, 101, 110]⟩, .int .i64 3] 49 (0, 0)) := by
    have h := Ext.new (w := (W0.alloc (.cells #[.int .i64 40, .int .i64 19] 3))) (o := .cells #[.string ⟨#[98, 117, 99, 107, 105, 101]⟩, .int .i64 5, .string ⟨#[99, 117, 108, 108, 101, 110]⟩, .int .i64 3] 49) (Ext.refl _)
    try simp only [World.size_alloc] at h
    exact Ext.block ((((Ext.refl _).alloc _).alloc _).alloc _) h
  have hb3 : (((((W0.alloc (.cells #[.int .i64 40, .int .i64 19] 3)).alloc (.cells #[.string ⟨#[98, 117, 99, 107, 105, 101]⟩, .int .i64 5, .string ⟨#[99, 117, 108, 108, 101, 110]⟩, .int .i64 3] 49)).alloc (.cells #[.string ⟨#[98, 117, 99, 107, 105, 101]⟩, .int .i64 20, .string ⟨#[101, 121, 101, 109, 111, 117, 116, 104]⟩, .int .i64 10, .string ⟨#[115, 109, 105, 116, 104]⟩, .int .i64 0] 49)).alloc (.cells #[.string ⟨#[115, 109, 105, 116, 104]⟩, .int .i64 10, .string ⟨#[119, 105, 99, 107]⟩, .int .i64 8, .string ⟨#[98, 111, 121]⟩, .int .i64 4] 49)).alloc (.cells #[.string ⟨#[101, 121, 101, 109, 111, 117, 116, 104]⟩, .string ⟨#[115, 109, 105, 116, 104]⟩, .int .i64 10, .int .i64 3] 59)).heap[W0.heap.size + 1 + 1]? = some (.cells #[.string ⟨#[98, 117, 99, 107, 105, 101]⟩, .int .i64 20, .string ⟨#[101, 121, 101, 109, 111, 117, 116, 104]⟩, .int .i64 10, .string ⟨#[115, 109, 105, 116, 104]⟩, .int .i64 0] 49 (0, 0)) := by
    have h := Ext.new (w := ((W0.alloc (.cells #[.int .i64 40, .int .i64 19] 3)).alloc (.cells #[.string ⟨#[98, 117, 99, 107, 105, 101]⟩, .int .i64 5, .string ⟨#[99, 117, 108, 108, 101, 110]⟩, .int .i64 3] 49))) (o := .cells #[.string ⟨#[98, 117, 99, 107, 105, 101]⟩, .int .i64 20, .string ⟨#[101, 121, 101, 109, 111, 117, 116, 104]⟩, .int .i64 10, .string ⟨#[115, 109, 105, 116, 104]⟩, .int .i64 0] 49) (Ext.refl _)
    try simp only [World.size_alloc] at h
    exact Ext.block (((Ext.refl _).alloc _).alloc _) h
  have hb4 : (((((W0.alloc (.cells #[.int .i64 40, .int .i64 19] 3)).alloc (.cells #[.string ⟨#[98, 117, 99, 107, 105, 101]⟩, .int .i64 5, .string ⟨#[99, 117, 108, 108, 101, 110]⟩, .int .i64 3] 49)).alloc (.cells #[.string ⟨#[98, 117, 99, 107, 105, 101]⟩, .int .i64 20, .string ⟨#[101, 121, 101, 109, 111, 117, 116, 104]⟩, .int .i64 10, .string ⟨#[115, 109, 105, 116, 104]⟩, .int .i64 0] 49)).alloc (.cells #[.string ⟨#[115, 109, 105, 116, 104]⟩, .int .i64 10, .string ⟨#[119, 105, 99, 107]⟩, .int .i64 8, .string ⟨#[98, 111, 121]⟩, .int .i64 4] 49)).alloc (.cells #[.string ⟨#[101, 121, 101, 109, 111, 117, 116, 104]⟩, .string ⟨#[115, 109, 105, 116, 104]⟩, .int .i64 10, .int .i64 3] 59)).heap[W0.heap.size + 1 + 1 + 1]? = some (.cells #[.string ⟨#[115, 109, 105, 116, 104]⟩, .int .i64 10, .string ⟨#[119, 105, 99, 107]⟩, .int .i64 8, .string ⟨#[98, 111, 121]⟩, .int .i64 4] 49 (0, 0)) := by
    have h := Ext.new (w := (((W0.alloc (.cells #[.int .i64 40, .int .i64 19] 3)).alloc (.cells #[.string ⟨#[98, 117, 99, 107, 105, 101]⟩, .int .i64 5, .string ⟨#[99, 117, 108, 108, 101, 110]⟩, .int .i64 3] 49)).alloc (.cells #[.string ⟨#[98, 117, 99, 107, 105, 101]⟩, .int .i64 20, .string ⟨#[101, 121, 101, 109, 111, 117, 116, 104]⟩, .int .i64 10, .string ⟨#[115, 109, 105, 116, 104]⟩, .int .i64 0] 49))) (o := .cells #[.string ⟨#[115, 109, 105, 116, 104]⟩, .int .i64 10, .string ⟨#[119, 105, 99, 107]⟩, .int .i64 8, .string ⟨#[98, 111, 121]⟩, .int .i64 4] 49) (Ext.refl _)
    try simp only [World.size_alloc] at h
    exact Ext.block ((Ext.refl _).alloc _) h
  have hb5 : (((((W0.alloc (.cells #[.int .i64 40, .int .i64 19] 3)).alloc (.cells #[.string ⟨#[98, 117, 99, 107, 105, 101]⟩, .int .i64 5, .string ⟨#[99, 117, 108, 108, 101, 110]⟩, .int .i64 3] 49)).alloc (.cells #[.string ⟨#[98, 117, 99, 107, 105, 101]⟩, .int .i64 20, .string ⟨#[101, 121, 101, 109, 111, 117, 116, 104]⟩, .int .i64 10, .string ⟨#[115, 109, 105, 116, 104]⟩, .int .i64 0] 49)).alloc (.cells #[.string ⟨#[115, 109, 105, 116, 104]⟩, .int .i64 10, .string ⟨#[119, 105, 99, 107]⟩, .int .i64 8, .string ⟨#[98, 111, 121]⟩, .int .i64 4] 49)).alloc (.cells #[.string ⟨#[101, 121, 101, 109, 111, 117, 116, 104]⟩, .string ⟨#[115, 109, 105, 116, 104]⟩, .int .i64 10, .int .i64 3] 59)).heap[W0.heap.size + 1 + 1 + 1 + 1]? = some (.cells #[.string ⟨#[101, 121, 101, 109, 111, 117, 116, 104]⟩, .string ⟨#[115, 109, 105, 116, 104]⟩, .int .i64 10, .int .i64 3] 59 (0, 0)) := by
    have h := Ext.new (w := ((((W0.alloc (.cells #[.int .i64 40, .int .i64 19] 3)).alloc (.cells #[.string ⟨#[98, 117, 99, 107, 105, 101]⟩, .int .i64 5, .string ⟨#[99, 117, 108, 108, 101, 110]⟩, .int .i64 3] 49)).alloc (.cells #[.string ⟨#[98, 117, 99, 107, 105, 101]⟩, .int .i64 20, .string ⟨#[101, 121, 101, 109, 111, 117, 116, 104]⟩, .int .i64 10, .string ⟨#[115, 109, 105, 116, 104]⟩, .int .i64 0] 49)).alloc (.cells #[.string ⟨#[115, 109, 105, 116, 104]⟩, .int .i64 10, .string ⟨#[119, 105, 99, 107]⟩, .int .i64 8, .string ⟨#[98, 111, 121]⟩, .int .i64 4] 49))) (o := .cells #[.string ⟨#[101, 121, 101, 109, 111, 117, 116, 104]⟩, .string ⟨#[115, 109, 105, 116, 104]⟩, .int .i64 10, .int .i64 3] 59) (Ext.refl _)
    try simp only [World.size_alloc] at h
    exact Ext.block (Ext.refl _) h
  have hx5 : Ext W0 (((((W0.alloc (.cells #[.int .i64 40, .int .i64 19] 3)).alloc (.cells #[.string ⟨#[98, 117, 99, 107, 105, 101]⟩, .int .i64 5, .string ⟨#[99, 117, 108, 108, 101, 110]⟩, .int .i64 3] 49)).alloc (.cells #[.string ⟨#[98, 117, 99, 107, 105, 101]⟩, .int .i64 20, .string ⟨#[101, 121, 101, 109, 111, 117, 116, 104]⟩, .int .i64 10, .string ⟨#[115, 109, 105, 116, 104]⟩, .int .i64 0] 49)).alloc (.cells #[.string ⟨#[115, 109, 105, 116, 104]⟩, .int .i64 10, .string ⟨#[119, 105, 99, 107]⟩, .int .i64 8, .string ⟨#[98, 111, 121]⟩, .int .i64 4] 49)).alloc (.cells #[.string ⟨#[101, 121, 101, 109, 111, 117, 116, 104]⟩, .string ⟨#[115, 109, 105, 116, 104]⟩, .int .i64 10, .int .i64 3] 59)) := ((((((Ext.refl _).alloc _).alloc _).alloc _).alloc _).alloc _)
  have hb0' := hx5.block hb0
  have HX := hid (hx0.trans hx5)
  have hne : w.heap.size < W0.heap.size := lt_of_block hb0
  have HNE := hid hne
  have HB := hid (And.intro hb1 (And.intro hb2 (And.intro hb3 (And.intro hb4 hb5))))
  have HB0 := hid hb0'
  clear hb1 hb2 hb3 hb4 hb5 hb0 hb0' hx0 hx5 hne
  gi_wp2_with (refine wpIn_store_at 32 (.tmp 0) (.tmp 15) rfl (fun _ => trivial) (g := w.heap.size) (off := 0) rfl rfl HB0.out size32 (by simp) (by simp [Value.oneCell']) ?_; refine Hid.out ?_)
  refine hid ?_
  have hs := setRow_heap _ _ _ #[.int .i64 1000, .slice (some ⟨W0.heap.size, 0, none⟩) 2 2, .int .i64 3, .int .i64 3, .int .i64 2, .slice (some ⟨W0.heap.size + 1, 0, none⟩) 2 2, .slice (some ⟨W0.heap.size + 1 + 1, 0, none⟩) 3 3, .slice (some ⟨W0.heap.size + 1 + 1 + 1, 0, none⟩) 3 3, .slice (some ⟨W0.heap.size + 1 + 1 + 1 + 1, 0, none⟩) 1 1] _ _ HB0.out
  have hX2 := ext_setRow HX.out (Nat.le_refl _) #[.int .i64 1000, .slice (some ⟨W0.heap.size, 0, none⟩) 2 2, .int .i64 3, .int .i64 3, .int .i64 2, .slice (some ⟨W0.heap.size + 1, 0, none⟩) 2 2, .slice (some ⟨W0.heap.size + 1 + 1, 0, none⟩) 3 3, .slice (some ⟨W0.heap.size + 1 + 1 + 1, 0, none⟩) 3 3, .slice (some ⟨W0.heap.size + 1 + 1 + 1 + 1, 0, none⟩) 1 1]
  have s1 := (setRow_other _ w.heap.size _ #[.int .i64 1000, .slice (some ⟨W0.heap.size, 0, none⟩) 2 2, .int .i64 3, .int .i64 3, .int .i64 2, .slice (some ⟨W0.heap.size + 1, 0, none⟩) 2 2, .slice (some ⟨W0.heap.size + 1 + 1, 0, none⟩) 3 3, .slice (some ⟨W0.heap.size + 1 + 1 + 1, 0, none⟩) 3 3, .slice (some ⟨W0.heap.size + 1 + 1 + 1 + 1, 0, none⟩) 1 1] (by have := HNE.out; omega)).trans HB.out.1
  have s2 := (setRow_other _ w.heap.size _ #[.int .i64 1000, .slice (some ⟨W0.heap.size, 0, none⟩) 2 2, .int .i64 3, .int .i64 3, .int .i64 2, .slice (some ⟨W0.heap.size + 1, 0, none⟩) 2 2, .slice (some ⟨W0.heap.size + 1 + 1, 0, none⟩) 3 3, .slice (some ⟨W0.heap.size + 1 + 1 + 1, 0, none⟩) 3 3, .slice (some ⟨W0.heap.size + 1 + 1 + 1 + 1, 0, none⟩) 1 1] (by have := HNE.out; omega)).trans HB.out.2.1
  have s3 := (setRow_other _ w.heap.size _ #[.int .i64 1000, .slice (some ⟨W0.heap.size, 0, none⟩) 2 2, .int .i64 3, .int .i64 3, .int .i64 2, .slice (some ⟨W0.heap.size + 1, 0, none⟩) 2 2, .slice (some ⟨W0.heap.size + 1 + 1, 0, none⟩) 3 3, .slice (some ⟨W0.heap.size + 1 + 1 + 1, 0, none⟩) 3 3, .slice (some ⟨W0.heap.size + 1 + 1 + 1 + 1, 0, none⟩) 1 1] (by have := HNE.out; omega)).trans HB.out.2.2.1
  have s4 := (setRow_other _ w.heap.size _ #[.int .i64 1000, .slice (some ⟨W0.heap.size, 0, none⟩) 2 2, .int .i64 3, .int .i64 3, .int .i64 2, .slice (some ⟨W0.heap.size + 1, 0, none⟩) 2 2, .slice (some ⟨W0.heap.size + 1 + 1, 0, none⟩) 3 3, .slice (some ⟨W0.heap.size + 1 + 1 + 1, 0, none⟩) 3 3, .slice (some ⟨W0.heap.size + 1 + 1 + 1 + 1, 0, none⟩) 1 1] (by have := HNE.out; omega)).trans HB.out.2.2.2.1
  have s5 := (setRow_other _ w.heap.size _ #[.int .i64 1000, .slice (some ⟨W0.heap.size, 0, none⟩) 2 2, .int .i64 3, .int .i64 3, .int .i64 2, .slice (some ⟨W0.heap.size + 1, 0, none⟩) 2 2, .slice (some ⟨W0.heap.size + 1 + 1, 0, none⟩) 3 3, .slice (some ⟨W0.heap.size + 1 + 1 + 1, 0, none⟩) 3 3, .slice (some ⟨W0.heap.size + 1 + 1 + 1 + 1, 0, none⟩) 1 1] (by have := HNE.out; omega)).trans HB.out.2.2.2.2
  clear HB0 HB HX
  generalize (((((W0.alloc (.cells #[.int .i64 40, .int .i64 19] 3)).alloc (.cells #[.string ⟨#[98, 117, 99, 107, 105, 101]⟩, .int .i64 5, .string ⟨#[99, 117, 108, 108, 101, 110]⟩, .int .i64 3] 49)).alloc (.cells #[.string ⟨#[98, 117, 99, 107, 105, 101]⟩, .int .i64 20, .string ⟨#[101, 121, 101, 109, 111, 117, 116, 104]⟩, .int .i64 10, .string ⟨#[115, 109, 105, 116, 104]⟩, .int .i64 0] 49)).alloc (.cells #[.string ⟨#[115, 109, 105, 116, 104]⟩, .int .i64 10, .string ⟨#[119, 105, 99, 107]⟩, .int .i64 8, .string ⟨#[98, 111, 121]⟩, .int .i64 4] 49)).alloc (.cells #[.string ⟨#[101, 121, 101, 109, 111, 117, 116, 104]⟩, .string ⟨#[115, 109, 105, 116, 104]⟩, .int .i64 10, .int .i64 3] 59)).setRow w.heap.size #[.int .i64 1000, .slice (some ⟨W0.heap.size, 0, none⟩) 2 2, .int .i64 3, .int .i64 3, .int .i64 2, .slice (some ⟨W0.heap.size + 1, 0, none⟩) 2 2, .slice (some ⟨W0.heap.size + 1 + 1, 0, none⟩) 3 3, .slice (some ⟨W0.heap.size + 1 + 1 + 1, 0, none⟩) 3 3, .slice (some ⟨W0.heap.size + 1 + 1 + 1 + 1, 0, none⟩) 1 1] = W9 at *
  have hc9 := cell_of hs
  have HV : Hid (w.heap.size ≤ W0.heap.size ∧ NightB W9 W0.heap.size) := hid ⟨by have := HNE.out; omega, s1, s2, s3, s4, s5⟩
  clear s1 s2 s3 s4 s5 hs
  gi_wp2_with fail
  exact bodyPost_ret (v := .agg #[.int .i64 1000, .slice (some ⟨W0.heap.size, 0, none⟩) 2 2, .int .i64 3, .int .i64 3, .int .i64 2, .slice (some ⟨W0.heap.size + 1, 0, none⟩) 2 2, .slice (some ⟨W0.heap.size + 1 + 1, 0, none⟩) 3 3, .slice (some ⟨W0.heap.size + 1 + 1 + 1, 0, none⟩) 3 3, .slice (some ⟨W0.heap.size + 1 + 1 + 1 + 1, 0, none⟩) 1 1]) (by simp [results, Tryz.results44, go_sem, hc9]) rfl ⟨_, rfl, hX2, HV⟩


/-- Nine voyages in one list. -/
def BadAt (w : World) (gb : Nat) (Vs : Nat → Voy) (Ss : Nat → VS) : Prop := ∃ cur : Array Value, w.heap[gb]? = some (.cells cur 32 (0, 0)) ∧ cur.size = 81 ∧ ∀ i, i < 9 → ∀ j, j < 9 → cur[i * 9 + j]? = (voyA (Vs i) (Ss i))[j]?
def updV {α : Type} (f : Nat → α) (i : Nat) (x : α) : Nat → α := fun k => if k = i then x else f k
theorem BadAt.kept {w w' : World} {gb : Nat} {Vs : Nat → Voy} {Ss : Nat → VS} (h : BadAt w gb Vs Ss) (hk : ∀ o, w.heap[gb]? = some o → w'.heap[gb]? = some o) : BadAt w' gb Vs Ss := by
  obtain ⟨cur, h1, h2, h3⟩ := h
  exact ⟨cur, hk _ h1, h2, h3⟩
theorem BadAt.set {w : World} {gb : Nat} {Vs : Nat → Voy} {Ss : Nat → VS} (h : BadAt w gb Vs Ss) {i j : Nat} (hi : i < 9) (hj : j < 9) (v : Value) (V : Voy) (S : VS) (h1 : (voyA V S)[j]? = some v) (h2 : ∀ k, k < 9 → k ≠ j → (voyA V S)[k]? = (voyA (Vs i) (Ss i))[k]?) {off : Nat} (ho : off = i * 9 + j) :
    BadAt (w.setCell ⟨gb, off, none⟩ v) gb (updV Vs i V) (updV Ss i S) := by
  subst ho
  obtain ⟨cur, k1, k2, k3⟩ := h
  refine ⟨cur.setIfInBounds (i * 9 + j) v, set_same k1 _ _, by simpa using k2, fun a ha b hb => ?_⟩
  rw [Array.getElem?_setIfInBounds]
  unfold updV
  by_cases e : a = i
  · subst e
    rw [if_pos rfl, if_pos rfl]
    by_cases e2 : b = j
    · subst e2
      rw [if_pos rfl, if_pos (by omega), h1]
    · rw [if_neg (by omega), k3 a ha b hb, h2 b hb e2]
  · rw [if_neg (by omega), if_neg e, if_neg e]
    exact k3 a ha b hb
theorem BadAt.cell {w : World} {gb : Nat} {Vs : Nat → Voy} {Ss : Nat → VS} (h : BadAt w gb Vs Ss) {i j off : Nat} (hi : i < 9) (hj : j < 9) (ho : off = i * 9 + j) : w.cell? ⟨gb, off, none⟩ = (voyA (Vs i) (Ss i))[j]? ∧ w.frozen? ⟨gb, off, none⟩ = false := by
  subst ho
  obtain ⟨cur, k1, k2, k3⟩ := h
  exact ⟨by rw [cell_of k1]; exact k3 i hi j hj, free_of k1 _⟩
theorem BadAt.lt {w : World} {gb : Nat} {Vs : Nat → Voy} {Ss : Nat → VS} (h : BadAt w gb Vs Ss) : gb < w.heap.size := by
  obtain ⟨cur, k1, _⟩ := h
  exact lt_of_block k1
def zeroV : Voy := ⟨0, 0, 0, 0, [], [], [], [], []⟩
def zeroS : VS := ⟨none, none, none, none, none, 0, 0, 0, 0, 0⟩
def bV0 : Nat → Voy := fun i => if i = 0 then zeroV else nt
def bS0 (G : Nat → Nat) : Nat → VS := fun i => if i = 0 then zeroS else VSn (G i)
end
section
open Go Go.RowKit Go.Shelf

/-- The rest of a number by another one, from 0 on. -/
def modI (x m : Int) : Int := if x.tmod m < 0 then x.tmod m + m else x.tmod m
theorem modI_ok (x : Int) {m : Int} (hm : 1 ≤ m) : 0 ≤ modI x m ∧ modI x m < m := by
  have h1 := Int.tmod_lt_of_pos x (show 0 < m by omega)
  have h2 := Int.tmod_lt_of_pos (-x) (show 0 < m by omega)
  rw [Int.neg_tmod] at h2
  unfold modI
  split <;> omega
theorem mod_any (x m : Int) (w : World) (hm : 1 ≤ m ∧ m ≤ 1000000000000000000) :
    Cal 32 #[.int .i64 x, .int .i64 m] w fun e w' => e = .returned (.int .i64 (modI x m)) ∧ w = w' := by
  have h1 := Int.tmod_lt_of_pos x (show 0 < m by omega)
  have h2 := Int.tmod_lt_of_pos (-x) (show 0 < m by omega)
  rw [Int.neg_tmod] at h2
  have hw : IntKind.i64.wrap (x.tmod m + m) = x.tmod m + m := by rw [IntKind.wrap_i64]; omega
  have HM : Hid (modI x m = if x.tmod m < 0 then x.tmod m + m else x.tmod m) := rfl
  have hm0 : (m == 0) = false := by simp; omega
  gi_enter Tryz.func32, Tryz.ntmps32
  by_cases hneg : x.tmod m < 0
  · have HG := HM.out.trans (if_pos hneg)
    have HG2 := hid HG
    clear HG HM
    have hd : decide (x.tmod m < 0) = true := decide_eq_true hneg
    gi_wp2
    go_ret
    exact ⟨by rw [HG2.out]; rfl, rfl⟩
  · have HG := HM.out.trans (if_neg hneg)
    have HG2 := hid HG
    clear HG HM
    have hd : decide (x.tmod m < 0) = false := decide_eq_false hneg
    gi_wp2
    go_ret
    exact ⟨by rw [HG2.out]; rfl, rfl⟩
/-- A number from lo to hi, as a number chooses it. -/
def pickI (xs : List Int) (k : Int) : Int := if xs.length = 0 then 0 else xs.getD (modI k xs.length).toNat 0
theorem Pick_any (v : Value) (xs : List Int) (k : Int) (w : World) (h : IntsAt w v xs) :
    Cal 66 #[v, .int .i64 k] w fun e w' => e = .returned (.int .i64 (pickI xs k)) ∧ Ext w w' := by
  obtain ⟨a, cap, rfl, hl, hc⟩ := h
  gi_enter Tryz.func66, Tryz.ntmps66
  by_cases h0 : xs.length = 0
  · have HP : Hid (pickI xs k = 0) := if_pos h0
    have hz : ((xs.length : Int) == 0) = true := by rw [beq_iff_eq]; omega
    clear hc h0
    gi_wp2
    go_ret
    exact ⟨by rw [HP.out]; rfl, Ext.refl _⟩
  · have hz : ((xs.length : Int) == 0) = false := by rw [beq_eq_false_iff_ne]; omega
    have hmo := modI_ok k (m := (xs.length : Int)) (by omega)
    obtain ⟨j, hj⟩ : ∃ j : Nat, modI k xs.length = j := ⟨(modI k xs.length).toNat, by omega⟩
    have hjl : j < xs.length := by omega
    obtain ⟨b, off, rfl, hb, hcell⟩ := hc j hjl
    have HP : Hid (pickI xs k = xs[j]) := by
      show _ = _
      unfold pickI
      rw [if_neg h0, hj, Int.toNat_natCast, getD_of hjl]
    have HM := hid (mod_any k xs.length w (by omega))
    rw [hj] at HM
    clear hc h0 hmo hj
    generalize xs[j] = y at *
    gi_wp2_with (gi_at_call 32; ((with_reducible refine HM.out.mono ?_); rintro e w5 ⟨rfl, rfl⟩))
    go_ret
    exact ⟨by rw [HP.out]; rfl, Ext.refl _⟩

def pre (xs : List Int) (k : Nat) : Bool := decide (xs.length ≤ 10) && areB (-1000000) 1000000 (xs.take k)
theorem pre_succ {xs : List Int} {k : Nat} (h : k < xs.length) (hp : pre xs k = true) : pre xs (k + 1) = inB xs[k] (-1000000) 1000000 := by
  unfold pre at hp ⊢
  rw [Bool.and_eq_true] at hp
  rw [hp.1, Bool.true_and, List.take_succ_eq_append_getElem h]
  have h2 := areB_iff.1 hp.2
  cases hb : inB xs[k] (-1000000) 1000000 with
  | true =>
    refine areB_iff.2 fun x hx => ?_
    rcases List.mem_append.1 hx with hx | hx
    · exact h2 x hx
    · rw [List.mem_singleton] at hx; subst hx; exact inB_spec hb
  | false =>
    cases ha : areB (-1000000) 1000000 (xs.take k ++ [xs[k]]) with
    | false => rfl
    | true =>
      have h3 := areB_iff.1 ha xs[k] (List.mem_append_right _ (List.mem_singleton.2 rfl))
      exfalso
      rw [show inB xs[k] (-1000000) 1000000 = true by unfold inB; simp; omega] at hb; cases hb
theorem pre_false {xs : List Int} {k : Nat} (hp : pre xs k = false) : debtsB xs = false := by
  cases h : debtsB xs with
  | false => rfl
  | true =>
    obtain ⟨h1, h2, _⟩ := debts_ok h
    exfalso
    have : pre xs k = true := by
      unfold pre
      rw [Bool.and_eq_true]
      exact ⟨decide_eq_true h1, areB_iff.2 fun x hx => h2 x (List.mem_of_mem_take hx)⟩
    rw [this] at hp; cases hp
theorem pre_all {xs : List Int} (hp : pre xs xs.length = true) : debtsB xs = (xs.sum == 0) ∧ xs.length ≤ 10 ∧ ∀ x ∈ xs, -1000000 ≤ x ∧ x ≤ 1000000 := by
  unfold pre at hp
  rw [List.take_length, Bool.and_eq_true] at hp
  refine ⟨?_, of_decide_eq_true hp.1, areB_iff.1 hp.2⟩
  unfold debtsB
  rw [hp.1, hp.2]; rfl
set_option maxHeartbeats 4000000 in
theorem owing_any (v : Value) (xs : List Int) (w : World) (hv : IntsAt w v xs) (hll : xs.length ≤ 1000000000000000) : Cal 38 #[v] w fun e w' => e = .returned (.bool (debtsB xs)) ∧ w = w' := by
  have HV := hid hv
  obtain ⟨a, cap, rfl, hl, hc⟩ := id hv
  have HC := hid hc
  have hle : decide ((xs.length : Int) ≤ 10) = pre xs 0 := by
    unfold pre
    rw [List.take_zero, show areB (-1000000) 1000000 ([] : List Int) = true from areB_iff.2 (by simp), Bool.and_true]
    exact decide_eq_decide.2 (by omega)
  clear hv hc
  have HDB : Hid (∀ k, pre xs k = false → debtsB xs = false) := hid fun k h => pre_false h
  have HDA : Hid (pre xs xs.length = true → debtsB xs = (xs.sum == 0) ∧ xs.length ≤ 10 ∧ ∀ x ∈ xs, -1000000 ≤ x ∧ x ≤ 1000000) := hid pre_all
  have HPS : Hid (∀ k (h : k < xs.length), pre xs k = true → pre xs (k + 1) = inB xs[k] (-1000000) 1000000) := hid fun k h => pre_succ h
  gi_enter Tryz.func38, Tryz.ntmps38
  gi_wp2_with fail
  try rw [hle]
  clear hle
  gi_loopw [3, 4] (fun u3 i wr => wr = w ∧ ∃ k : Nat, k ≤ xs.length ∧ i = .int .i64 k ∧ u3 = .bool (pre xs k)) (fun _ i _ => xs.length - (intOf i).toNat)
  case atStart => exact ⟨rfl, 0, Nat.zero_le _, rfl, rfl⟩
  case round =>
    obtain ⟨rfl, k, hk, rfl, rfl⟩ := hrel
    cases hp : pre xs k with
    | false =>
      have HF := hid (HDB.out k hp)
      clear hp
      gi_wp2_with fail
      go_ret
      exact ⟨by rw [HF.out]; rfl, rfl⟩
    | true =>
      by_cases hlt : k < xs.length
      · have hki : (k : Int) < (xs.length : Int) := by omega
        obtain ⟨b, off, rfl, hb, hcell⟩ := HC.out k hlt
        have HN := hid (HPS.out k hlt hp)
        have HI := hid (In_b xs[k] (-1000000) 1000000 _ wr HN.out.symm)
        clear hp HN
        generalize xs[k] = x at *
        obtain ⟨q, hq⟩ : ∃ q, pre xs (k + 1) = q := ⟨_, rfl⟩
        rw [hq] at HI
        have HQ := hid hq
        clear hq
        gi_wp2_with (gi_at_call 29; ((with_reducible refine (HI.out).mono ?_); rintro e w1 ⟨rfl, rfl⟩))
        go_roundw
        case rel => exact ⟨by first | rfl | trivial, k + 1, by omega, by go_num, by first | rfl | (rw [HQ.out])⟩
        case measure => simp [intOf]; omega
      · obtain rfl : k = xs.length := by omega
        have hki : ¬ (xs.length : Int) < (xs.length : Int) := by omega
        have HA := hid (HDA.out hp)
        have HSU := hid (Sum_any (.slice a xs.length cap) xs wr HV.out (fun x hx => by have := HA.out.2.2 x hx; omega) (by have := HA.out.2.1; omega))
        clear hp hlt
        gi_wp2_with (gi_at_call 34; ((with_reducible refine (HSU.out).mono ?_); rintro e w1 ⟨rfl, rfl⟩))
        go_ret
        exact ⟨by rw [HA.out.1]; rfl, rfl⟩
end
section
open Go Go.RowKit Go.Shelf

theorem copy_ints (w : World) (a : Option Addr) (cap : Nat) (xs : List Int) (hv : IntsAt w (.slice a xs.length cap) xs) (hl : xs.length ≤ 1000) :
    ∃ v' w', (Builtin.append_ #[23, 23] 23 #[.slice (some ⟨w.heap.size, 0, none⟩) 0 0, .slice a xs.length cap]).run Tryz.prog (w.alloc (.cells #[] 3)) = .ok v' w' ∧ Row w' 3 1 v' xs.length (intsV xs) ∧ (∀ q, v'.ownBlock = some q → w.heap.size ≤ q) ∧ Ext w w' := by
  rcases Nat.eq_zero_or_pos xs.length with h0 | h0
  · have e := List.eq_nil_of_length_eq_zero h0
    subst e
    obtain ⟨i0, hi0, hz0, hz1, hz2⟩ := info_parts info3
    exact ⟨_, _, append_none (w := w.alloc (.cells #[] 3)) (t := 23) (ty := 23) Tryz.underlying23 hi0 (sa := some ⟨w.heap.size, 0, none⟩) (n := 0) (c := 0) (Nat.le_refl _) a cap, row_empty w 3 1, fun q hq => by simp [Value.ownBlock] at hq; omega, (Ext.refl _).alloc _⟩
  · obtain ⟨a', c', e, _, hc⟩ := id hv
    cases e
    obtain ⟨b, off, rfl, _⟩ := hc 0 h0
    obtain ⟨g, c, w', hrun, hrow, hg, hx⟩ := whole_ints (w := w) (Ext.refl w) hv ⟨h0, hl⟩
    exact ⟨_, w', hrun, hrow, fun q hq => by simp [Value.ownBlock] at hq; omega, hx⟩
def gF (n : Nat) : List Int := (List.range n).map fun i : Nat => (i : Int)
theorem gF_mem {n : Nat} {x : Int} : x ∈ gF n ↔ 0 ≤ x ∧ x < (n : Int) := by
  unfold gF
  rw [List.mem_map]
  constructor
  · rintro ⟨i, hi, rfl⟩
    have := List.mem_range.1 hi
    omega
  · intro h
    exact ⟨x.toNat, List.mem_range.2 (by omega), by omega⟩
theorem gF_nodup (n : Nat) : (gF n).Nodup := by
  unfold gF
  refine List.Pairwise.map _ (fun (a b : Nat) (h : a ≠ b) => ?_) List.nodup_range
  intro e; exact h (by omega)
theorem gF_sum (xs : List Int) : sumG (balF xs) (gF xs.length) = xs.sum := by
  unfold sumG gF
  rw [List.map_map]
  have e : ((List.range xs.length).map ((fun x : Int => balF xs x.toNat) ∘ fun i : Nat => (i : Int))) = xs := by
    refine List.ext_getElem (by simp) fun i h1 h2 => ?_
    simp only [List.getElem_map, List.getElem_range, Function.comp_apply, Int.toNat_natCast]
    unfold balF
    rw [getD_of h2]
  rw [e]
theorem clear_of {xs : List Int} {ps : List Py} (hn : xs.length ≤ 10) (hg : ∀ p ∈ ps, pyGood xs.length p = true) (hz : ∀ i, ps.foldl payL (balF xs) i = 0) : clearB xs ps = true := by
  have e0 : leftFrom xs xs.length = balF xs := by
    funext i
    unfold leftFrom balF
    by_cases h : i < xs.length
    · rw [if_pos h]
    · rw [if_neg h, List.getD_eq_getElem?_getD, List.getElem?_eq_none (by omega)]; rfl
  unfold clearB allTo
  rw [Bool.and_eq_true, List.all_eq_true, List.all_eq_true]
  refine ⟨fun i hi => ?_, fun i _ => ?_⟩
  · have hi := List.mem_range.1 hi
    rw [getD_of hi]; exact hg _ (List.getElem_mem hi)
  · unfold leftPay
    rw [List.take_length, e0, hz i]; rfl
theorem modI_nat (a m : Nat) : modI (a : Int) (m : Int) = ((a % m : Nat) : Int) := by
  unfold modI
  have h : ((a : Int).tmod (m : Int)) = ((a % m : Nat) : Int) := by rw [Int.tmod_eq_emod_of_nonneg (by omega)]; rfl
  rw [h, if_neg (by omega)]
theorem rot_all {n c i : Nat} (hc : c < n) (hi : i < n) : ∃ j, j < n ∧ (j + c) % n = i := by
  rcases Nat.lt_or_ge i c with h | h
  · exact ⟨i + n - c, by omega, by rw [show i + n - c + c = i + n by omega, Nat.add_mod_right, Nat.mod_eq_of_lt hi]⟩
  · exact ⟨i - c, by omega, by rw [show i - c + c = i by omega, Nat.mod_eq_of_lt hi]⟩
/-- The first of some that is not yet found is -1. -/
def FR (p : Nat → Bool) (c n k : Nat) (F : Int) : Prop := (F = -1 ∧ ∀ j, j < k → p ((j + c) % n) = false) ∨ ∃ f : Nat, f < n ∧ F = f ∧ p f = true
theorem FR.none {p : Nat → Bool} {c n : Nat} {F : Int} (h : FR p c n n F) (hc : c < n) (hF : F < 0) : ∀ i, i < n → p i = false := fun i hi => by
  rcases h with ⟨_, h⟩ | ⟨f, _, h, _⟩
  · obtain ⟨j, hj, rfl⟩ := rot_all hc hi
    exact h j hj
  · omega
theorem FR.some {p : Nat → Bool} {c n k : Nat} {F : Int} (h : FR p c n k F) (hF : ¬ F < 0) : ∃ f : Nat, f < n ∧ F = f ∧ p f = true := by
  rcases h with ⟨h, _⟩ | h
  · omega
  · exact h
theorem FR.keep {p : Nat → Bool} {c n k : Nat} {F : Int} (h : FR p c n k F) (hp : F < 0 → p ((k + c) % n) = false) : FR p c n (k + 1) F := by
  rcases h with ⟨h1, h2⟩ | h
  · refine .inl ⟨h1, fun j hj => ?_⟩
    rcases Nat.lt_or_ge j k with hl | hl
    · exact h2 j hl
    · obtain rfl : j = k := by omega
      exact hp (by omega)
  · exact .inr h
theorem FR.take {p : Nat → Bool} {c n k : Nat} (hn : 0 < n) (hp : p ((k + c) % n) = true) : FR p c n (k + 1) (((k + c) % n : Nat) : Int) := .inr ⟨_, Nat.mod_lt _ hn, rfl, hp⟩
set_option maxRecDepth 100000 in
set_option maxHeartbeats 16000000 in
theorem chosen_any (v bv : Value) (xs bits : List Int) (w : World) (hv : IntsAt w v xs) (hb : IntsAt w bv bits) (hd : debtsB xs = true) :
    Cal 43 #[v, bv] w fun e w' => ∃ r ps, e = .returned r ∧ Ext w w' ∧ Hid (Row w' 74 3 r ps.length (pysF ps) ∧ ps.length ≤ 10 ∧ (∀ p ∈ ps, pyGood xs.length p = true ∧ p.s ≤ 1000000) ∧ ∀ i, ps.foldl payL (balF xs) i = 0) := by
  obtain ⟨a, cap, rfl, hll⟩ := id hv
  obtain ⟨hl, hbd, hsum⟩ := debts_ok hd
  obtain ⟨v5, w5, hrun, hrow, hown, hx5⟩ := copy_ints w a cap xs hv (by omega)
  have HL := hid hl
  have HR5 := hid (intsV_bal xs ▸ hrow)
  have HO5 := hid hown
  have HX5 := hid hx5
  have HB := hid hb
  have HN := hid (gF_nodup xs.length)
  have HG := hid (fun x (hx : x ∈ gF xs.length) => gF_mem.1 hx)
  have HS0 := hid (SetOk.start (n := xs.length) (g := gF xs.length) (D := balF xs) (by rw [gF_sum]; exact hsum) (fun i => (ClOk.start (ts := []) hbd).bnd i))
  have HC0 : Hid (cntG (balF xs) (gF xs.length) ≤ 10) := hid (by unfold cntG; refine Nat.le_trans List.countP_le_length ?_; unfold gF; simp; exact hl)
  have HBZ : Hid (∀ i, xs.length ≤ i → balF xs i = 0) := hid fun i hi => by unfold balF; rw [List.getD_eq_getElem?_getD, List.getElem?_eq_none hi]; rfl
  clear hv hb hd hll hl hbd hsum hrow hown hx5
  obtain ⟨n, hn⟩ : ∃ n, xs.length = n := ⟨_, rfl⟩
  rw [hn] at HR5 HL HN HG HS0 HC0 HBZ hrun ⊢
  clear hn
  gi_enter Tryz.func43, Tryz.ntmps43
  gi_wp2_with (refine wpIn_append_at (fun _ => trivial) rfl (w.alloc (.cells #[] 3)) (.tmp 13) (.tmp 14) 23 rfl (by with_reducible rfl) hrun rfl rfl rfl ?_)
  clear hrun
  have HJ : Hid (∃ (D : Nat → Int) (ps : List Py), Ext w w5 ∧ w5.heap.size ≤ w5.heap.size ∧ Row w5 3 1 v5 n (intsF n D) ∧ SetOk n (gF n) (balF xs) D ps ∧ ps.length = 0 ∧ Row w5 74 3 (.slice none 0 0) ps.length (pysF ps) ∧ ∀ q, (Value.slice none 0 0).ownBlock = some q → w5.heap.size ≤ q) := hid ⟨balF xs, [], HX5.out, Nat.le_refl _, HR5.out, HS0.out, rfl, Row.nil _ _ _, fun q h => by simp [Value.ownBlock] at h⟩
  gi_loopw [6, 7, 8, 9, 10, 11, 12] (fun r i u8 u9 u10 u11 u12 wr => ∃ N : Nat, N ≤ 20 ∧ i = .int .i64 N ∧ Hid (∃ (D : Nat → Int) (ps : List Py), Ext w wr ∧ w5.heap.size ≤ wr.heap.size ∧ Row wr 3 1 v5 n (intsF n D) ∧ SetOk n (gF n) (balF xs) D ps ∧ ps.length = N ∧ Row wr 74 3 r ps.length (pysF ps) ∧ ∀ q, r.ownBlock = some q → w5.heap.size ≤ q)) (fun _ i _ _ _ _ _ _ => 20 - (intOf i).toNat)
  case atStart => exact ⟨0, by omega, rfl, HJ⟩
  case round =>
    obtain ⟨N, hN, rfl, HI⟩ := hrel
    clear HJ
    obtain ⟨D, ps, hxr, hw5r, hrow, hok, hpl, hpy, hown⟩ := HI.out
    have hN10 : N ≤ 10 := by have := hok.cnt; have := HC0.out; omega
    have hNi : (N : Int) < 20 := by omega
    have HXR := hid hxr
    have HWR := hid hw5r
    have HRW := hid hrow
    have HOK := hid hok
    have HPL := hid hpl
    have HPY := hid hpy
    have HOW := hid hown
    clear HI hxr hw5r hrow hok hpl hpy hown hN
    obtain ⟨va, vc, rfl⟩ := HRW.out.isSliceN
    obtain ⟨na, nc, rfl⟩ := HPY.out.isSliceN
    gi_wp2_with fail
    obtain ⟨c, hc⟩ : ∃ c : Nat, (0 < n → c < n) ∧ (0 < n → modI (pickI bits N) n = c) := by
      rcases Nat.eq_zero_or_pos n with h | h
      · exact ⟨0, fun h' => by omega, fun h' => by omega⟩
      · have h2 := modI_ok (pickI bits N) (m := (n : Int)) (by omega)
        exact ⟨(modI (pickI bits N) n).toNat, fun _ => by omega, fun _ => by omega⟩
    have HC := hid hc
    clear hc
    have HPK : Hid (∀ u, Ext w u → Cal 66 #[bv, .int .i64 N] u fun e w' => e = .returned (.int .i64 (pickI bits N)) ∧ Ext u w') := hid fun u hu => Pick_any bv bits N u (HB.out.mono hu)
    obtain ⟨pk, hpk⟩ : ∃ pk, pickI bits N = pk := ⟨_, rfl⟩
    rw [hpk] at HPK HC
    clear hpk
    obtain ⟨wo, hwo⟩ : ∃ wo, wo = wr := ⟨wr, rfl⟩
    have HXO : Hid (Ext w wo) := hid (hwo ▸ HXR.out)
    have HRO : Hid (Row wo 3 1 (.slice va n vc) n (intsF n D)) := hid (hwo ▸ HRW.out)
    have HPO : Hid (Row wo 74 3 (.slice na ps.length nc) ps.length (pysF ps)) := hid (hwo ▸ HPY.out)
    have HWO : Hid (w5.heap.size ≤ wo.heap.size) := hid (hwo ▸ HWR.out)
    have HJ2 : Hid (Ext wo wr ∧ FR (fun i => decide (D i < 0)) c n 0 (-1) ∧ FR (fun i => decide (0 < D i)) c n 0 (-1)) := hid ⟨hwo ▸ Ext.refl _, .inl ⟨rfl, fun j h => absurd h (by omega)⟩, .inl ⟨rfl, fun j h => absurd h (by omega)⟩⟩
    clear hwo HXR HRW HPY HWR
    gi_loopw [8, 9, 10, 11] (fun u8 u9 i u11 wr => ∃ (k : Nat) (F T : Int), k ≤ n ∧ i = .int .i64 k ∧ u8 = .int .i64 F ∧ u9 = .int .i64 T ∧ Hid (Ext wo wr ∧ FR (fun i => decide (D i < 0)) c n k F ∧ FR (fun i => decide (0 < D i)) c n k T)) (fun _ _ i _ _ => n - (intOf i).toNat)
    case atStart => exact ⟨0, -1, -1, Nat.zero_le _, rfl, rfl, rfl, HJ2⟩
    case round =>
      obtain ⟨k, F, T, hk, rfl, rfl, rfl, HI⟩ := hrel
      clear HJ2
      by_cases hlt : k < n
      · have hki : (k : Int) < (n : Int) := by omega
        have hn0 : 0 < n := by omega
        obtain ⟨db, dc, e⟩ := row_addr HRO.out hn0
        cases e
        obtain ⟨hcn, hcm⟩ := HC.out
        have hcn := hcn hn0
        have hcm := hcm hn0
        have hn10 := HL.out
        have HM1 : Hid (∀ u, Cal 32 #[.int .i64 pk, .int .i64 n] u fun e w' => e = .returned (.int .i64 c) ∧ u = w') := hid fun u => by have h := mod_any pk n u (by omega); rw [hcm] at h; exact h
        have HM2 : Hid (∀ u, Cal 32 #[.int .i64 ((k : Int) + (c : Int)), .int .i64 n] u fun e w' => e = .returned (.int .i64 (((k + c) % n : Nat) : Int)) ∧ u = w') := hid fun u => by have h := mod_any ((k : Int) + (c : Int)) n u (by omega); rw [show ((k : Int) + (c : Int)) = ((k + c : Nat) : Int) by omega, modI_nat] at h; exact h
        have hin : (k + c) % n < n := Nat.mod_lt _ hn0
        obtain ⟨i, hi⟩ : ∃ i, (k + c) % n = i := ⟨_, rfl⟩
        have HKF := hid (fun (h : F < 0 → decide (D i < 0) = false) => HI.out.2.1.keep (by rw [hi]; exact h))
        have HKT := hid (fun (h : T < 0 → decide (0 < D i) = false) => HI.out.2.2.keep (by rw [hi]; exact h))
        have HTF := hid (fun (h : decide (D i < 0) = true) => FR.take (p := fun i => decide (D i < 0)) (c := c) (k := k) hn0 (by rw [hi]; exact h))
        have HTT := hid (fun (h : decide (0 < D i) = true) => FR.take (p := fun i => decide (0 < D i)) (c := c) (k := k) hn0 (by rw [hi]; exact h))
        rw [hi] at HM2 hin HTF HTT
        have HRC := hid (row_cell (HRO.out.mono HI.out.1) hin)
        have HXI := hid HI.out.1
        have HIN := hid hin
        have hiN : (i : Int) < (n : Int) := by omega
        have hwk : wrap64 ((k : Int) + (c : Int)) = (k : Int) + (c : Int) := by unfold wrap64; omega
        have hw1 : wrap64 ((k : Int) + 1) = (k : Int) + 1 := by unfold wrap64; omega
        clear hi hcn hcm hn0 HI hin
        have HPKK := hid (HPK.out wr (HXO.out.trans HXI.out))
        have HCELL : Hid (∀ u, Ext wr u → u.cell? ⟨db, i, none⟩ = some (.int .i64 (D i))) := hid fun u hu => row_cell (HRO.out.mono (HXI.out.trans hu)) HIN.out
        clear HRC
        have HLT := hid hlt
        by_cases hneg : D i < 0
        · have hpos : ¬ 0 < D i := by omega
          by_cases hF : F < 0
          · have hskip := trivial
            clear hskip
            have HFN := hid (HTF.out (decide_eq_true hneg))
            have HTN := hid (HKT.out fun _ => decide_eq_false hpos)
            clear HKF HKT HTF HTT
            gi_wp2_with (first | (gi_at_call 66; ((with_reducible refine (HPKK.out).mono ?_); rintro e w1 ⟨rfl, hx1⟩; have c0 := HCELL.out w1 hx1; have HX1 := hid (HXI.out.trans hx1); clear hx1)) | (gi_at_call 32; ((with_reducible refine (HM1.out _).mono ?_); rintro e w2 ⟨rfl, rfl⟩)) | (gi_at_call 32; ((with_reducible refine (HM2.out _).mono ?_); rintro e w3 ⟨rfl, rfl⟩)))
            go_roundw
            case rel => exact ⟨k + 1, i, T, by have := HLT.out; omega, by go_num, by first | rfl | go_num, by first | rfl | go_num, hid ⟨HX1.out, HFN.out, HTN.out⟩⟩
            case measure => have := HLT.out; simp [intOf]; omega
          · have hskip := trivial
            clear hskip
            have HFN := hid (HKF.out fun h => absurd h hF)
            have HTN := hid (HKT.out fun _ => decide_eq_false hpos)
            clear HKF HKT HTF HTT
            gi_wp2_with (first | (gi_at_call 66; ((with_reducible refine (HPKK.out).mono ?_); rintro e w1 ⟨rfl, hx1⟩; have c0 := HCELL.out w1 hx1; have HX1 := hid (HXI.out.trans hx1); clear hx1)) | (gi_at_call 32; ((with_reducible refine (HM1.out _).mono ?_); rintro e w2 ⟨rfl, rfl⟩)) | (gi_at_call 32; ((with_reducible refine (HM2.out _).mono ?_); rintro e w3 ⟨rfl, rfl⟩)))
            go_roundw
            case rel => exact ⟨k + 1, F, T, by have := HLT.out; omega, by go_num, by first | rfl | go_num, by first | rfl | go_num, hid ⟨HX1.out, HFN.out, HTN.out⟩⟩
            case measure => have := HLT.out; simp [intOf]; omega
        · by_cases hpos : 0 < D i
          · by_cases hT : T < 0
            · have hskip := trivial
              clear hskip
              have HFN := hid (HKF.out fun _ => decide_eq_false hneg)
              have HTN := hid (HTT.out (decide_eq_true hpos))
              clear HKF HKT HTF HTT
              gi_wp2_with (first | (gi_at_call 66; ((with_reducible refine (HPKK.out).mono ?_); rintro e w1 ⟨rfl, hx1⟩; have c0 := HCELL.out w1 hx1; have HX1 := hid (HXI.out.trans hx1); clear hx1)) | (gi_at_call 32; ((with_reducible refine (HM1.out _).mono ?_); rintro e w2 ⟨rfl, rfl⟩)) | (gi_at_call 32; ((with_reducible refine (HM2.out _).mono ?_); rintro e w3 ⟨rfl, rfl⟩)))
              go_roundw
              case rel => exact ⟨k + 1, F, i, by have := HLT.out; omega, by go_num, by first | rfl | go_num, by first | rfl | go_num, hid ⟨HX1.out, HFN.out, HTN.out⟩⟩
              case measure => have := HLT.out; simp [intOf]; omega
            · have hskip := trivial
              clear hskip
              have HFN := hid (HKF.out fun _ => decide_eq_false hneg)
              have HTN := hid (HKT.out fun h => absurd h hT)
              clear HKF HKT HTF HTT
              gi_wp2_with (first | (gi_at_call 66; ((with_reducible refine (HPKK.out).mono ?_); rintro e w1 ⟨rfl, hx1⟩; have c0 := HCELL.out w1 hx1; have HX1 := hid (HXI.out.trans hx1); clear hx1)) | (gi_at_call 32; ((with_reducible refine (HM1.out _).mono ?_); rintro e w2 ⟨rfl, rfl⟩)) | (gi_at_call 32; ((with_reducible refine (HM2.out _).mono ?_); rintro e w3 ⟨rfl, rfl⟩)))
              go_roundw
              case rel => exact ⟨k + 1, F, T, by have := HLT.out; omega, by go_num, by first | rfl | go_num, by first | rfl | go_num, hid ⟨HX1.out, HFN.out, HTN.out⟩⟩
              case measure => have := HLT.out; simp [intOf]; omega
          · have hskip := trivial
            clear hskip
            have HFN := hid (HKF.out fun _ => decide_eq_false hneg)
            have HTN := hid (HKT.out fun _ => decide_eq_false hpos)
            clear HKF HKT HTF HTT
            gi_wp2_with (first | (gi_at_call 66; ((with_reducible refine (HPKK.out).mono ?_); rintro e w1 ⟨rfl, hx1⟩; have c0 := HCELL.out w1 hx1; have HX1 := hid (HXI.out.trans hx1); clear hx1)) | (gi_at_call 32; ((with_reducible refine (HM1.out _).mono ?_); rintro e w2 ⟨rfl, rfl⟩)) | (gi_at_call 32; ((with_reducible refine (HM2.out _).mono ?_); rintro e w3 ⟨rfl, rfl⟩)))
            go_roundw
            case rel => exact ⟨k + 1, F, T, by have := HLT.out; omega, by go_num, by first | rfl | go_num, by first | rfl | go_num, hid ⟨HX1.out, HFN.out, HTN.out⟩⟩
            case measure => have := HLT.out; simp [intOf]; omega
      · have hnk : n = k := by omega
        subst hnk
        have hki : ¬ (n : Int) < (n : Int) := by omega
        obtain ⟨hxx, hfr, htr⟩ := HI.out
        have HXI := hid hxx
        have HXW := hid (HXO.out.trans hxx)
        by_cases hF : F < 0
        · have hno : ∀ x ∈ gF n, ¬ D x.toNat < 0 := fun x hx => by
            have h1 := HG.out x hx
            have h2 := hfr.none (HC.out.1 (by omega)) hF x.toNat (by omega)
            simpa using h2
          have HEND := hid (HOK.out.ended hno)
          have HZ0 : Hid (∀ i, ps.foldl payL (balF xs) i = 0) := hid fun i => by
            rw [← HOK.out.fold]
            rcases Nat.lt_or_ge i n with h | h
            · have := HEND.out.1 (i : Int) (gF_mem.2 (by omega))
              simpa using this
            · rw [HOK.out.fold, payL_off (gF n) ps _ (fun p hp => ⟨(HOK.out.good p hp).2.1, (HOK.out.good p hp).2.2.1⟩) i (fun hm => by have := gF_mem.1 hm; omega)]
              exact HBZ.out i h
          have HPW := hid (HPO.out.mono hxx)
          clear HI hxx hfr htr hno
          gi_wp2_with fail
          go_ret
          exact ⟨_, rfl, HXW.out, ps, hid ⟨HPW.out, by rw [HPL.out]; exact hN10, fun p hp => ⟨(HOK.out.good p hp).1, (HOK.out.good p hp).2.2.2⟩, HZ0.out⟩⟩
        · obtain ⟨fn, hfn, rfl, hpf⟩ := hfr.some hF
          have hpf : D fn < 0 := by simpa using hpf
          by_cases hT : T < 0
          · exfalso
            have h1 : ∀ x ∈ gF n, D x.toNat ≤ 0 := fun x hx => by
              have h1 := HG.out x hx
              have h2 := htr.none (HC.out.1 (by omega)) hT x.toNat (by omega)
              simp at h2; omega
            have h2 := (sum_neg h1).2 (fn : Int) (gF_mem.2 (by omega)) (by simpa using hpf)
            have h3 := HOK.out.sum
            omega
          · obtain ⟨tn, htn, rfl, hpt⟩ := htr.some hT
            have hpt : 0 < D tn := by simpa using hpt
            obtain ⟨db, dc, e⟩ := row_addr HRO.out (show 0 < n by omega)
            cases e
            have HSTEP := hid (HOK.out.step HN.out HG.out (f := (fn : Int)) (t := (tn : Int)) (gF_mem.2 (by omega)) (gF_mem.2 (by omega)) (by simpa using hpf) (by simpa using hpt))
            simp only [Int.toNat_natCast] at HSTEP
            obtain ⟨x, hxd⟩ : ∃ x, D fn = x := ⟨_, rfl⟩
            obtain ⟨y, hyd⟩ : ∃ y, D tn = y := ⟨_, rfl⟩
            have hbx := HOK.out.bnd fn
            have hby := HOK.out.bnd tn
            rw [hxd] at hpf HSTEP hbx
            rw [hyd] at hpt HSTEP hby
            obtain ⟨s, hsd⟩ : ∃ s, minI (-x) y = s := ⟨_, rfl⟩
            have hsb : 0 < s ∧ s ≤ 1000000 := by rw [← hsd]; unfold minI; split <;> omega
            rw [hsd] at HSTEP
            have hmin : min (-x) y = s := by rw [← hsd]; unfold minI; rw [Int.min_def]; split <;> split <;> omega
            have HF := hid (And.intro hfn htn)
            have HNF : Hid (fn ≠ tn) := hid fun e => by subst e; rw [hxd] at hyd; omega
            have HXD := hid (And.intro hxd hyd)
            have HBB := hid (And.intro (And.intro hbx hby) hsb)
            have hneg : IntKind.i64.wrap (-x) = -x := by have := HBB.out.1.1; rw [IntKind.wrap_i64]; first | omega | (unfold wrap64; omega)
            have HRO5 := hid (HRO.out.mono hxx)
            have HPY5 := hid (HPO.out.mono hxx)
            have HDB := hid (HO5.out db rfl)
            have HDL : Hid (db < w5.heap.size) := hid (row_lt HR5.out).1
            have HW5 : Hid (w5.heap.size ≤ wr.heap.size) := hid (Nat.le_trans HWO.out hxx.size)
            have qf : (fn : Int) < (n : Int) := by omega
            have qt : (tn : Int) < (n : Int) := by omega
            clear HI hxx hfr htr hpf hpt hxd hyd hbx hby hsd hsb hfn htn HPK
            gi_upto_region 17 with fail
            refine lex_wide 11 [] (by kernel_rfl) (by kernel_rfl) nStab_nil ?_
            simp only [List.take_succ_cons, List.take_zero, List.drop_succ_cons, List.drop_zero]
            apply lex_fun (rfl : psAt _ _ = none)
            · intro x u hR hf
              clear hR hf
              go_simp
              exact ⟨rfl, Ext.refl _⟩
            simp only [Act.put, List.setIfInBounds_toArray, List.set_cons_succ, List.set_cons_zero]
            apply lex_fun (rfl : psAt _ _ = none)
            · intro x u hR hf
              clear hR hf
              go_simp
              exact ⟨rfl, Ext.refl _⟩
            simp only [Act.put, List.setIfInBounds_toArray, List.set_cons_succ, List.set_cons_zero]
            apply lex_fun (rfl : psAt _ _ = none)
            · intro x u hR hf
              clear hR hf
              go_simp
              exact ⟨rfl, Ext.refl _⟩
            simp only [Act.put, List.setIfInBounds_toArray, List.set_cons_succ, List.set_cons_zero]
            apply lex_fun (rfl : psAt _ _ = none)
            · intro x u hR hf
              have c0 := row_cell (HRO5.out.mono hR) HF.out.1
              rw [HXD.out.1] at c0
              clear hR hf
              go_simp
              exact ⟨rfl, Ext.refl _⟩
            simp only [Act.put, List.setIfInBounds_toArray, List.set_cons_succ, List.set_cons_zero]
            refine lex_fun (v := .int .i64 (-x)) (rfl : psAt _ _ = none) ?_ ?_
            · intro z u hR hf
              clear hR hf
              go_simp
              first | exact Ext.refl _ | exact ⟨rfl, Ext.refl _⟩ | exact ⟨hneg, Ext.refl _⟩
            simp only [Act.put, List.setIfInBounds_toArray, List.set_cons_succ, List.set_cons_zero]
            apply lex_fun (rfl : psAt _ _ = none)
            · intro x u hR hf
              clear hR hf
              go_simp
              exact ⟨rfl, Ext.refl _⟩
            simp only [Act.put, List.setIfInBounds_toArray, List.set_cons_succ, List.set_cons_zero]
            apply lex_fun (rfl : psAt _ _ = none)
            · intro x u hR hf
              clear hR hf
              go_simp
              exact ⟨rfl, Ext.refl _⟩
            simp only [Act.put, List.setIfInBounds_toArray, List.set_cons_succ, List.set_cons_zero]
            apply lex_fun (rfl : psAt _ _ = none)
            · intro x u hR hf
              clear hR hf
              go_simp
              exact ⟨rfl, Ext.refl _⟩
            simp only [Act.put, List.setIfInBounds_toArray, List.set_cons_succ, List.set_cons_zero]
            apply lex_fun (rfl : psAt _ _ = none)
            · intro x u hR hf
              have c0 := row_cell (HRO5.out.mono hR) HF.out.2
              rw [HXD.out.2] at c0
              clear hR hf
              go_simp
              exact ⟨rfl, Ext.refl _⟩
            simp only [Act.put, List.setIfInBounds_toArray, List.set_cons_succ, List.set_cons_zero]
            refine lex_fun (v := .int .i64 s) (rfl : psAt _ _ = none) ?_ ?_
            · intro z u hR hf
              clear hR hf
              go_simp
              first | exact Ext.refl _ | exact ⟨hmin, Ext.refl _⟩ | (rw [hmin]; exact ⟨rfl, Ext.refl _⟩)
            simp only [Act.put, List.setIfInBounds_toArray, List.set_cons_succ, List.set_cons_zero]
            apply lex_fun (rfl : psAt _ _ = none)
            · intro x u hR hf
              clear hR hf
              go_simp
              exact ⟨rfl, Ext.refl _⟩
            simp only [Act.put, List.setIfInBounds_toArray, List.set_cons_succ, List.set_cons_zero]

            refine lex_nil fun z W6 hE hfacts => ?_
            clear hfacts z hneg hmin
            have HX6 := hid (HXW.out.trans hE)
            have HRO6 := hid (HRO5.out.mono hE)
            have HPY6 := hid (HPY5.out.mono hE)
            have HW6 := hid (Nat.le_trans HW5.out hE.size)
            clear hE HRO5 HPY5
            have c1 := row_cell HRO6.out HF.out.1
            rw [HXD.out.1] at c1
            obtain ⟨l1, f1⟩ := row_lt HRO6.out
            have hw1 : wrap64 (x + s) = x + s := by have := HBB.out.1.1; have := HBB.out.2; unfold wrap64; omega
            gi_upto_region 19 with fail
            have hr6 := HRO6.out.put1 fn (.int .i64 (x + s))
            rw [intsF_set D (x + s) HF.out.1] at hr6
            have HR7 := hid hr6
            have HX7 := hid (HX6.out.set (HDB.out) fn (.int .i64 (x + s)))
            have hpn : ∀ q, (Value.slice na ps.length nc).ownBlock = some q → q ≠ db := fun q hq => by have h1 := HOW.out q hq; have h2 := HDL.out; omega
            have HPN := hid hpn
            have HP7 := hid (HPY6.out.kept (w' := W6.setCell ⟨db, fn, none⟩ (.int .i64 (x + s))) fun q o hq ho => by rw [set_other (hpn q hq)]; exact ho)
            have HW7 : Hid (w5.heap.size ≤ (W6.setCell ⟨db, fn, none⟩ (.int .i64 (x + s))).heap.size) := hid (by simpa using HW6.out)
            clear hr6 c1 l1 f1 hw1 hpn HX6 HRO6 HPY6 HW6
            generalize W6.setCell ⟨db, fn, none⟩ (.int .i64 (x + s)) = W7 at *
            have c1 := row_cell HR7.out HF.out.2
            rw [if_neg (Ne.symm HNF.out), HXD.out.2] at c1
            obtain ⟨l1, f1⟩ := row_lt HR7.out
            have hw1 : wrap64 (y - s) = y - s := by have := HBB.out.1.2; have := HBB.out.2; unfold wrap64; omega
            gi_upto_region 20 with fail
            have hr7 := HR7.out.put1 tn (.int .i64 (y - s))
            rw [intsF_set _ (y - s) HF.out.2] at hr7
            have hpl : intsF n (fun i => if i = tn then y - s else (fun i => if i = fn then x + s else D i) i) = intsF n (payL D ⟨fn, tn, s⟩) := intsF_congr fun i hi => by
              unfold payL
              dsimp only
              by_cases h1 : i = tn
              · rw [if_pos h1, if_pos (by omega), h1, HXD.out.2]
              · by_cases h2 : i = fn
                · rw [if_neg h1, if_pos h2, if_neg (by omega), if_pos (by omega), h2, HXD.out.1]
                · rw [if_neg h1, if_neg h2, if_neg (by omega), if_neg (by omega)]
            have HR8 := hid (hpl ▸ hr7)
            have HX8 := hid (HX7.out.set (HDB.out) tn (.int .i64 (y - s)))
            have HP8 := hid (HP7.out.kept (w' := W7.setCell ⟨db, tn, none⟩ (.int .i64 (y - s))) fun q o hq ho => by rw [set_other (HPN.out q hq)]; exact ho)
            have HW8 : Hid (w5.heap.size ≤ (W7.setCell ⟨db, tn, none⟩ (.int .i64 (y - s))).heap.size) := hid (by simpa using HW7.out)
            clear hr7 hpl c1 l1 f1 hw1 HX7 HR7 HP7 HW7
            generalize W7.setCell ⟨db, tn, none⟩ (.int .i64 (y - s)) = W8 at *
            obtain ⟨i0, hi0, hz0, hz1, hz2⟩ := info_parts info74
            have HZ := hid (And.intro hi0 (And.intro hz0 (And.intro hz1 hz2)))
            have hmax : ps.length + 1 ≤ 1000000000 := by have := HPL.out; omega
            clear hi0 hz0 hz1 hz2
            have hx8 : Ext W8 (W8.alloc (.cells #[.int .i64 fn, .int .i64 tn, .int .i64 s] 74)) := (Ext.refl _).alloc _
            have HRW := hid (HP8.out.mono hx8)
            have HR9 := hid (HR8.out.mono hx8)
            have HX9 := hid (HX8.out.trans hx8)
            have HW9 := hid (Nat.le_trans HW8.out hx8.size)
            have HNW : Hid (∀ j u, ([.int .i64 fn, .int .i64 tn, .int .i64 s] : List Value)[j]? = some u → (W8.alloc (.cells #[.int .i64 fn, .int .i64 tn, .int .i64 s] 74)).cell? ((⟨W8.heap.size, 0, none⟩ : Addr).add j) = some u) := fun j u hj => by rw [Addr.add_mid, Nat.zero_add, new_cell _ _ rfl]; simpa using hj
            clear hx8
            have HOW2 := hid HOW.out
            gi_wp2_with (refine wpIn_append_row (fun _ => trivial) rfl (.tmp 88) (.tmp 93) rfl Tryz.underlying67 HZ.out.1 HZ.out.2.1 HZ.out.2.2.1 HZ.out.2.2.2 (by simp [Value.cells]) (by omega) (v := .slice na ps.length nc) rfl HRW.out ⟨W8.heap.size, 0, none⟩ 1 rfl [.int .i64 fn, .int .i64 tn, .int .i64 s] rfl HNW.out (fun u hu => by simp at hu; rcases hu with rfl | rfl | rfl <;> rfl) hmax (by omega) ?_; intro v' w' hrow' hgr' how')
            have hbel := ext_grown HX9.out hgr' (fun q hq => by have h1 := HOW.out q hq; have h2 := HX5.out.size; omega)
            have hrow := HR9.out.kept (w' := w') (fun q o hq ho => grownBy_block hgr' ho (fun e => HPN.out q e.symm (by simp [Value.ownBlock] at hq; exact hq.symm)))
            have hown' : ∀ q, v'.ownBlock = some q → w5.heap.size ≤ q := fun q hq => by
              rcases how' with e | e
              · exact HOW.out q (by rw [← e]; exact hq)
              · rw [hq] at e; cases e; exact HW9.out
            have h1 := HSTEP.out.1.cnt
            have h2 := HPL.out
            have h3 := HC0.out
            go_roundw
            case rel => exact ⟨N + 1, by omega, by go_num, hid ⟨payL D ⟨fn, tn, s⟩, ps ++ [⟨fn, tn, s⟩], hbel, Nat.le_trans HW9.out hgr'.size, hrow, HSTEP.out.1, by rw [List.length_append, HPL.out]; rfl, by rw [pysF_snoc, List.length_append]; exact hrow', hown'⟩⟩
            case measure => simp [intOf]; omega
end
end Go.Proofs.YtjocoadhalimjaaGreat
