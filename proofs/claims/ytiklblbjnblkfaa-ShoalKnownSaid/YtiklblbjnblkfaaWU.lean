/- The chart. -/
import Derived.Test.YtiklblbjnblkfaaWT
set_option linter.unusedSimpArgs false
set_option linter.unusedVariables false
namespace Go.Proofs.Ytiklblbjnblkfaa
open Go Go.RowKit Go.Shelf

/-- What a chart tells: of the hour itself, up to it, from it on. -/
def ownF (D : SeaD) (rs : List Rep) (h c : Nat) : Int := cntF D rs h (opens D.land (D.wide * D.high).toNat).length c
def upF (D : SeaD) (rs : List Rep) : Nat → Nat → Int := walkF D (ownF D rs) (fun i => i) (forthS D)
def fromF (D : SeaD) (rs : List Rep) (h : Nat) : Nat → Int := walkF D (ownF D rs) (fun i => D.hours.toNat - 1 - i) (backS D D.hours.toNat) (D.hours.toNat - 1 - h)
theorem ownF_bounds (D : SeaD) {rs : List Rep} (h24 : rs.length ≤ 24) (h c : Nat) : 0 ≤ ownF D rs h c ∧ ownF D rs h c ≤ 1000 := cntF_bounds D h24 _ _ _
theorem upF_bounds (D : SeaD) {rs : List Rep} (h24 : rs.length ≤ 24) (h c : Nat) : 0 ≤ upF D rs h c ∧ upF D rs h c ≤ 1000 := walkF_bounds D (ownF_bounds D h24) _ _ _ _
theorem fromF_bounds (D : SeaD) {rs : List Rep} (h24 : rs.length ≤ 24) (h c : Nat) : 0 ≤ fromF D rs h c ∧ fromF D rs h c ≤ 1000 := walkF_bounds D (ownF_bounds D h24) _ _ _ _
theorem RowsBlk.hid {w : World} {g n : Nat} {fs : Nat → Nat → Int} (h : RowsBlk w g n fs) : Hid (RowsBlk w g n fs) := h

theorem RowsBlk.cellSet {w : World} {g n : Nat} {fs : Nat → Nat → Int} (hR : RowsBlk w g n fs) (bx o : Nat) (v : Value) (hne : g ≠ bx) : RowsBlk (w.setCell ⟨bx, o, none⟩ v) g n fs := hR.apart (b := bx) (o := o) [v] hne
set_option maxRecDepth 100000 in
set_option maxHeartbeats 2000000 in
theorem chart_any (b H : Nat) (D : SeaD) (S : SeaV) (rs : List Rep) (w : World) (hF : SeaFull w b S D rs) (hb : seaB D = true) (hH : D.hours = H) (hr : ∀ r ∈ rs, 0 ≤ r.cell ∧ r.cell ≤ 1000) (h24 : rs.length ≤ 24) :
    Cal 56 #[.pointer (some ⟨b, 0, none⟩)] w fun e w' => ∃ g1 g2 g3, e = .returned (chartVal b g1 g2 g3 H) ∧ Ext w w' ∧ Hid (RowsBlk w' g1 H (ownF D rs) ∧ RowsBlk w' g2 H (upF D rs) ∧ RowsBlk w' g3 H (fromF D rs)) := by
  gi_enter Try.func56, Try.ntmps56
  have hh := hF.ok.hours
  rw [hF.hours, hH] at hh
  have hHn : D.hours.toNat = H := by omega
  have hx1 : Ext w (w.alloc (.cells #[.pointer none, .slice none 0 0, .slice none 0 0, .slice none 0 0] 90)) := (Ext.refl w).alloc _
  have hcs := (hF.at_.mono hx1).cells
  rw [hF.hours, hH] at hcs
  have hmk := make_cnts (w.alloc (.cells #[.pointer none, .slice none 0 0, .slice none 0 0, .slice none 0 0] 90)) H H rfl (by omega)
  have hcs2 := (hF.at_.mono (hx1.alloc (.cells (madeCells Try.zeroCells124 (H * 80)) 124))).cells
  rw [hF.hours, hH] at hcs2
  have HF := hid hF
  have HH := hid hH
  have HHN := hid hHn
  have HSB := hid hb
  have HR := hid hr
  clear hF hr hb hH hHn
  gi_wp2_with fail
  have HI0 : Hid (Ext w ((w.alloc (.cells #[.pointer none, .slice none 0 0, .slice none 0 0, .slice none 0 0] 90)).alloc (.cells (madeCells Try.zeroCells124 (H * 80)) 124)) ∧ ((w.alloc (.cells #[.pointer none, .slice none 0 0, .slice none 0 0, .slice none 0 0] 90)).alloc (.cells (madeCells Try.zeroCells124 (H * 80)) 124)).heap[w.heap.size]? = some (.cells #[.pointer none, .slice none 0 0, .slice none 0 0, .slice none 0 0] 90 (0, 0)) ∧
      RowsBlk ((w.alloc (.cells #[.pointer none, .slice none 0 0, .slice none 0 0, .slice none 0 0] 90)).alloc (.cells (madeCells Try.zeroCells124 (H * 80)) 124)) (w.heap.size + 1) H (fun h => if h < 0 then ownF D rs h else fun _ => 0)) := by
    refine ⟨hx1.alloc _, two_new, ?_⟩
    have := rows_new (w.alloc (.cells #[.pointer none, .slice none 0 0, .slice none 0 0, .slice none 0 0] 90)) H
    rw [World.size_alloc] at this
    exact this
  clear hmk hcs hcs2 hx1
  generalize (w.alloc (.cells #[.pointer none, .slice none 0 0, .slice none 0 0, .slice none 0 0] 90)).alloc (.cells (madeCells Try.zeroCells124 (H * 80)) 124) = w3 at *
  gi_loopw [16] (fun i wr => ∃ k : Nat, k ≤ H ∧ i = .int .i64 k ∧ Hid (Ext w wr ∧ wr.heap[w.heap.size]? = some (.cells #[.pointer none, .slice none 0 0, .slice none 0 0, .slice none 0 0] 90 (0, 0)) ∧ RowsBlk wr (w.heap.size + 1) H (fun h => if h < k then ownF D rs h else fun _ => 0))) (fun i _ => H - (intOf i).toNat)
  case atStart => exact ⟨0, Nat.zero_le _, rfl, HI0⟩
  case round =>
    clear HI0
    obtain ⟨k, hk, rfl, hI⟩ := hrel
    by_cases hlt : k < H
    · have HWF : Hid (∀ f, Fence.wide.fn f) := fun _ => trivial
      gi_wp2_with (first | (gi_at_call 83; ((with_reducible refine (counts_any b D S rs k wr (HF.out.mono hI.out.1) (by rw [HHN.out]; exact hlt) HR.out h24).mono ?_); rintro e w4 ⟨rfl, hx4⟩; have HL4 : Hid (RowsBlk w4 (w.heap.size + 1) H (fun h => if h < k then ownF D rs h else fun _ => 0)) := hI.out.2.2.mono hx4)) | ((with_reducible refine wpList_store_row (.tmp 24) (.tmp 23) HWF.out HL4.out hlt (f := cntF D rs k (opens D.land (D.wide * D.high).toNat).length) (off := k * 80) (Eq.refl _) ?_ ?_ ?_ ?_ ?_); exact rfl; exact rfl; exact rfl; exact rfl))
      have HI2 := hid (walk_step (f := ownF D rs) (k := k) (W := w4) (hI.out.1.trans hx4) (by omega) (hx4.block hI.out.2.1) HL4.out hlt (cntF D rs k (opens D.land (D.wide * D.high).toNat).length) (fun c _ => rfl))
      go_roundw
      case rel => exact ⟨k + 1, by omega, by go_num, HI2⟩
      case measure => simp [intOf]; omega
    · obtain rfl : k = H := by omega
      have HI2 : Hid (Ext w wr ∧ wr.heap[w.heap.size]? = some (.cells #[.pointer none, .slice none 0 0, .slice none 0 0, .slice none 0 0] 90 (0, 0)) ∧ RowsBlk wr (w.heap.size + 1) k (ownF D rs)) := ⟨hI.out.1, hI.out.2.1, hI.out.2.2.congr fun i c hi hc => by rw [if_pos hi]⟩
      clear hI
      have HO : Hid (∀ h c, 0 ≤ ownF D rs h c ∧ ownF D rs h c ≤ 1000) := ownF_bounds D h24
      have hK1 : S.hours - 1 = ((k - 1 : Nat) : Int) := by rw [HF.out.hours, HH.out]; omega
      have HK1 := hid hK1
      clear hK1
      gi_wp2_with (first | (gi_at_call 85; ((with_reducible refine (forth_any b wr).mono ?_); rintro e w4 ⟨rfl, hx4, hb4⟩; have HF4 := hid (HF.out.mono (HI2.out.1.trans hx4)); have HR4 := hid (HI2.out.2.2.mono hx4))) | (gi_at_call 84; ((with_reducible refine (walkForth_any b _ _ k D S rs (ownF D rs) w4 HF4.out HSB.out HH.out HR4.out hb4 HO.out).mono ?_); rintro e w5 ⟨g5, rfl, hx5, hg5, hr5⟩; have HF5 := hid (HF4.out.mono hx5); have HR5 := hid (HR4.out.mono hx5); have HU5 := hid hr5; clear hr5)) | (gi_at_call 86; ((with_reducible refine (back_any b S HF5.out.ok w5 HF5.out.at_).mono ?_); rintro e w6 ⟨Bl, rfl, hx6, hb6, hl6, hn6⟩; have HF6 := hid (HF5.out.mono hx6); have HR6 := hid (HR5.out.mono hx6); have HU6 := hid (HU5.out.mono hx6); rw [HK1.out] at hl6)) | (gi_at_call 84; ((with_reducible refine (walkBack_any b _ Bl _ k D S rs (ownF D rs) w6 HF6.out HSB.out HH.out HR6.out hb6 hl6 HO.out).mono ?_); rintro e w7 ⟨g7, rfl, hx7, hg7, hr7⟩; have HV7 := hid (And.intro (HR6.out.mono hx7) (And.intro (HU6.out.mono hx7) hr7)); clear hr7; have HXX := hid (hx4.trans (hx5.trans (hx6.trans hx7))); have hbx := (hx4.trans (hx5.trans (hx6.trans hx7))).block HI2.out.2.1; have hcx := cell_of hbx; have hfx := free_of hbx)))
      have hn1 := lt_of_block HI2.out.2.1
      have hn4 := hx4.size
      have hn5 := hx5.size
      have hn6' := hx6.size
      have hfr : fromF D rs = fun h => walkF D (ownF D rs) (fun i => k - 1 - i) (backS D k) (k - 1 - h) := by
        funext h; unfold fromF; rw [HHN.out]
      refine bodyPost_ret (v := chartVal b (w.heap.size + 1) g5 g7 k) (by simp [results, Try.results53, go_sem, hcx, chartVal]) rfl ⟨_, _, _, rfl, ((((HI2.out.1.trans HXX.out).set (Nat.le_refl _) _ _).set (Nat.le_refl _) _ _).set (Nat.le_refl _) _ _).set (Nat.le_refl _) _ _, ?_, ?_, ?_⟩
      · exact (((HV7.out.1.cellSet _ _ _ (by omega)).cellSet _ _ _ (by omega)).cellSet _ _ _ (by omega)).cellSet _ _ _ (by omega)
      · exact (((HV7.out.2.1.cellSet _ _ _ (by omega)).cellSet _ _ _ (by omega)).cellSet _ _ _ (by omega)).cellSet _ _ _ (by omega)
      · rw [hfr]
        exact (((HV7.out.2.2.cellSet _ _ _ (by omega)).cellSet _ _ _ (by omega)).cellSet _ _ _ (by omega)).cellSet _ _ _ (by omega)
end Go.Proofs.Ytiklblbjnblkfaa
