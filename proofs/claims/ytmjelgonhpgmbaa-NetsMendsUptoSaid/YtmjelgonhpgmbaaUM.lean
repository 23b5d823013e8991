/- The reference of torn nets: Fewest. -/
import Derived.Test.YtmjelgonhpgmbaaUH
import Derived.Test.YtmjelgonhpgmbaaUK
set_option linter.unusedSimpArgs false
set_option linter.unusedVariables false
namespace Go.Proofs.Ytmjelgonhpgmbaa
open Go Go.RowKit Go.Shelf

theorem iArr_put (f : Nat → Nat) {n k : Nat} (h : k < n) (v : Nat) : (iArr f n).setIfInBounds k (.int .i64 v) = iArr (fun j => if j = k then v else f j) n := by
  apply Array.ext
  · simp [iArr]
  · intro j h1 h2
    simp only [iArr, List.setIfInBounds_toArray, List.getElem_toArray, List.getElem_set, List.getElem_map, List.getElem_range]
    by_cases e : k = j
    · subst e; rw [if_pos rfl, if_pos rfl]
    · rw [if_neg e, if_neg fun h => e h.symm]
theorem iArr_congr {f g : Nat → Nat} {n : Nat} (h : ∀ k, k < n → f k = g k) : iArr f n = iArr g n := by
  unfold iArr
  congr 1
  exact List.map_congr_left fun k hk => by rw [h k (List.mem_range.1 hk)]
/-- Two lists that are made in any order. -/
def twoJ (w0 : World) (P : Nat) : InvJ := fun L x u => Ext w0 u ∧
  (L 1 = true → ∃ g, x 1 = .slice (some ⟨g, 0, none⟩) P P ∧ w0.heap.size ≤ g ∧ u.heap[g]? = some (.cells (iArr (fun _ => 0) P) 3 (0, 0))) ∧
  (L 3 = true → ∃ g, x 3 = .slice (some ⟨g, 0, none⟩) P P ∧ w0.heap.size ≤ g ∧ u.heap[g]? = some (.cells (iArr (fun _ => 0) P) 3 (0, 0))) ∧
  (L 1 = true → L 3 = true → x 1 ≠ x 3) ∧ (L 4 = true → L 1 = true ∧ x 4 = x 1) ∧ (L 5 = true → L 3 = true ∧ x 5 = x 3)
theorem twoJ_start (w0 : World) (P : Nat) : twoJ w0 P (fun _ => false) (fun _ => undef) { w0 with drawn := w0.drawn + 1 } := ⟨Ext.drawn _, (fun h => by cases h), (fun h => by cases h), (fun h => by cases h), (fun h => by cases h), fun h => by cases h⟩
theorem twoJ_one {w0 u : World} {P : Nat} {L : Nat → Bool} {x : Nat → Value} (h : twoJ w0 P L x u) (hL : L 1 = false) : twoJ w0 P (updL L 1) (updX x 1 (.slice (some ⟨u.heap.size, 0, none⟩) P P)) (u.alloc (.cells (iArr (fun _ => 0) P) 3)) := by
  have hx : Ext u (u.alloc (.cells (iArr (fun _ => 0) P) 3)) := (Ext.refl _).alloc _
  refine ⟨h.1.trans hx, fun _ => ⟨_, rfl, h.1.size, Ext.new (Ext.refl _)⟩, fun q => ?_, fun _ q e => ?_, fun q => ⟨rfl, ?_⟩, h.2.2.2.2.2⟩
  · obtain ⟨g, h1, h2, h3⟩ := h.2.2.1 q
    exact ⟨g, h1, h2, hx.block h3⟩
  · obtain ⟨g, h1, h2, h3⟩ := h.2.2.1 q
    have e2 : Value.slice (some ⟨u.heap.size, 0, none⟩) P P = x 3 := e
    rw [h1] at e2
    cases e2
    have := lt_of_block h3; omega
  · have := (h.2.2.2.2.1 q).1; rw [hL] at this; cases this
theorem twoJ_two {w0 u : World} {P : Nat} {L : Nat → Bool} {x : Nat → Value} (h : twoJ w0 P L x u) (hL : L 3 = false) : twoJ w0 P (updL L 3) (updX x 3 (.slice (some ⟨u.heap.size, 0, none⟩) P P)) (u.alloc (.cells (iArr (fun _ => 0) P) 3)) := by
  have hx : Ext u (u.alloc (.cells (iArr (fun _ => 0) P) 3)) := (Ext.refl _).alloc _
  refine ⟨h.1.trans hx, fun q => ?_, fun _ => ⟨_, rfl, h.1.size, Ext.new (Ext.refl _)⟩, fun q _ e => ?_, h.2.2.2.2.1, fun q => ⟨rfl, ?_⟩⟩
  · obtain ⟨g, h1, h2, h3⟩ := h.2.1 q
    exact ⟨g, h1, h2, hx.block h3⟩
  · obtain ⟨g, h1, h2, h3⟩ := h.2.1 q
    have e2 : x 1 = Value.slice (some ⟨u.heap.size, 0, none⟩) P P := e
    rw [h1] at e2
    cases e2
    have := lt_of_block h3; omega
  · have := (h.2.2.2.2.2 q).1; rw [hL] at this; cases this
structure FwW (T : TornD) (w wr : World) (sa : Option Addr) (sc P g1 g2 : Nat) (f h : Nat → Nat) : Prop where
  ext : Ext w wr
  box : wr.heap[w.heap.size]? = some (.cells #[.int .i64 T.wide, .int .i64 T.high, .slice sa T.bars.length sc, .int .i64 T.mesh, .int .i64 T.knot] 24 (0, 0))
  grp : wr.heap[g1]? = some (.cells (iArr f P) 3 (0, 0))
  met : wr.heap[g2]? = some (.cells (iArr h P) 3 (0, 0))
  ne : g1 ≠ g2 ∧ w.heap.size < g1 ∧ w.heap.size < g2
theorem FwW.mono {T : TornD} {w wr wr' : World} {sa : Option Addr} {sc P g1 g2 : Nat} {f h : Nat → Nat} (k : FwW T w wr sa sc P g1 g2 f h) (hx : Ext wr wr') : FwW T w wr' sa sc P g1 g2 f h := ⟨k.ext.trans hx, hx.block k.box, hx.block k.grp, hx.block k.met, k.ne⟩
theorem FwW.put1 {T : TornD} {w wr : World} {sa : Option Addr} {sc P g1 g2 : Nat} {f h : Nat → Nat} (k : FwW T w wr sa sc P g1 g2 f h) {i : Nat} (hi : i < P) (v : Nat) : FwW T w (wr.setCell ⟨g1, i, none⟩ (.int .i64 v)) sa sc P g1 g2 (fun j => if j = i then v else f j) h :=
  ⟨k.ext.set (by have := k.ne; omega) _ _, by rw [set_other (by have := k.ne; omega)]; exact k.box, by rw [set_same k.grp, iArr_put f hi], by rw [set_other (Ne.symm k.ne.1)]; exact k.met, k.ne⟩
theorem FwW.inc2 {T : TornD} {w wr : World} {sa : Option Addr} {sc P g1 g2 : Nat} {f h : Nat → Nat} (k : FwW T w wr sa sc P g1 g2 f h) {i : Nat} (hi : i < P) : FwW T w (wr.setCell ⟨g2, i, none⟩ (.int .i64 ((h i : Int) + 1))) sa sc P g1 g2 f (fun j => if j = i then h j + 1 else h j) :=
  ⟨k.ext.set (by have := k.ne; omega) _ _, by rw [set_other (by have := k.ne; omega)]; exact k.box, by rw [set_other k.ne.1]; exact k.grp, by rw [set_same k.met, iArr_set h hi], k.ne⟩
theorem FwW.is1 {T : TornD} {w wr : World} {sa : Option Addr} {sc P g1 g2 : Nat} {f f' h : Nat → Nat} (k : FwW T w wr sa sc P g1 g2 f h) (e : ∀ j, j < P → f j = f' j) : FwW T w wr sa sc P g1 g2 f' h := ⟨k.ext, k.box, by rw [← iArr_congr e]; exact k.grp, k.met, k.ne⟩
theorem FwW.is2 {T : TornD} {w wr : World} {sa : Option Addr} {sc P g1 g2 : Nat} {f h h' : Nat → Nat} (k : FwW T w wr sa sc P g1 g2 f h) (e : ∀ j, j < P → h j = h' j) : FwW T w wr sa sc P g1 g2 f h' := ⟨k.ext, k.box, k.grp, by rw [← iArr_congr e]; exact k.met, k.ne⟩
/-- A label is handed on: two writes, one behind the other. -/
def handJ (w w0 : World) (g : Nat) (f f1 f2 : Nat → Nat) (P : Nat) : InvJ := fun L x u => Ext w u ∧ (L 11 = true → L 9 = true) ∧ (∀ j, j ≠ g → u.heap[j]? = w0.heap[j]?) ∧ (L 9 = false → u.heap[g]? = some (.cells (iArr f P) 3 (0, 0))) ∧ (L 9 = true → L 11 = false → u.heap[g]? = some (.cells (iArr f1 P) 3 (0, 0))) ∧ (L 11 = true → u.heap[g]? = some (.cells (iArr f2 P) 3 (0, 0)))
/-- What has been counted of a group, below so many knots. -/
def oddG (bars : List Spn) (lab : Nat → Nat) (g i : Nat) : Nat := Tw.sumTo (fun k => if lab k = g then meetN bars (k : Int) % 2 else 0) i
def anyG (bars : List Spn) (lab : Nat → Nat) (g i : Nat) : Bool := (List.range i).any fun k => lab k == g && decide (0 < meetN bars (k : Int))
theorem oddG_succ (bars : List Spn) (lab : Nat → Nat) (g i : Nat) : oddG bars lab g (i + 1) = oddG bars lab g i + (if lab i = g then meetN bars (i : Int) % 2 else 0) := rfl
theorem anyG_succ (bars : List Spn) (lab : Nat → Nat) (g i : Nat) : anyG bars lab g (i + 1) = (anyG bars lab g i || (lab i == g && decide (0 < meetN bars (i : Int)))) := by
  unfold anyG; rw [List.range_succ, List.any_append]; simp
theorem oddG_le (bars : List Spn) (lab : Nat → Nat) (g : Nat) : ∀ i, oddG bars lab g i ≤ i
  | 0 => Nat.le_refl _
  | i + 1 => by rw [oddG_succ]; have := oddG_le bars lab g i; split <;> omega
def fewG (bars : List Spn) (P g : Nat) : Nat := Tw.sumTo (Tw.needs bars (Tw.labG bars P) P) g
theorem fewG_succ (bars : List Spn) (P g : Nat) : fewG bars P (g + 1) = fewG bars P g + (if anyG bars (Tw.roundsTo bars P) g P then max 1 (oddG bars (Tw.roundsTo bars P) g P / 2) else 0) := by
  show fewG bars P g + Tw.needs bars (Tw.labG bars P) P g = _
  have e1 : Tw.anyOf bars (Tw.labG bars P) P g = anyG bars (Tw.roundsTo bars P) g P := by
    unfold Tw.anyOf anyG Tw.labG; congr 1
  have e2 : Tw.oddOf bars (Tw.labG bars P) P g = oddG bars (Tw.roundsTo bars P) g P := by
    unfold Tw.oddOf Tw.grpSum oddG Tw.labG; congr 1
  unfold Tw.needs
  rw [e1, e2]
theorem fewG_le (bars : List Spn) (P : Nat) : ∀ g, fewG bars P g ≤ g * (P + 1)
  | 0 => by simp [fewG, Tw.sumTo]
  | g + 1 => by
    rw [fewG_succ]
    have h1 := fewG_le bars P g
    have h2 := oddG_le bars (Tw.roundsTo bars P) g P
    rw [Nat.add_mul, Nat.one_mul]
    split <;> omega
/-- The meets of all knots, one bar more. -/
theorem meet_two {l : List Spn} {i : Nat} {a b : Nat} (hl : (l.getD i ⟨0, 0⟩).lo = a) (hh : (l.getD i ⟨0, 0⟩).hi = b) (hne : a ≠ b) (k : Nat) : meetTo l k (i + 1) = (if k = b then (if k = a then meetTo l k i + 1 else meetTo l k i) + 1 else (if k = a then meetTo l k i + 1 else meetTo l k i)) := by
  show meetTo l k i + (if meetsB k (l.getD i ⟨0, 0⟩) then 1 else 0) = _
  unfold meetsB
  rw [hl, hh]
  by_cases e1 : k = a
  · have e2 : k ≠ b := fun h => hne (e1.symm.trans h)
    subst e1
    rw [if_neg e2, if_pos rfl, if_pos (by simp)]
  · by_cases e2 : k = b
    · subst e2
      rw [if_pos rfl, if_neg e1, if_pos (by simp)]
    · have h1 : ((a : Int) == (k : Int)) = false := by simp; omega
      have h2 : ((b : Int) == (k : Int)) = false := by simp; omega
      rw [if_neg e2, if_neg e1, h1, h2]; simp
theorem step_two {l : List Spn} {i : Nat} {a b : Nat} (hl : (l.getD i ⟨0, 0⟩).lo = a) (hh : (l.getD i ⟨0, 0⟩).hi = b) (g : Nat → Nat) (k : Nat) : Tw.roundTo l g (i + 1) k = (if k = b then min (Tw.roundTo l g i a) (Tw.roundTo l g i b) else if k = a then min (Tw.roundTo l g i a) (Tw.roundTo l g i b) else Tw.roundTo l g i k) := by
  show Tw.stepG (Tw.roundTo l g i) (l.getD i ⟨0, 0⟩) k = _
  unfold Tw.stepG
  rw [hl, hh]; simp

set_option maxRecDepth 100000 in
set_option maxHeartbeats 16000000 in
theorem fewest_any (T : TornD) (hT : tornB T = true) (tv : Value) (w : World) (ht : TnAt w tv T) : Cal 20 #[tv] w fun e w' => e = .returned (.int .i64 (Tw.fewest T.bars (Tw.labG T.bars (T.wide * T.high).toNat) (T.wide * T.high).toNat (T.wide * T.high).toNat : Nat)) ∧ Ext w w' := by
  obtain ⟨sv, rfl, sa, sc, rfl, hsl, hcs⟩ := ht
  have HCS := hid hcs
  have ok := torn_ok hT
  have hm := mul_36 ok.1 ok.2.1
  have hlen := ok.2.2.2.2.1
  have hB := (torn_told hT).2.1
  obtain ⟨P, hP⟩ : ∃ P : Nat, P = (T.wide * T.high).toNat := ⟨_, rfl⟩
  have hPi : T.wide * T.high = (P : Int) := by omega
  have hP36 : 4 ≤ P ∧ P ≤ 36 := by omega
  rw [← hP] at hB ⊢
  have HBB := hid hB
  have HBA := hid (fun (i : Nat) (hi : i < T.bars.length) => And.intro (Tw.bars_at hB i hi) (hB.ne _ (List.getElem_mem hi)))
  have hmk := fun (u : World) => make_ints u P P rfl (by omega)
  have HPI := hid hPi
  have hwh : IntKind.i64.wrap (T.wide * T.high) = P := by rw [IntKind.wrap_i64]; omega
  clear hcs hP hPi ok hm hB
  gi_enter Try.func20, Try.ntmps20
  gi_upto_region 1 with fail
  have hW : Ext w (w.alloc (.cells #[.int .i64 T.wide, .int .i64 T.high, .slice sa T.bars.length sc, .int .i64 T.mesh, .int .i64 T.knot] 24)) := ((Ext.refl _).alloc _)
  have hB0 : (w.alloc (.cells #[.int .i64 T.wide, .int .i64 T.high, .slice sa T.bars.length sc, .int .i64 T.mesh, .int .i64 T.knot] 24)).heap[w.heap.size]? = some (.cells #[.int .i64 T.wide, .int .i64 T.high, .slice sa T.bars.length sc, .int .i64 T.mesh, .int .i64 T.knot] 24 (0, 0)) := by simp only [alloc_at, World.size_alloc]; (repeat rw [if_neg (by omega)]); first | rfl | rw [if_pos (by omega)] | rw [if_pos trivial]
  generalize (w.alloc (.cells #[.int .i64 T.wide, .int .i64 T.high, .slice sa T.bars.length sc, .int .i64 T.mesh, .int .i64 T.knot] 24)) = W at *
  have HX := hid hW
  have HB0 := hid hB0
  have c0 := cell_of hB0
  clear hW hB0
  gi_upto_region 2 with fail
  clear hwh
  have hmk2 := hmk
  clear hmk
  refine jj_own 6 [1, 3, 4, 5] (twoJ W P) (by kernel_rfl) (by kernel_rfl) (twoJ_start W P) ?_
  simp only [List.take_succ_cons, List.take_zero, List.drop_succ_cons, List.drop_zero]
  apply jj_fun (by decide)
  · intro L x u hL hd hJ
    have HJ := hid hJ
    clear hJ hd hL
    go_simp
    exact ⟨rfl, HJ.out⟩
  simp only [Act.put, List.setIfInBounds_toArray, List.set_cons_succ, List.set_cons_zero]
  refine jj_inv (by decide) ?_ ?_
  · intro L x u hL hd hJ
    have HJ := hid (twoJ_one hJ hL)
    have hm := hmk2 u
    clear hJ hd hL
    go_simp
    exact HJ.out
  simp only [Act.put, List.setIfInBounds_toArray, List.set_cons_succ, List.set_cons_zero]
  apply jj_fun (by decide)
  · intro L x u hL hd hJ
    have HJ := hid hJ
    clear hJ hd hL
    go_simp
    exact ⟨rfl, HJ.out⟩
  simp only [Act.put, List.setIfInBounds_toArray, List.set_cons_succ, List.set_cons_zero]
  refine jj_inv (by decide) ?_ ?_
  · intro L x u hL hd hJ
    have HJ := hid (twoJ_two hJ hL)
    have hm := hmk2 u
    clear hJ hd hL
    go_simp
    exact HJ.out
  simp only [Act.put, List.setIfInBounds_toArray, List.set_cons_succ, List.set_cons_zero]
  refine jj_inv (by decide) ?_ ?_
  · intro L x u hL hd hJ
    have hl : L 1 = true := by first | exact hd.1 rfl | exact hd.2.1 rfl | exact hd.2.2.1 rfl
    have HJ : Hid (twoJ W P (updL L 4) (updX x 4 (x 1)) u) := ⟨hJ.1, hJ.2.1, hJ.2.2.1, hJ.2.2.2.1, fun _ => ⟨hl, rfl⟩, hJ.2.2.2.2.2⟩
    clear hJ hd hL hl
    go_simp
    exact HJ.out
  simp only [Act.put, List.setIfInBounds_toArray, List.set_cons_succ, List.set_cons_zero]
  refine jj_inv (by decide) ?_ ?_
  · intro L x u hL hd hJ
    have hl : L 3 = true := by first | exact hd.1 rfl | exact hd.2.1 rfl | exact hd.2.2.1 rfl
    have HJ : Hid (twoJ W P (updL L 5) (updX x 5 (x 3)) u) := ⟨hJ.1, hJ.2.1, hJ.2.2.1, hJ.2.2.2.1, hJ.2.2.2.2.1, fun _ => ⟨hl, rfl⟩⟩
    clear hJ hd hL hl
    go_simp
    exact HJ.out
  simp only [Act.put, List.setIfInBounds_toArray, List.set_cons_succ, List.set_cons_zero]
  refine jj_nil fun L x u hall hJ => ?_
  obtain ⟨g1, hg1, hgl1, hb1⟩ := hJ.2.1 (hall 1 (by omega))
  obtain ⟨g2, hg2, hgl2, hb2⟩ := hJ.2.2.1 (hall 3 (by omega))
  have hne : g1 ≠ g2 := fun e => hJ.2.2.2.1 (hall 1 (by omega)) (hall 3 (by omega)) (by rw [hg1, hg2, e])
  have hE := hJ.1
  have e4 := (hJ.2.2.2.2.1 (hall 4 (by omega))).2
  have e5 := (hJ.2.2.2.2.2 (hall 5 (by omega))).2
  clear hJ hall
  generalize x 1 = x1 at *
  generalize x 3 = x3 at *
  generalize x 4 = x4 at *
  generalize x 5 = x5 at *
  subst e4
  subst e5
  clear x L
  subst hg1
  subst hg2
  have hbl := lt_of_block HB0.out
  have HW0 : Hid (FwW T w u sa sc P g1 g2 (fun _ => 0) (fun _ => 0)) := ⟨HX.out.trans hE, hE.block HB0.out, hb1, hb2, hne, by omega, by omega⟩
  clear hE hb1 hb2 hgl1 hgl2 c0 hmk2 hbl
  gi_wp2_with fail
  gi_loopw [6] (fun iv wr => ∃ i : Nat, i ≤ P ∧ iv = .int .i64 i ∧ Hid (FwW T w wr sa sc P g1 g2 (fun k => if k < i then k else 0) (fun _ => 0))) (fun iv _ => P - (intOf iv).toNat)
  case atStart => exact ⟨0, Nat.zero_le _, rfl, HW0.out.is1 fun j _ => by rw [if_neg (by omega)]⟩
  case round =>
    obtain ⟨i, hi, rfl, HI⟩ := hrel
    clear HW0
    by_cases hlt : i < P
    case pos =>
      have hii : (i : Int) < P := by omega
      have f0 := free_of HI.out.grp
      have d0 := (cell_of HI.out.grp i).trans (iArr_get hlt)
      have HN := hid ((HI.out.put1 hlt i).is1 (f' := fun k => if k < i + 1 then k else 0) fun j _ => by
        by_cases e : j = i
        · rw [if_pos e, if_pos (by omega)]; exact e.symm
        · rw [if_neg e]; by_cases h : j < i
          · rw [if_pos h, if_pos (by omega)]
          · rw [if_neg h, if_neg (by omega)])
      clear HI
      gi_wp2_with fail
      clear f0 d0
      go_roundw
      case rel => exact ⟨i + 1, by omega, by go_num, HN.out⟩
      case measure => simp [intOf]; omega
    case neg =>
      obtain rfl : i = P := by omega
      have HI2 := hid (HI.out.is1 (f' := Tw.roundsTo T.bars 0) fun j hj => by rw [if_pos hj]; rfl)
      clear HI
      gi_wp2_with fail
      gi_loopw [7] (fun rv wr => ∃ r : Nat, r ≤ i ∧ rv = .int .i64 r ∧ Hid (FwW T w wr sa sc i g1 g2 (Tw.roundsTo T.bars r) (fun _ => 0))) (fun rv _ => i - (intOf rv).toNat)
      case atStart => exact ⟨0, Nat.zero_le _, rfl, HI2.out⟩
      case round =>
        obtain ⟨r, hr, rfl, HR⟩ := hrel
        clear HI2
        by_cases hrt : r < i
        case pos =>
          have hri : (r : Int) < i := by omega
          have HR2 : Hid (FwW T w wr sa sc i g1 g2 (Tw.roundTo T.bars (Tw.roundsTo T.bars r) 0) (fun _ => 0)) := HR.out
          clear HR
          gi_wp2_with fail
          gi_loopw [8] (fun jv wr => ∃ j : Nat, j ≤ T.bars.length ∧ jv = .int .i64 j ∧ Hid (FwW T w wr sa sc i g1 g2 (Tw.roundTo T.bars (Tw.roundsTo T.bars r) j) (fun _ => 0))) (fun jv _ => T.bars.length - (intOf jv).toNat)
          case atStart => exact ⟨0, Nat.zero_le _, rfl, HR2.out⟩
          case round =>
            obtain ⟨j, hj, rfl, HJ⟩ := hrel
            clear HR2
            have c0 := cell_of HJ.out.box
            by_cases hjt : j < T.bars.length
            case neg =>
              obtain rfl : j = T.bars.length := by omega
              have HN : Hid (FwW T w wr sa sc i g1 g2 (Tw.roundsTo T.bars (r + 1)) (fun _ => 0)) := HJ.out
              clear HJ
              gi_wp2_with fail
              clear c0
              go_roundw
              case rel => exact ⟨r + 1, by omega, by go_num, HN.out⟩
              case measure => simp [intOf]; omega
            case pos =>
              have hji : (j : Int) < T.bars.length := by omega
              obtain ⟨tb, to, rfl, htb, hq0, hq1⟩ := HCS.out j hjt
              have hba := (HBA.out j hjt).1
              have hnb := (HBA.out j hjt).2
              have HGD : Hid (T.bars.getD j ⟨0, 0⟩ = T.bars[j]) := getD_of hjt
              rw [HGD.out] at hba
              obtain ⟨lo, hlo⟩ : ∃ a : Nat, T.bars[j].lo = (a : Int) := ⟨T.bars[j].lo.toNat, by omega⟩
              obtain ⟨hi', hhi⟩ : ∃ a : Nat, T.bars[j].hi = (a : Int) := ⟨T.bars[j].hi.toNat, by omega⟩
              have HT2 := hid (step_two (i := j) (l := T.bars) (by rw [HGD.out]; exact hlo) (by rw [HGD.out]; exact hhi) (Tw.roundsTo T.bars r))
              rw [hlo] at hq0 hba hnb
              rw [hhi] at hq1 hba hnb
              have d0 := ((HJ.out.ext).cell (p := ⟨tb, _, none⟩) htb).trans hq0
              have d1 := ((HJ.out.ext).cell (p := ⟨tb, _, none⟩) htb).trans hq1
              have hloP : lo < i := by omega
              have hhiP : hi' < i := by omega
              have hloi : (lo : Int) < i := by omega
              have hhii : (hi' : Int) < i := by omega
              clear htb hq0 hq1 hba hnb hlo hhi HGD
              obtain ⟨f, hf⟩ : ∃ f, f = Tw.roundTo T.bars (Tw.roundsTo T.bars r) j := ⟨_, rfl⟩
              rw [← hf] at HJ HT2
              clear hf
              gi_upto_region 14 with (refine wpIn_store_fresh (fun _ => trivial) 86 (.tmp 9) (.tmp 51) rfl (W := wr) (c' := #[.int .i64 lo, .int .i64 hi']) rfl rfl rfl size86 rfl (by kernel_rfl) ?_)
              have hxb : Ext wr (wr.alloc (.cells #[.int .i64 lo, .int .i64 hi'] 86)) := (Ext.refl _).alloc _
              have hbb : (wr.alloc (.cells #[.int .i64 lo, .int .i64 hi'] 86)).heap[wr.heap.size]? = some (.cells #[.int .i64 lo, .int .i64 hi'] 86 (0, 0)) := Ext.new (Ext.refl _)
              have HBX := hid hbb
              have hgl1 := lt_of_block HJ.out.grp
              have HJ2 := hid (HJ.out.mono hxb)
              obtain ⟨g9, hg9⟩ : ∃ g, g = wr.heap.size := ⟨_, rfl⟩
              rw [← hg9] at HBX hgl1 ⊢
              clear c0 d0 d1 hxb hbb HJ hg9
              generalize wr.alloc (.cells #[.int .i64 lo, .int .i64 hi'] 86) = w3 at *
              obtain ⟨a, ha⟩ : ∃ a, a = f lo := ⟨_, rfl⟩
              obtain ⟨b, hb⟩ : ∃ b, b = f hi' := ⟨_, rfl⟩
              obtain ⟨c, hc⟩ : ∃ c, c = min a b := ⟨_, rfl⟩
              have hmn : min (a : Int) (b : Int) = (c : Int) := by omega
              have HQ := hid fun e : Later w3 => And.intro (cell_of (Ext.block e.grown HBX.out)) (And.intro ((cell_of (Ext.block e.grown HJ2.out.grp) lo).trans (iArr_get hloP)) ((cell_of (Ext.block e.grown HJ2.out.grp) hi').trans (iArr_get hhiP)))
              rw [← ha, ← hb] at HQ
              rw [← ha, ← hb, ← hc] at HT2
              have q0 := HQ.out
              clear ha hb hc
              refine quiet_wide 12 (by kernel_rfl) (by kernel_rfl) ?_
              simp only [List.take_succ_cons, List.take_zero, List.drop_succ_cons, List.drop_zero]
              repeat (any_goals (first | go_big_quiet_step (fail) | quiet_step (fail)))
              refine wpQuiet_nil ?_
              rintro w5 ⟨⟨w5q, hx5⟩, hew⟩
              obtain rfl : w5 = w5q := hew
              have hx5 : Ext w3 w5 := hx5
              have HJ5 := hid (HJ2.out.mono hx5)
              have HB5 := hid (hx5.block HBX.out)
              have hg95 := lt_of_block HB5.out
              clear q0 HQ hx5 HJ2 HBX hmn
              have hne9 : g9 ≠ g1 := by omega
              obtain ⟨f1, hf1⟩ : ∃ f1 : Nat → Nat, f1 = fun k => if k = lo then c else f k := ⟨_, rfl⟩
              obtain ⟨f2, hf2⟩ : ∃ f2 : Nat → Nat, f2 = fun k => if k = hi' then c else f1 k := ⟨_, rfl⟩
              have HF1 := hid hf1
              have HF2 := hid hf2
              clear hf1 hf2
              have hwg := HJ5.out.ne.2.1
              gi_wp2_with fail
              refine jj_own 12 [] (handJ w w5 g1 f f1 f2 i) (by kernel_rfl) (by kernel_rfl) ⟨HJ5.out.ext.drew, (fun h => by cases h), fun _ _ => rfl, fun _ => HJ5.out.grp, (fun h => by cases h), fun h => by cases h⟩ ?_
              simp only [List.take_succ_cons, List.take_zero, List.drop_succ_cons, List.drop_zero]
              apply jj_fun (by decide)
              · intro L x u hL hd hJ
                have e0 := cell_of ((hJ.2.2.1 g9 hne9).trans HB5.out)
                have HJ := hid hJ
                clear hJ hd hL
                go_simp
                exact ⟨rfl, HJ.out⟩
              simp only [Act.put, List.setIfInBounds_toArray, List.set_cons_succ, List.set_cons_zero]
              apply jj_fun (by decide)
              · intro L x u hL hd hJ
                have e0 := cell_of ((hJ.2.2.1 g9 hne9).trans HB5.out)
                have HJ := hid hJ
                clear hJ hd hL
                go_simp
                exact ⟨rfl, HJ.out⟩
              simp only [Act.put, List.setIfInBounds_toArray, List.set_cons_succ, List.set_cons_zero]
              apply jj_fun (by decide)
              · intro L x u hL hd hJ
                have e0 := cell_of ((hJ.2.2.1 g9 hne9).trans HB5.out)
                have HJ := hid hJ
                clear hJ hd hL
                go_simp
                exact ⟨rfl, HJ.out⟩
              simp only [Act.put, List.setIfInBounds_toArray, List.set_cons_succ, List.set_cons_zero]
              apply jj_fun (by decide)
              · intro L x u hL hd hJ
                have e0 := cell_of ((hJ.2.2.1 g9 hne9).trans HB5.out)
                have HJ := hid hJ
                clear hJ hd hL
                go_simp
                exact ⟨rfl, HJ.out⟩
              simp only [Act.put, List.setIfInBounds_toArray, List.set_cons_succ, List.set_cons_zero]
              apply jj_fun (by decide)
              · intro L x u hL hd hJ
                have e0 := cell_of ((hJ.2.2.1 g9 hne9).trans HB5.out)
                have HJ := hid hJ
                clear hJ hd hL
                go_simp
                exact ⟨rfl, HJ.out⟩
              simp only [Act.put, List.setIfInBounds_toArray, List.set_cons_succ, List.set_cons_zero]
              apply jj_fun (by decide)
              · intro L x u hL hd hJ
                have e0 := cell_of ((hJ.2.2.1 g9 hne9).trans HB5.out)
                have HJ := hid hJ
                clear hJ hd hL
                go_simp
                exact ⟨rfl, HJ.out⟩
              simp only [Act.put, List.setIfInBounds_toArray, List.set_cons_succ, List.set_cons_zero]
              apply jj_fun (by decide)
              · intro L x u hL hd hJ
                have e0 := cell_of ((hJ.2.2.1 g9 hne9).trans HB5.out)
                have HJ := hid hJ
                clear hJ hd hL
                go_simp
                exact ⟨rfl, HJ.out⟩
              simp only [Act.put, List.setIfInBounds_toArray, List.set_cons_succ, List.set_cons_zero]
              apply jj_fun (by decide)
              · intro L x u hL hd hJ
                have e0 := cell_of ((hJ.2.2.1 g9 hne9).trans HB5.out)
                have HJ := hid hJ
                clear hJ hd hL
                go_simp
                exact ⟨rfl, HJ.out⟩
              simp only [Act.put, List.setIfInBounds_toArray, List.set_cons_succ, List.set_cons_zero]
              apply jj_fun (by decide)
              · intro L x u hL hd hJ
                have e0 := cell_of ((hJ.2.2.1 g9 hne9).trans HB5.out)
                have HJ := hid hJ
                clear hJ hd hL
                go_simp
                exact ⟨rfl, HJ.out⟩
              simp only [Act.put, List.setIfInBounds_toArray, List.set_cons_succ, List.set_cons_zero]
              refine jj_fun (v := undef) (by decide) ?_ ?_
              · intro L x u hL hd hJ
                have hb := hJ.2.2.2.1 hL
                have cb := (cell_of hb lo).trans (iArr_get hloP)
                have fb := free_of hb
                have HJ : Hid (handJ w w5 g1 f f1 f2 i (updL L 9) x (u.setCell ⟨g1, lo, none⟩ (.int .i64 c))) := ⟨hJ.1.set (by omega) _ _, fun _ => rfl, fun j hj => by rw [set_other hj]; exact hJ.2.2.1 j hj, (fun q => by cases q), fun _ _ => by rw [set_same hb, iArr_put f hloP, HF1.out], fun q => by have := hJ.2.1 q; rw [hL] at this; cases this⟩
                clear hJ hd hL hb
                go_simp
                exact HJ.out
              simp only [Act.put, List.setIfInBounds_toArray, List.set_cons_succ, List.set_cons_zero]
              apply jj_fun (by decide)
              · intro L x u hL hd hJ
                have e0 := cell_of ((hJ.2.2.1 g9 hne9).trans HB5.out)
                have HJ := hid hJ
                clear hJ hd hL
                go_simp
                exact ⟨rfl, HJ.out⟩
              simp only [Act.put, List.setIfInBounds_toArray, List.set_cons_succ, List.set_cons_zero]
              refine jj_fun (v := undef) (by decide) ?_ ?_
              · intro L x u hL hd hJ
                have hl9 : L 9 = true := by first | exact hd.1 rfl | exact hd.2.1 rfl | exact hd.2.2.1 rfl
                have hb := hJ.2.2.2.2.1 hl9 hL
                have cb := (cell_of hb hi').trans (iArr_get hhiP)
                have fb := free_of hb
                have HJ : Hid (handJ w w5 g1 f f1 f2 i (updL L 11) x (u.setCell ⟨g1, hi', none⟩ (.int .i64 c))) := ⟨hJ.1.set (by omega) _ _, fun _ => hl9, fun j hj => by rw [set_other hj]; exact hJ.2.2.1 j hj, (fun q => by rw [show (updL L 11) 9 = L 9 from rfl, hl9] at q; cases q), (fun _ q => by cases q), fun _ => by rw [set_same hb, iArr_put f1 hhiP, HF2.out]⟩
                clear hJ hd hL hb hl9
                go_simp
                exact HJ.out
              simp only [Act.put, List.setIfInBounds_toArray, List.set_cons_succ, List.set_cons_zero]
              refine jj_nil fun L x u hall hJ => ?_
              have h11 := hJ.2.2.2.2.2 (hall 11 (by omega))
              have HN : Hid (FwW T w u (some ⟨tb, to, none⟩) sc i g1 g2 (Tw.roundTo T.bars (Tw.roundsTo T.bars r) (j + 1)) (fun _ => 0)) := by
                refine FwW.is1 (f := f2) ⟨hJ.1, by rw [hJ.2.2.1 _ (by omega)]; exact HJ5.out.box, h11, by rw [hJ.2.2.1 _ (Ne.symm HJ5.out.ne.1)]; exact HJ5.out.met, HJ5.out.ne⟩ fun k _ => ?_
                rw [HT2.out k, HF2.out, HF1.out]
              clear hJ hall h11 HJ5 HB5 HF1 HF2 HT2
              clear x L
              gi_wp2_with fail
              go_roundw
              case rel => exact ⟨j + 1, by omega, by go_num, HN.out⟩
              case measure => simp [intOf]; omega
        case neg =>
          obtain rfl : r = i := by omega
          have HR2 : Hid (FwW T w wr sa sc r g1 g2 (Tw.roundsTo T.bars r) (fun k : Nat => meetTo T.bars k 0)) := HR.out
          clear HR
          gi_wp2_with fail
          gi_loopw [11] (fun jv wr => ∃ j : Nat, j ≤ T.bars.length ∧ jv = .int .i64 j ∧ Hid (FwW T w wr sa sc r g1 g2 (Tw.roundsTo T.bars r) (fun k : Nat => meetTo T.bars k j))) (fun jv _ => T.bars.length - (intOf jv).toNat)
          case atStart => exact ⟨0, Nat.zero_le _, rfl, HR2.out⟩
          case round =>
            obtain ⟨j, hj, rfl, HJ⟩ := hrel
            clear HR2
            have c0 := cell_of HJ.out.box
            by_cases hjt : j < T.bars.length
            case pos =>
              have hji : (j : Int) < T.bars.length := by omega
              obtain ⟨tb, to, rfl, htb, hq0, hq1⟩ := HCS.out j hjt
              have hba := (HBA.out j hjt).1
              have hnb := (HBA.out j hjt).2
              have HGD : Hid (T.bars.getD j ⟨0, 0⟩ = T.bars[j]) := getD_of hjt
              rw [HGD.out] at hba
              obtain ⟨lo, hlo⟩ : ∃ a : Nat, T.bars[j].lo = (a : Int) := ⟨T.bars[j].lo.toNat, by omega⟩
              obtain ⟨hi', hhi⟩ : ∃ a : Nat, T.bars[j].hi = (a : Int) := ⟨T.bars[j].hi.toNat, by omega⟩
              have HT2 := hid (meet_two (i := j) (l := T.bars) (a := lo) (b := hi') (by rw [HGD.out]; exact hlo) (by rw [HGD.out]; exact hhi) (fun e => hnb (by rw [hlo, hhi, e])))
              rw [hlo] at hq0 hba
              rw [hhi] at hq1 hba
              have HQ0 := hid (And.intro htb (And.intro hq0 hq1))
              have d0 := ((HJ.out.ext).cell (p := ⟨tb, _, none⟩) htb).trans hq0
              have hloP : lo < r := by omega
              have hhiP : hi' < r := by omega
              have hloi : (lo : Int) < r := by omega
              have hhii : (hi' : Int) < r := by omega
              have hm1 := meetTo_le T.bars lo j
              have hm2 := meetTo_le T.bars hi' j
              clear htb hq0 hq1 hba hnb hlo hhi HGD
              obtain ⟨h, hh⟩ : ∃ h : Nat → Nat, h = fun k : Nat => meetTo T.bars k j := ⟨_, rfl⟩
              have HH := hid hh
              rw [← hh] at HJ
              have hb1 : (0 : Int) ≤ h lo ∧ (h lo : Int) ≤ 100 := by rw [hh]; simp only; omega
              have hb2 : h hi' ≤ 100 := by rw [hh]; simp only; omega
              have HB2 := hid hb2
              clear hh hm1 hm2 hb2
              have e0 := (cell_of HJ.out.met lo).trans (iArr_get hloP)
              have f0 := free_of HJ.out.met
              gi_upto_region 20 with fail
              have HJ2 := hid (HJ.out.inc2 hloP)
              clear c0 d0 e0 f0 HJ
              generalize wr.setCell ⟨g2, lo, none⟩ (.int .i64 ((h lo : Int) + 1)) = w3 at *
              obtain ⟨h2, hh2⟩ : ∃ h2 : Nat → Nat, h2 = fun j => if j = lo then h j + 1 else h j := ⟨_, rfl⟩
              rw [← hh2] at HJ2
              have hb3 : (0 : Int) ≤ h2 hi' ∧ (h2 hi' : Int) ≤ 101 := by have := HB2.out; rw [hh2]; simp only; split <;> omega
              have HH2 := hid hh2
              clear hh2 hb1 HB2
              have c0 := cell_of HJ2.out.box
              have d1 := ((HJ2.out.ext).cell (p := ⟨tb, _, none⟩) HQ0.out.1).trans HQ0.out.2.2
              have e0 := (cell_of HJ2.out.met hi').trans (iArr_get hhiP)
              have f0 := free_of HJ2.out.met
              have HN := hid ((HJ2.out.inc2 hhiP).is2 (h' := fun k : Nat => meetTo T.bars k (j + 1)) fun k _ => by rw [HH2.out]; simp only; rw [HH.out, HT2.out k])
              clear HJ2 HH HH2 HT2 HQ0
              gi_wp2_with fail
              clear c0 d1 e0 f0 hb3
              go_roundw
              case rel => exact ⟨j + 1, by omega, by go_num, HN.out⟩
              case measure => simp [intOf]; omega
            case neg =>
              obtain rfl : j = T.bars.length := by omega
              have HK : Hid (FwW T w wr sa sc r g1 g2 (Tw.roundsTo T.bars r) (fun k : Nat => meetN T.bars k)) := HJ.out
              clear HJ
              gi_wp2_with fail
              clear c0
              obtain ⟨wo, hwo⟩ : ∃ wo, wo = wr := ⟨wr, rfl⟩
              rw [← hwo] at HK ⊢
              clear hwo
              have HZ : Hid (fewG T.bars r 0 = 0) := rfl
              gi_loopw [12, 13] (fun nv gv wr => ∃ g : Nat, g ≤ r ∧ nv = .int .i64 (fewG T.bars r g) ∧ gv = .int .i64 g ∧ Hid (Ext wo wr)) (fun _ gv _ => r - (intOf gv).toNat)
              case atStart => exact ⟨0, Nat.zero_le _, rfl, rfl, Ext.refl _⟩
              case round =>
                obtain ⟨g, hg, rfl, rfl, HG⟩ := hrel
                by_cases hgt : g < r
                case neg =>
                  obtain rfl : g = r := by omega
                  gi_wp2_with fail
                  go_ret
                  exact ⟨rfl, HK.out.ext.trans HG.out⟩
                case pos =>
                  have hgi : (g : Int) < r := by omega
                  have hfl := fewG_le T.bars r g
                  have hfl2 : g * (r + 1) ≤ 36 * 37 := Nat.mul_le_mul (by omega) (by omega)
                  have hfb : (0 : Int) ≤ fewG T.bars r g ∧ (fewG T.bars r g : Int) ≤ 2000 := by omega
                  have HFS := hid (fewG_succ T.bars r g)
                  clear hfl hfl2
                  generalize fewG T.bars r g = n at *
                  obtain ⟨wk, hwk⟩ : ∃ wk, wk = wr := ⟨wr, rfl⟩
                  rw [← hwk] at HG ⊢
                  clear hwk
                  gi_wp2_with fail
                  gi_loopw [14, 15, 16] (fun ov av iv wr => ∃ i : Nat, i ≤ r ∧ ov = .int .i64 (oddG T.bars (Tw.roundsTo T.bars r) g i) ∧ av = .bool (anyG T.bars (Tw.roundsTo T.bars r) g i) ∧ iv = .int .i64 i ∧ Hid (Ext wo wr)) (fun _ _ iv _ => r - (intOf iv).toNat)
                  case atStart => exact ⟨0, Nat.zero_le _, rfl, rfl, rfl, HG.out⟩
                  case round =>
                    obtain ⟨i, hi, rfl, rfl, rfl, HI⟩ := hrel
                    have hol := oddG_le T.bars (Tw.roundsTo T.bars r) g i
                    by_cases hit : i < r
                    case pos =>
                      have hii : (i : Int) < r := by omega
                      have HOS := hid (oddG_succ T.bars (Tw.roundsTo T.bars r) g i)
                      have HAS := hid (anyG_succ T.bars (Tw.roundsTo T.bars r) g i)
                      have d0 := (cell_of (HI.out.block HK.out.grp) i).trans (iArr_get hit)
                      have d1 := (cell_of (HI.out.block HK.out.met) i).trans (iArr_get hit)
                      have hmb : meetN T.bars i ≤ 60 := by have := meetTo_le T.bars i T.bars.length; unfold meetN; omega
                      generalize oddG T.bars (Tw.roundsTo T.bars r) g i = o at *
                      generalize anyG T.bars (Tw.roundsTo T.bars r) g i = a at *
                      generalize Tw.roundsTo T.bars r i = x at *
                      generalize meetN T.bars i = y at *
                      by_cases hx : x = g
                      case pos =>
                        subst hx
                        by_cases hy : 0 < y
                        case pos =>
                          have hyi : (0 : Int) < y := by omega
                          have HO2 : Hid (oddG T.bars (Tw.roundsTo T.bars r) x (i + 1) = o + y % 2) := by show _ = _; rw [HOS.out, if_pos rfl]
                          have HA2 : Hid (anyG T.bars (Tw.roundsTo T.bars r) x (i + 1) = true) := by show _ = _; rw [HAS.out, decide_eq_true hy]; simp
                          clear HOS HAS hy
                          gi_wp2_with fail
                          clear d0 d1
                          go_roundw
                          case rel => exact ⟨i + 1, by omega, by rw [HO2.out]; go_num, by rw [HA2.out], by go_num, HI.out⟩
                          case measure => simp [intOf]; omega
                        case neg =>
                          obtain rfl : y = 0 := by omega
                          have HO2 : Hid (oddG T.bars (Tw.roundsTo T.bars r) x (i + 1) = o) := by show _ = _; rw [HOS.out, if_pos rfl]; rfl
                          have HA2 : Hid (anyG T.bars (Tw.roundsTo T.bars r) x (i + 1) = a) := by show _ = _; rw [HAS.out, decide_eq_false hy]; simp
                          clear HOS HAS hy hmb
                          gi_wp2_with fail
                          clear d0 d1
                          go_roundw
                          case rel => exact ⟨i + 1, by omega, by rw [HO2.out], by rw [HA2.out], by go_num, HI.out⟩
                          case measure => simp [intOf]; omega
                      case neg =>
                        have hxi : ((x : Int) == (g : Int)) = false := by simp; omega
                        have HO2 : Hid (oddG T.bars (Tw.roundsTo T.bars r) g (i + 1) = o) := by show _ = _; rw [HOS.out, if_neg hx]; rfl
                        have HA2 : Hid (anyG T.bars (Tw.roundsTo T.bars r) g (i + 1) = a) := by
                          show _ = _
                          have : (x == g) = false := by simpa using hx
                          rw [HAS.out, this]; simp
                        clear HOS HAS hx
                        gi_wp2_with fail
                        clear d0 d1 hxi
                        go_roundw
                        case rel => exact ⟨i + 1, by omega, by rw [HO2.out], by rw [HA2.out], by go_num, HI.out⟩
                        case measure => simp [intOf]; omega
                    case neg =>
                      obtain rfl : i = r := by omega
                      generalize oddG T.bars (Tw.roundsTo T.bars i) g i = o at *
                      cases ha : anyG T.bars (Tw.roundsTo T.bars i) g i with
                      | false =>
                        have HN : Hid (fewG T.bars i (g + 1) = n) := by show _ = _; rw [HFS.out, ha]; simp
                        clear ha HFS
                        gi_wp2_with fail
                        go_roundw
                        case rel => exact ⟨g + 1, by omega, by rw [HN.out], by go_num, HI.out⟩
                        case measure => simp [intOf]; omega
                      | true =>
                        obtain ⟨c, hc⟩ : ∃ c, c = max 1 (o / 2) := ⟨_, rfl⟩
                        have hmx : max (1 : Int) ((o : Int) / 2) = (c : Int) := by omega
                        have hcb : c ≤ 36 := by omega
                        have HN : Hid (fewG T.bars i (g + 1) = n + c) := by show _ = _; rw [HFS.out, ha, if_pos rfl, hc]
                        clear ha HFS hc
                        gi_wp2_with fail
                        clear hmx
                        go_roundw
                        case rel => exact ⟨g + 1, by omega, by rw [HN.out]; go_num, by go_num, HI.out⟩
                        case measure => simp [intOf]; omega

end Go.Proofs.Ytmjelgonhpgmbaa
