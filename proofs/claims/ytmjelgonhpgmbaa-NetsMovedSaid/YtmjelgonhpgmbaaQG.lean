/- NetsMoved: the walk. -/
import Derived.Test.YtmjelgonhpgmbaaQF
set_option linter.unusedSimpArgs false
set_option linter.unusedVariables false
namespace Go.Proofs.Ytmjelgonhpgmbaa
open Go Go.RowKit Go.Shelf

def shotCells (n : NetD) : List Value := [.int .i64 n.east, .int .i64 n.north, .int .i64 n.long, .int .i64 n.along, .int .i64 n.shot, .int .i64 n.haul, .int .i64 n.se.lo, .int .i64 n.se.hi, .int .i64 n.sn.lo, .int .i64 n.sn.hi]
def shotFlat (l : List NetD) : List Value := l.flatMap shotCells
theorem shotFlat_snoc (l : List NetD) (n : NetD) : shotFlat (l ++ [n]) = shotFlat l ++ shotCells n := by unfold shotFlat; rw [List.flatMap_append]; simp
theorem shotFlat_get : ∀ (l : List NetD) (i : Nat) (h : i < l.length) (j : Nat), j < 10 → (shotFlat l)[i * 10 + j]? = (shotCells l[i])[j]?
  | a :: l, 0, _, j, hj => by
    unfold shotFlat
    rw [List.flatMap_cons, List.getElem?_append_left (by simp [shotCells]; omega)]
    simp
  | a :: l, i + 1, h, j, hj => by
    have := shotFlat_get l i (by simpa using h) j hj
    unfold shotFlat at this ⊢
    rw [List.flatMap_cons, List.getElem?_append_right (by simp [shotCells]; omega), List.getElem_cons_succ, ← this]
    congr 1
    simp [shotCells]
    omega
theorem shots_row {w : World} {v : Value} {l : List NetD} (h : Row w 58 10 v l.length (shotFlat l)) (hl : l.length ≤ 1000) : ShotsAt w v l := by
  obtain ⟨_, h⟩ := h
  rcases h with ⟨rfl, h0⟩ | ⟨g, cap, cur, rfl, hg, h1, h2, h3, h4⟩
  · exact ⟨none, 0, by rw [h0], ⟨by omega, by omega⟩, fun i hi => by omega⟩
  · have key : ∀ i (hi : i < l.length) j, j < 10 → w.cell? ⟨g, 0 + i * 10 + j, none⟩ = (shotCells l[i])[j]? := fun i hi j hj => by
      rw [cell_of hg, Nat.zero_add, ← shotFlat_get l i hi j hj, ← h4, List.getElem?_take, if_pos (by omega), Array.getElem?_toList]
    refine ⟨_, cap, rfl, ⟨h1, by omega⟩, fun i hi => ⟨g, 0, rfl, lt_of_block hg, ?_⟩⟩
    have k := key i hi
    exact ⟨k 0 (by omega), k 1 (by omega), k 2 (by omega), k 3 (by omega), k 4 (by omega), k 5 (by omega), k 6 (by omega), k 7 (by omega), k 8 (by omega), k 9 (by omega)⟩
theorem info58 : (Try.prog.info? 58).map (fun i => (i.zero, i.size, i.bytes)) = some (some (.agg #[.int .i64 0, .int .i64 0, .int .i64 0, .int .i64 0, .int .i64 0, .int .i64 0, .int .i64 0, .int .i64 0, .int .i64 0, .int .i64 0]), 10, 80) := by kernel_rfl
def moveTo (F : FleetD) (e n : Int) (k : Nat) : List NetD := (F.nets.take k).map (moveN e n)
theorem moveTo_succ (F : FleetD) (e n : Int) {k : Nat} (h : k < F.nets.length) : moveTo F e n (k + 1) = moveTo F e n k ++ [moveN e n F.nets[k]] := by
  unfold moveTo
  rw [List.take_succ_eq_append_getElem h, List.map_append]
  rfl
theorem moveTo_all (F : FleetD) (e n : Int) : moveTo F e n F.nets.length = (moveF F e n).nets := by unfold moveTo moveF; rw [List.take_length]
theorem moveTo_len (F : FleetD) (e n : Int) {k : Nat} (h : k ≤ F.nets.length) : (moveTo F e n k).length = k := by simp [moveTo]; omega
/-- A place of the moved fleet. -/
def inPlace (e n : Int) (m : NetD) : Bool := inB (m.east + e) (-10000) 10000 && inB (m.north + n) (-10000) 10000

theorem moved_facts {F : FleetD} {T : TruthD} (hF : fleetB F = true) (hT : truthB F T = true) {e n : Int} (hp : ∀ k (h : k < F.nets.length), inPlace e n F.nets[k] = true) :
    fleetB (moveF F e n) = true ∧ truthB (moveF F e n) T = true ∧ (∃ a b c fe, (foulsV F T = #[.int .i64 a, .int .i64 b, .int .i64 c] ∧ foulsE F T = fe) ∧ (foulsV (moveF F e n) T = #[.int .i64 a, .int .i64 b, .int .i64 c] ∧ foulsE (moveF F e n) T = fe)) ∧
    (∃ a b c fe, (canV F = #[.int .i64 a, .int .i64 b, .int .i64 c] ∧ canE F = fe) ∧ (canV (moveF F e n) = #[.int .i64 a, .int .i64 b, .int .i64 c] ∧ canE (moveF F e n) = fe)) ∧
    ∀ a0, F.nets[0]? = some a0 → ∃ p o, liesIs F T 0 a0.shot p o ∧ liesIs (moveF F e n) T 0 a0.shot (p + e) (o + n) ∧ sm 20000 p ∧ sm 20000 o := by
  have ok := fleetB_ok hF
  have hX : fleetB (moveF F e n) = true := fleetB_of (move_ok ok fun m hm => by
    obtain ⟨k, hk, rfl⟩ := List.getElem_of_mem hm
    have := hp k hk
    unfold inPlace at this
    rw [Bool.and_eq_true] at this
    exact ⟨inB_spec this.1, inB_spec this.2⟩)
  have hXT : truthB (moveF F e n) T = true := by rw [move_truth]; exact hT
  refine ⟨hX, hXT, ?_, ?_, fun a0 h0 => ?_⟩
  · obtain ⟨a, b, c, hv⟩ := foulV_three ((trips F).find? (foulLt F T))
    refine ⟨a, b, c, foulE ((trips F).find? (foulLt F T)), ⟨?_, ?_⟩, ?_, ?_⟩
    · unfold foulsV; rw [hF, hT]; exact hv
    · unfold foulsE; rw [hF, hT]; rfl
    · unfold foulsV; rw [hX, hXT, move_lie]; exact hv
    · unfold foulsE; rw [hX, hXT, move_lie]; rfl
  · obtain ⟨a, b, c, hv⟩ := foulV_three ((trips F).find? (foulCt F))
    refine ⟨a, b, c, foulE ((trips F).find? (foulCt F)), ⟨?_, ?_⟩, ?_, ?_⟩
    · unfold canV; rw [hF]; exact hv
    · unfold canE; rw [hF]; rfl
    · unfold canV; rw [hX, move_can]; exact hv
    · unfold canE; rw [hX, move_can]; rfl
  · have oa := ok.nets a0 (List.mem_of_getElem? h0)
    have w3 := oa.haul
    obtain ⟨hi, ea⟩ := List.getElem?_eq_some_iff.1 h0
    have l1 := lies_ok hF hT h0 (h := a0.shot) ⟨Int.le_refl _, w3.1⟩
    have l2 := lies_ok hX hXT (i := 0) (n := moveN e n a0) (by unfold moveF; simp only [List.getElem?_map, h0]; rfl) (h := a0.shot) ⟨Int.le_refl _, w3.1⟩
    rw [move_where_e, move_where_n] at l2
    exact ⟨_, _, l1, l2, where_e_in ok (truthB_ok hT) hi ea ⟨Int.le_refl _, w3.1⟩, where_n_in ok (truthB_ok hT) hi ea ⟨Int.le_refl _, w3.1⟩⟩
def MI (w : World) (FB : Array Value) (bx : Value → Array Value) (KB : Nat) (F : FleetD) (e n : Int) (k : Nat) (u : World) : Prop := Ext w u ∧ u.heap[w.heap.size]? = some (.cells FB 40 (0, 0)) ∧ (∀ j (h : j < F.nets.length), j < k → inPlace e n F.nets[j] = true) ∧ ∃ v, u.heap[KB]? = some (.cells (bx v) 40 (0, 0)) ∧ Row u 58 10 v k (shotFlat (moveTo F e n k)) ∧ ∀ g, v.ownBlock = some g → KB < g
set_option maxRecDepth 100000 in
set_option maxHeartbeats 16000000 in
theorem NetsMoved_any (F : FleetD) (n0 n1 : Int) (bits : List Int) (fv bv : Value) (w : World) (hf : FlAt w fv F) (hb : IntsAt w bv bits) : Cal 9 #[fv, .agg #[.int .i64 n0, .int .i64 n1], bv] w fun e w' => e = .returned (.bool true) ∧ Ext w w' := by
  obtain ⟨ev, nv, sv, rfl, he, hn, hs⟩ := hf
  have HF := hid (fun (u : World) (hu : Ext w u) => (⟨ev, nv, sv, rfl, he.mono hu, hn.mono hu, hs.mono hu⟩ : FlAt u (.agg #[ev, nv, .int .i64 F.gap, sv]) F))
  have HEN := hid (And.intro he (And.intro hn hs))
  obtain ⟨sa, sc, rfl, hsl, hsc⟩ := hs
  have HSC := hid hsc
  obtain ⟨ea, ec, rfl, _, _⟩ := he
  obtain ⟨na, nc, rfl, _, _⟩ := hn
  clear hsc
  have HBI := hid (fun (u : World) (hu : Ext w u) => hb.mono hu)
  clear hb
  gi_enter Try.func9, Try.ntmps9
  gi_upto_region 1 with fail
  have hW : Ext w ((w.alloc (.cells #[.slice ea F.east.length ec, .slice na F.north.length nc, .int .i64 F.gap, .slice sa F.nets.length sc] 40)).alloc (.cells #[.int .i64 n0, .int .i64 n1] 72)) := (((Ext.refl _).alloc _).alloc _)
  have hB0 : ((w.alloc (.cells #[.slice ea F.east.length ec, .slice na F.north.length nc, .int .i64 F.gap, .slice sa F.nets.length sc] 40)).alloc (.cells #[.int .i64 n0, .int .i64 n1] 72)).heap[w.heap.size]? = some (.cells #[.slice ea F.east.length ec, .slice na F.north.length nc, .int .i64 F.gap, .slice sa F.nets.length sc] 40 (0, 0)) := by simp only [alloc_at, World.size_alloc]; (repeat rw [if_neg (by omega)]); first | rfl | rw [if_pos (by omega)] | rw [if_pos trivial]
  have hB1 : ((w.alloc (.cells #[.slice ea F.east.length ec, .slice na F.north.length nc, .int .i64 F.gap, .slice sa F.nets.length sc] 40)).alloc (.cells #[.int .i64 n0, .int .i64 n1] 72)).heap[w.heap.size + 1]? = some (.cells #[.int .i64 n0, .int .i64 n1] 72 (0, 0)) := by simp only [alloc_at, World.size_alloc]; (repeat rw [if_neg (by omega)]); first | rfl | rw [if_pos (by omega)] | rw [if_pos trivial]
  generalize ((w.alloc (.cells #[.slice ea F.east.length ec, .slice na F.north.length nc, .int .i64 F.gap, .slice sa F.nets.length sc] 40)).alloc (.cells #[.int .i64 n0, .int .i64 n1] 72)) = W at *
  have HX := hid hW
  have HB0 := hid hB0
  have c0 := cell_of hB0
  have HB1 := hid hB1
  have c1 := cell_of hB1
  clear hW hB0 hB1
  have HSO := hid (fun (b : Bool) (hb : fleetB F = b) (u : World) (hu : Ext w u) => sound_b F b hb _ u (HF.out u hu))
  cases hF : fleetB F
  case false =>
    gi_wp2_with (first | (gi_at_call 22; ((with_reducible refine (HSO.out false hF _ HX.out).mono ?_); rintro e w2 ⟨rfl, hx2⟩)) | (gi_at_call 19; ((with_reducible refine (works_any _).mono ?_); rintro e w99 ⟨rfl, hx99⟩)))
    go_ret
    exact ⟨rfl, (HX.out.trans hx2).trans hx99⟩
  case true =>
  have ok := fleetB_ok hF
  gi_upto_region 3 with (gi_at_call 22; ((with_reducible refine (HSO.out true hF _ HX.out).mono ?_); rintro e w2 ⟨rfl, hx2⟩))
  have HX2 := hid (HX.out.trans hx2)
  have HB2 := hid (hx2.block HB0.out)
  have HN2 := hid (hx2.block HB1.out)
  have hlt2 := lt_of_block (hx2.block HB1.out)
  clear HX HB0 HB1 hx2 HSO c0 c1
  have hm0 := modI_ok n0 (m := 3000) (by omega)
  have hm1 := modI_ok n1 (m := 3000) (by omega)
  have HM0 := hid (fun u => mod_any n0 3000 u (by omega))
  have HM1 := hid (fun u => mod_any n1 3000 u (by omega))
  generalize modI n0 3000 = e0 at *
  generalize modI n1 3000 = e1 at *
  have HQ := hid fun e : Later w2 => cell_of (Ext.block e.grown HN2.out)
  have q0 := HQ.out
  refine quiet_wide 10 (by kernel_rfl) (by kernel_rfl) ?_
  simp only [List.take_succ_cons, List.take_zero, List.drop_succ_cons, List.drop_zero]
  repeat (any_goals (first | go_big_quiet_step ((first | (go_at_call 34; with_reducible exact Cal.quiet_same (HM0.out _)) | (go_at_call 34; with_reducible exact Cal.quiet_same (HM1.out _)))) | quiet_step ((first | (go_at_call 34; with_reducible exact Cal.quiet_same (HM0.out _)) | (go_at_call 34; with_reducible exact Cal.quiet_same (HM1.out _))))))
  refine wpQuiet_nil ?_
  rintro w3 ⟨⟨w3q, hx3⟩, hew⟩
  obtain rfl : w3 = w3q := hew
  have hx3 : Ext w2 w3 := hx3
  clear q0 HQ HM0 HM1 HN2
  have HX3 := hid (HX2.out.trans hx3)
  have hb3 := hx3.block HB2.out
  have HB3 := hid hb3
  have c0 := cell_of hb3
  have hws := hx3.size
  clear hx3 HX2 HB2 hb3
  obtain ⟨de, hde⟩ : ∃ d, d = e0 - 1500 := ⟨_, rfl⟩
  obtain ⟨dn, hdn⟩ : ∃ d, d = e1 - 1500 := ⟨_, rfl⟩
  rw [← hde, ← hdn]
  have hdb : (-1500 ≤ de ∧ de ≤ 1500) ∧ -1500 ≤ dn ∧ dn ≤ 1500 := by omega
  clear hde hdn hm0 hm1
  gi_upto_region 6 with fail
  have hxk : Ext w3 (w3.alloc (.cells #[.slice ea F.east.length ec, .slice na F.north.length nc, .int .i64 F.gap, .slice none 0 0] 40)) := (Ext.refl _).alloc _
  have HI0 : Hid (MI w #[.slice ea F.east.length ec, .slice na F.north.length nc, .int .i64 F.gap, .slice sa F.nets.length sc] (fun v => #[.slice ea F.east.length ec, .slice na F.north.length nc, .int .i64 F.gap, v]) w3.heap.size F de dn 0 (w3.alloc (.cells #[.slice ea F.east.length ec, .slice na F.north.length nc, .int .i64 F.gap, .slice none 0 0] 40))) := ⟨HX3.out.trans hxk, hxk.block HB3.out, fun _ _ h => absurd h (by omega), .slice none 0 0, Ext.new (Ext.refl _), Row.nil _ _ _, fun g hg => by simp [Value.ownBlock] at hg⟩
  clear hxk HX3 HB3 c0
  obtain ⟨KB, hKB⟩ : ∃ n, n = w3.heap.size := ⟨_, rfl⟩
  rw [← hKB] at HI0 hws ⊢
  clear hKB
  generalize w3.alloc (.cells #[.slice ea F.east.length ec, .slice na F.north.length nc, .int .i64 F.gap, .slice none 0 0] 40) = w4 at *
  gi_wp2_with fail
  gi_loopw [10] (fun i wr => ∃ k : Nat, k ≤ F.nets.length ∧ i = .int .i64 k ∧ Hid (MI w #[.slice ea F.east.length ec, .slice na F.north.length nc, .int .i64 F.gap, .slice sa F.nets.length sc] (fun v => #[.slice ea F.east.length ec, .slice na F.north.length nc, .int .i64 F.gap, v]) KB F de dn k wr)) (fun i _ => F.nets.length - (intOf i).toNat)
  case atStart => exact ⟨0, Nat.zero_le _, rfl, HI0⟩
  case round =>
    obtain ⟨k, hk, rfl, hI⟩ := hrel
    clear HI0
    obtain ⟨hx, hb0, hpl, v, hbk, hrow, hown⟩ := hI.out
    have HX := hid hx
    have HB := hid hb0
    have HPL := hid hpl
    have HBK := hid hbk
    have HROW := hid hrow
    have HOWN := hid hown
    have c0 := cell_of hb0
    clear hI hx hb0 hpl hbk hrow hown
    have hcn := ok.count
    by_cases hlt : k < F.nets.length
    · have hki : (k : Int) < F.nets.length := by omega
      obtain ⟨b, off, rfl, hb, d0, d1, d2, d3, d4, d5, d6, d7, d8, d9⟩ := HSC.out k hlt
      rw [← HX.out.cell (p := ⟨b, _, none⟩) hb] at d0 d1 d2 d3 d4 d5 d6 d7 d8 d9
      have om := ok.nets _ (List.getElem_mem hlt)
      have hoe := om.east
      have hon := om.north
      have HSUC := hid (moveTo_succ F de dn hlt)
      have HLEN := hid (moveTo_len F de dn hk)
      have HPL2 : Hid (inPlace de dn F.nets[k] = true → ∀ j (h : j < F.nets.length), j < k + 1 → inPlace de dn F.nets[j] = true) := fun h j hj hlt2 => by
        by_cases e : j = k
        · subst e; exact h
        · exact HPL.out j hj (by omega)
      have HIP : Hid (inPlace de dn F.nets[k] = (inB (F.nets[k].east + de) (-10000) 10000 && inB (F.nets[k].north + dn) (-10000) 10000)) := rfl
      clear om
      generalize F.nets[k] = m at *
      gi_upto_region 10 with fail
      have hx2 : Ext wr (wr.alloc (.cells #[.int .i64 m.east, .int .i64 m.north, .int .i64 m.long, .int .i64 m.along, .int .i64 m.shot, .int .i64 m.haul, .int .i64 m.se.lo, .int .i64 m.se.hi, .int .i64 m.sn.lo, .int .i64 m.sn.hi] 58)) := (Ext.refl _).alloc _
      have hb2 : (wr.alloc (.cells #[.int .i64 m.east, .int .i64 m.north, .int .i64 m.long, .int .i64 m.along, .int .i64 m.shot, .int .i64 m.haul, .int .i64 m.se.lo, .int .i64 m.se.hi, .int .i64 m.sn.lo, .int .i64 m.sn.hi] 58)).heap[wr.heap.size]? = some (.cells #[.int .i64 m.east, .int .i64 m.north, .int .i64 m.long, .int .i64 m.along, .int .i64 m.shot, .int .i64 m.haul, .int .i64 m.se.lo, .int .i64 m.se.hi, .int .i64 m.sn.lo, .int .i64 m.sn.hi] 58 (0, 0)) := Ext.new (Ext.refl _)
      clear d0 d1 d2 d3 d4 d5 d6 d7 d8 d9 c0
      have HX := hid (HX.out.trans hx2)
      have HB := hid (hx2.block HB.out)
      have hltk := lt_of_block HBK.out
      have HBK := hid (hx2.block HBK.out)
      have hrl : ∀ g, v.ownBlock = some g → g < wr.heap.size := fun g hg => HROW.out.lt hg
      have HRL := hid hrl
      have HROW := hid (HROW.out.mono hx2)
      have cn := cell_of hb2
      have HNB := hid hb2
      clear hb2 hx2 hrl
      obtain ⟨NB, hNB⟩ : ∃ n, n = wr.heap.size := ⟨_, rfl⟩
      rw [← hNB] at HNB HRL cn hltk ⊢
      clear hNB
      generalize wr.alloc (.cells #[.int .i64 m.east, .int .i64 m.north, .int .i64 m.long, .int .i64 m.along, .int .i64 m.shot, .int .i64 m.haul, .int .i64 m.se.lo, .int .i64 m.se.hi, .int .i64 m.sn.lo, .int .i64 m.sn.hi] 58) = w5 at *
      gi_upto_region 11 with (gi_at_call 37; ((with_reducible refine (at_any _ _ _).mono ?_); rintro e w6 ⟨rfl, hx6⟩; have cn := cell_of (hx6.block HNB.out); have fn := free_of (hx6.block HNB.out)))
      have hn7 := set_same (set_same (hx6.block HNB.out) 0 (.int .i64 (m.east + de))) 1 (.int .i64 (m.north + dn))
      simp only [List.setIfInBounds_toArray, List.set_cons_succ, List.set_cons_zero] at hn7
      have hsz5 := HX.out.size
      have hsz6 := (HX.out.trans hx6).size
      have hwk : w.heap.size < KB := by omega
      have tw : ∀ {j : Nat} {o : Obj}, j ≠ NB → w6.heap[j]? = some o → ((w6.setCell ⟨NB, 0, none⟩ (.int .i64 (m.east + de))).setCell ⟨NB, 1, none⟩ (.int .i64 (m.north + dn))).heap[j]? = some o := fun hj ho => by rw [set_other hj, set_other hj]; exact ho
      have HX7 := hid (((HX.out.trans hx6).set (b := NB) (by omega) 0 (.int .i64 (m.east + de))).set (b := NB) (by omega) 1 (.int .i64 (m.north + dn)))
      have HB7 := hid (tw (by omega) (hx6.block HB.out))
      have HBK7 := hid (tw (by omega) (hx6.block HBK.out))
      have hne : v.ownBlock ≠ some NB := fun e => by have := HRL.out _ e; omega
      have HROW7 := hid (((HROW.out.mono hx6).set hne 0 (.int .i64 (m.east + de))).set hne 1 (.int .i64 (m.north + dn)))
      have HNB7 := hid hn7
      clear cn fn tw hn7 hx6 HX HB HBK HROW HNB hne
      generalize (w6.setCell ⟨NB, 0, none⟩ (.int .i64 (m.east + de))).setCell ⟨NB, 1, none⟩ (.int .i64 (m.north + dn)) = w7 at *
      have cn := cell_of HNB7.out
      cases hi1 : inB (m.east + de) (-10000) 10000
      case false =>
        have HI1 := hid (fun (u : World) => in_b (m.east + de) (-10000) 10000 false u hi1)
        gi_wp2_with (first | (gi_at_call 26; ((with_reducible refine (HI1.out _).mono ?_); rintro e w9 ⟨rfl, rfl⟩)) | (gi_at_call 19; ((with_reducible refine (works_any _).mono ?_); rintro e w99 ⟨rfl, hx99⟩)))
        go_ret
        exact ⟨rfl, HX7.out.trans hx99⟩
      case true =>
      have HI1 := hid (fun (u : World) => in_b (m.east + de) (-10000) 10000 true u hi1)
      cases hi2 : inB (m.north + dn) (-10000) 10000
      case false =>
        have HI2 := hid (fun (u : World) => in_b (m.north + dn) (-10000) 10000 false u hi2)
        gi_wp2_with (first | (gi_at_call 26; ((with_reducible refine (HI1.out _).mono ?_); rintro e w9 ⟨rfl, rfl⟩)) | (gi_at_call 26; ((with_reducible refine (HI2.out _).mono ?_); rintro e w9 ⟨rfl, rfl⟩)) | (gi_at_call 19; ((with_reducible refine (works_any _).mono ?_); rintro e w99 ⟨rfl, hx99⟩)))
        go_ret
        exact ⟨rfl, HX7.out.trans hx99⟩
      case true =>
      have HI2 := hid (fun (u : World) => in_b (m.north + dn) (-10000) 10000 true u hi2)
      have HIN : Hid (inPlace de dn m = true) := by show _ = _; rw [HIP.out, hi1, hi2]; rfl
      have hck := cell_of HBK7.out
      gi_upto_region 13 with (first | (gi_at_call 26; ((with_reducible refine (HI1.out _).mono ?_); rintro e w9 ⟨rfl, rfl⟩)) | (gi_at_call 26; ((with_reducible refine (HI2.out _).mono ?_); rintro e w9 ⟨rfl, rfl⟩)))
      obtain ⟨i0, hi0, hz0, hz1, hz2⟩ := info_parts info58
      have HZ := hid (And.intro hi0 (And.intro hz0 (And.intro hz1 hz2)))
      clear hi0 hz0 hz1 hz2 HI1 HI2 hi1 hi2
      have HRW := hid (HROW7.out.mono ((Ext.refl w7).alloc (.cells #[.int .i64 (m.east + de), .int .i64 (m.north + dn), .int .i64 m.long, .int .i64 m.along, .int .i64 m.shot, .int .i64 m.haul, .int .i64 m.se.lo, .int .i64 m.se.hi, .int .i64 m.sn.lo, .int .i64 m.sn.hi] 58)))
      have HBG2 := hid (((Ext.refl w7).alloc (.cells #[.int .i64 (m.east + de), .int .i64 (m.north + dn), .int .i64 m.long, .int .i64 m.along, .int .i64 m.shot, .int .i64 m.haul, .int .i64 m.se.lo, .int .i64 m.se.hi, .int .i64 m.sn.lo, .int .i64 m.sn.hi] 58)).block HBK7.out)
      have HNW : Hid (∀ j u, (shotCells (moveN de dn m))[j]? = some u → (w7.alloc (.cells #[.int .i64 (m.east + de), .int .i64 (m.north + dn), .int .i64 m.long, .int .i64 m.along, .int .i64 m.shot, .int .i64 m.haul, .int .i64 m.se.lo, .int .i64 m.se.hi, .int .i64 m.sn.lo, .int .i64 m.sn.hi] 58)).cell? ((⟨w7.heap.size, 0, none⟩ : Addr).add j) = some u) := fun j u hj => by rw [Addr.add_mid, Nat.zero_add, new_cell _ _ rfl]; simpa [shotCells, moveN] using hj
      have hmax : k + 1 ≤ 1000000000 := by omega
      gi_wp2_with (refine wpIn_append_row (fun _ => trivial) rfl (.tmp 75) (.tmp 77) rfl Try.underlying38 HZ.out.1 HZ.out.2.1 HZ.out.2.2.1 HZ.out.2.2.2 (by simp [Value.cells]) (by omega) (v := v) rfl HRW.out ⟨w7.heap.size, 0, none⟩ 1 rfl (shotCells (moveN de dn m)) rfl HNW.out (fun u hu => by simp [shotCells] at hu; rcases hu with rfl | rfl | rfl | rfl | rfl | rfl | rfl | rfl | rfl | rfl <;> rfl) hmax (by omega) ?_; intro v' w' hrow' hgr' how'; obtain ⟨sa', sn', sc', rfl⟩ := hrow'.isSlice; have hbv' := grownBy_block hgr' HBG2.out (fun e => by have := HOWN.out _ e.symm; omega); have hcv' := cell_of hbv'; have hfv' := free_of hbv')
      have hb0' := grownBy_block hgr' (((Ext.refl w7).alloc (.cells #[.int .i64 (m.east + de), .int .i64 (m.north + dn), .int .i64 m.long, .int .i64 m.along, .int .i64 m.shot, .int .i64 m.haul, .int .i64 m.se.lo, .int .i64 m.se.hi, .int .i64 m.sn.lo, .int .i64 m.sn.hi] 58)).block HB7.out) (fun e => by have := HOWN.out _ e.symm; omega)
      have hsz7 := HX7.out.size
      have hbel : Ext w w' := Below.trans (HX7.out.alloc _) ⟨hgr'.os, hgr'.tape, hgr'.output, hgr'.size, fun j hj => hgr'.block j (by simp; omega) (fun e => by have := HOWN.out j e.symm; omega)⟩
      have hl7 := lt_of_block HBK7.out
      have hown' : ∀ g, (Value.slice sa' sn' sc').ownBlock = some g → KB < g := fun g hg => by
        rcases how' with e | e
        · exact HOWN.out g (by rw [← e]; exact hg)
        · rw [hg] at e; cases e; simp; omega
      go_roundw
      case rel =>
        refine ⟨k + 1, by omega, by go_num, hbel.set (by omega) _ _, by rw [set_other (by omega)]; exact hb0', HPL2.out HIN.out, _, set_same hbv' 3 _, ?_, hown'⟩
        rw [HSUC.out, shotFlat_snoc]
        exact hrow'.set (fun e => by have := hown' _ e; omega) _ _
      case measure => simp [intOf]; omega
    · obtain rfl : k = F.nets.length := by omega
      obtain ⟨ma, mc, rfl⟩ := HROW.out.isSliceN
      have hT := chosenT_ok ok bits
      obtain ⟨hX, hXT, ⟨fa, fb, fc, fe, q1, q2⟩, ⟨ga, gb, gc, ge, q3, q4⟩, hlie⟩ := moved_facts hF hT (e := de) (n := dn) (fun j h => HPL.out j h h)
      have h00 : 0 < F.nets.length := by omega
      obtain ⟨p, o, l1, l2, hpb, hob⟩ := hlie F.nets[0] (List.getElem?_eq_getElem h00)
      unfold sm at hpb hob
      obtain ⟨nb, off, rfl, hnb, dd⟩ := HSC.out 0 h00
      simp only [Nat.zero_mul, Nat.add_zero] at dd
      have HND := hid (And.intro hnb dd.2.2.2.2.1)
      have hzl : (0 : Int) < F.nets.length := by omega
      have HFX := hid (fun (u : World) (hu : Ext wr u) => (⟨_, _, _, rfl, HEN.out.1.mono (HX.out.trans hu), HEN.out.2.1.mono (HX.out.trans hu), shots_row (l := (moveF F de dn).nets) (by rw [← moveTo_all, moveTo_len F de dn (Nat.le_refl _)]; exact HROW.out.mono hu) (by unfold moveF; simp only [List.length_map]; omega)⟩ : FlAt u (.agg #[.slice ea F.east.length ec, .slice na F.north.length nc, .int .i64 F.gap, .slice ma F.nets.length mc]) (moveF F de dn)))
      have HFO1 := hid (fun (tv : Value) (u : World) (hu : Ext w u) (ht : TrAt u tv (chosenT F bits)) => Fouls_c F (chosenT F bits) _ tv u (HF.out u hu) ht)
      have HFO2 := hid (fun (tv : Value) (u : World) (hu : Ext wr u) (ht : TrAt u tv (chosenT F bits)) => Fouls_c (moveF F de dn) (chosenT F bits) _ tv u (HFX.out u hu) ht)
      have HCA1 := hid (fun (u : World) (hu : Ext w u) => Can_c F _ u (HF.out u hu))
      have HCA2 := hid (fun (u : World) (hu : Ext wr u) => Can_c (moveF F de dn) _ u (HFX.out u hu))
      have HLI1 := hid (fun (tv : Value) (u : World) (hu : Ext w u) (ht : TrAt u tv (chosenT F bits)) => Lies_c F (chosenT F bits) _ tv 0 F.nets[0].shot u (HF.out u hu) ht)
      have HLI2 := hid (fun (tv : Value) (u : World) (hu : Ext wr u) (ht : TrAt u tv (chosenT F bits)) => Lies_c (moveF F de dn) (chosenT F bits) _ tv 0 F.nets[0].shot u (HFX.out u hu) ht)
      rw [q1.1, q1.2] at HFO1
      rw [q2.1, q2.2] at HFO2
      rw [q3.1, q3.2] at HCA1
      rw [q4.1, q4.2] at HCA2
      have l1 : liesE F (chosenT F bits) 0 F.nets[0].shot = 0 ∧ liesVe F (chosenT F bits) 0 F.nets[0].shot = p ∧ liesVn F (chosenT F bits) 0 F.nets[0].shot = o := l1
      have l2 : liesE (moveF F de dn) (chosenT F bits) 0 F.nets[0].shot = 0 ∧ liesVe (moveF F de dn) (chosenT F bits) 0 F.nets[0].shot = p + de ∧ liesVn (moveF F de dn) (chosenT F bits) 0 F.nets[0].shot = o + dn := l2
      rw [l1.1, l1.2.1, l1.2.2] at HLI1
      rw [l2.1, l2.2.1, l2.2.2] at HLI2
      have HCF := hid (fun (u : World) (hu : Ext w u) => chosen_four F hF bits _ bv u (HF.out u hu) (HBI.out u hu))
      generalize F.nets[0].shot = s0 at *
      have HB0 := HB
      have HBK0 : Hid (wr.heap[KB]? = some (.cells #[.slice ea F.east.length ec, .slice na F.north.length nc, .int .i64 F.gap, .slice ma F.nets.length mc] 40 (0, 0))) := HBK
      clear q1 q2 q3 q4 l1 l2 dd hnb hX hXT hlie HROW HOWN HPL HB HBK hT ok hcn HSC
      have HR0 : Hid (Ext wr wr) := Ext.refl _
      clear c0
      have c0 := cell_of HB0.out
      have ck := cell_of HBK0.out
      gi_upto_region 15 with (gi_at_call 25; ((with_reducible refine (HCF.out _ HX.out).mono ?_); rintro e w6 ⟨v1, v2, v3, v4, rfl, hx7, hfo⟩; obtain ⟨x1, y1, rfl⟩ := hfo.row1.isSliceN; obtain ⟨x2, y2, rfl⟩ := hfo.row2.isSliceN; obtain ⟨x3, y3, rfl⟩ := hfo.row3.isSliceN; obtain ⟨x4, y4, rfl⟩ := hfo.row4.isSliceN))
      have hxa : Ext _ (w6.alloc (.cells #[.slice x1 (chosenT F bits).east.length y1, .slice x2 (chosenT F bits).north.length y2, .slice x3 (chosenT F bits).se.length y3, .slice x4 (chosenT F bits).sn.length y4] 50)) := hx7.alloc _
      have R1 := hid (HR0.out.trans hxa)
      have HTR := hid ((four_of hF hfo).mono ((Ext.refl w6).alloc (.cells #[.slice x1 (chosenT F bits).east.length y1, .slice x2 (chosenT F bits).north.length y2, .slice x3 (chosenT F bits).se.length y3, .slice x4 (chosenT F bits).sn.length y4] 50)))
      clear hfo
      have J1_0 := hid (hxa.block HB0.out)
      have J1_1 := hid (hxa.block HBK0.out)
      have J1_2 : Hid ((w6.alloc (.cells #[.slice x1 (chosenT F bits).east.length y1, .slice x2 (chosenT F bits).north.length y2, .slice x3 (chosenT F bits).se.length y3, .slice x4 (chosenT F bits).sn.length y4] 50)).heap[w6.heap.size]? = some (.cells #[.slice x1 (chosenT F bits).east.length y1, .slice x2 (chosenT F bits).north.length y2, .slice x3 (chosenT F bits).se.length y3, .slice x4 (chosenT F bits).sn.length y4] 50 (0, 0))) := Ext.new (Ext.refl _)
      clear hx7 hxa c0 ck  HR0 HB0 HBK0
      obtain ⟨S1, hS⟩ : ∃ n, n = w6.heap.size := ⟨_, rfl⟩
      rw [← hS] at J1_2 ⊢
      clear hS
      generalize w6.alloc (.cells #[.slice x1 (chosenT F bits).east.length y1, .slice x2 (chosenT F bits).north.length y2, .slice x3 (chosenT F bits).se.length y3, .slice x4 (chosenT F bits).sn.length y4] 50) = w6n at *
      have c0 := cell_of J1_0.out
      have ck := cell_of J1_1.out
      have ct := cell_of J1_2.out
      gi_upto_region 16 with (gi_at_call 24; ((with_reducible refine (HFO1.out _ _ (HX.out.trans R1.out) HTR.out).mono ?_); rintro e w7 ⟨rfl, hx7⟩))
      have hxa : Ext _ (w7.alloc (.cells #[.int .i64 fa, .int .i64 fb, .int .i64 fc] 43)) := hx7.alloc _
      have R2 := hid (R1.out.trans hxa)
      have HTR1 := hid (HTR.out.mono hxa)
      clear HTR
      have HTR := HTR1
      clear HTR1
      have J2_0 := hid (hxa.block J1_0.out)
      have J2_1 := hid (hxa.block J1_1.out)
      have J2_2 := hid (hxa.block J1_2.out)
      have J2_3 : Hid ((w7.alloc (.cells #[.int .i64 fa, .int .i64 fb, .int .i64 fc] 43)).heap[w7.heap.size]? = some (.cells #[.int .i64 fa, .int .i64 fb, .int .i64 fc] 43 (0, 0))) := Ext.new (Ext.refl _)
      clear hx7 hxa c0 ck ct R1 J1_0 J1_1 J1_2
      obtain ⟨S2, hS⟩ : ∃ n, n = w7.heap.size := ⟨_, rfl⟩
      rw [← hS] at J2_3 ⊢
      clear hS
      generalize w7.alloc (.cells #[.int .i64 fa, .int .i64 fb, .int .i64 fc] 43) = w7n at *
      have c0 := cell_of J2_0.out
      have ck := cell_of J2_1.out
      have ct := cell_of J2_2.out
      gi_upto_region 17 with (gi_at_call 24; ((with_reducible refine (HFO2.out _ _ R2.out HTR.out).mono ?_); rintro e w8 ⟨rfl, hx7⟩))
      have hxa : Ext _ (w8.alloc (.cells #[.int .i64 fa, .int .i64 fb, .int .i64 fc] 43)) := hx7.alloc _
      have R3 := hid (R2.out.trans hxa)
      have HTR1 := hid (HTR.out.mono hxa)
      clear HTR
      have HTR := HTR1
      clear HTR1
      have J3_0 := hid (hxa.block J2_0.out)
      have J3_1 := hid (hxa.block J2_1.out)
      have J3_2 := hid (hxa.block J2_2.out)
      have J3_3 := hid (hxa.block J2_3.out)
      have J3_4 : Hid ((w8.alloc (.cells #[.int .i64 fa, .int .i64 fb, .int .i64 fc] 43)).heap[w8.heap.size]? = some (.cells #[.int .i64 fa, .int .i64 fb, .int .i64 fc] 43 (0, 0))) := Ext.new (Ext.refl _)
      clear hx7 hxa c0 ck ct R2 J2_0 J2_1 J2_2 J2_3
      obtain ⟨S3, hS⟩ : ∃ n, n = w8.heap.size := ⟨_, rfl⟩
      rw [← hS] at J3_4 ⊢
      clear hS
      generalize w8.alloc (.cells #[.int .i64 fa, .int .i64 fb, .int .i64 fc] 43) = w8n at *
      have c0 := cell_of J3_0.out
      have ck := cell_of J3_1.out
      have ct := cell_of J3_2.out
      gi_upto_region 18 with (gi_at_call 21; ((with_reducible refine (HCA1.out _ (HX.out.trans R3.out)).mono ?_); rintro e w9 ⟨rfl, hx7⟩))
      have hxa : Ext _ (w9.alloc (.cells #[.int .i64 ga, .int .i64 gb, .int .i64 gc] 43)) := hx7.alloc _
      have R4 := hid (R3.out.trans hxa)
      have HTR1 := hid (HTR.out.mono hxa)
      clear HTR
      have HTR := HTR1
      clear HTR1
      have J4_0 := hid (hxa.block J3_0.out)
      have J4_1 := hid (hxa.block J3_1.out)
      have J4_2 := hid (hxa.block J3_2.out)
      have J4_3 := hid (hxa.block J3_3.out)
      have J4_4 := hid (hxa.block J3_4.out)
      have J4_5 : Hid ((w9.alloc (.cells #[.int .i64 ga, .int .i64 gb, .int .i64 gc] 43)).heap[w9.heap.size]? = some (.cells #[.int .i64 ga, .int .i64 gb, .int .i64 gc] 43 (0, 0))) := Ext.new (Ext.refl _)
      clear hx7 hxa c0 ck ct R3 J3_0 J3_1 J3_2 J3_3 J3_4
      obtain ⟨S4, hS⟩ : ∃ n, n = w9.heap.size := ⟨_, rfl⟩
      rw [← hS] at J4_5 ⊢
      clear hS
      generalize w9.alloc (.cells #[.int .i64 ga, .int .i64 gb, .int .i64 gc] 43) = w9n at *
      have c0 := cell_of J4_0.out
      have ck := cell_of J4_1.out
      have ct := cell_of J4_2.out
      gi_upto_region 19 with (gi_at_call 21; ((with_reducible refine (HCA2.out _ R4.out).mono ?_); rintro e w10 ⟨rfl, hx7⟩))
      have hxa : Ext _ (w10.alloc (.cells #[.int .i64 ga, .int .i64 gb, .int .i64 gc] 43)) := hx7.alloc _
      have R5 := hid (R4.out.trans hxa)
      have HTR1 := hid (HTR.out.mono hxa)
      clear HTR
      have HTR := HTR1
      clear HTR1
      have J5_0 := hid (hxa.block J4_0.out)
      have J5_1 := hid (hxa.block J4_1.out)
      have J5_2 := hid (hxa.block J4_2.out)
      have J5_3 := hid (hxa.block J4_3.out)
      have J5_4 := hid (hxa.block J4_4.out)
      have J5_5 := hid (hxa.block J4_5.out)
      have J5_6 : Hid ((w10.alloc (.cells #[.int .i64 ga, .int .i64 gb, .int .i64 gc] 43)).heap[w10.heap.size]? = some (.cells #[.int .i64 ga, .int .i64 gb, .int .i64 gc] 43 (0, 0))) := Ext.new (Ext.refl _)
      clear hx7 hxa c0 ck ct R4 J4_0 J4_1 J4_2 J4_3 J4_4 J4_5
      obtain ⟨S5, hS⟩ : ∃ n, n = w10.heap.size := ⟨_, rfl⟩
      rw [← hS] at J5_6 ⊢
      clear hS
      generalize w10.alloc (.cells #[.int .i64 ga, .int .i64 gb, .int .i64 gc] 43) = w10n at *
      have m3 := cell_of J5_3.out
      have m4 := cell_of J5_4.out
      have m5 := cell_of J5_5.out
      have m6 := cell_of J5_6.out
      gi_upto_region 21 with fail
      clear m3 m4 m5 m6
      have HV := hid (fun (u : World) (hu : Ext w10n u) => And.intro (hu.block J5_0.out) (And.intro (hu.block J5_1.out) (And.intro (hu.block J5_2.out) (And.intro (R5.out.trans hu) (HTR.out.mono hu)))))
      refine jj_own 14 [11] (boxJ w10n 54 #[.int .i64 0, .int .i64 0] #[.int .i64 (p), .int .i64 (o)]) (by kernel_rfl) (by kernel_rfl) (boxJ_start _ _ _ _) ?_
      simp only [List.take_succ_cons, List.take_zero, List.drop_succ_cons, List.drop_zero]
      apply jj_fun (by decide)
      · intro L x u hL hd hJ
        have c1 := cell_of (HV.out u (hJ.1)).1
        have HJ := hid hJ
        clear hJ hd hL
        go_simp
        exact ⟨rfl, HJ.out⟩
      simp only [Act.put, List.setIfInBounds_toArray, List.set_cons_succ, List.set_cons_zero]
      apply jj_fun (by decide)
      · intro L x u hL hd hJ
        have c1 := cell_of (HV.out u (hJ.1)).2.2.1
        have HJ := hid hJ
        clear hJ hd hL
        go_simp
        exact ⟨rfl, HJ.out⟩
      simp only [Act.put, List.setIfInBounds_toArray, List.set_cons_succ, List.set_cons_zero]
      apply jj_fun (by decide)
      · intro L x u hL hd hJ
        have HJ := hid hJ
        clear hJ hd hL
        go_simp
        exact ⟨rfl, HJ.out⟩
      simp only [Act.put, List.setIfInBounds_toArray, List.set_cons_succ, List.set_cons_zero]
      apply jj_fun (by decide)
      · intro L x u hL hd hJ
        have c1 := cell_of (HV.out u (hJ.1)).1
        have HJ := hid hJ
        clear hJ hd hL
        go_simp
        exact ⟨rfl, HJ.out⟩
      simp only [Act.put, List.setIfInBounds_toArray, List.set_cons_succ, List.set_cons_zero]
      apply jj_fun (by decide)
      · intro L x u hL hd hJ
        have HJ := hid hJ
        clear hJ hd hL
        go_simp
        exact ⟨rfl, HJ.out⟩
      simp only [Act.put, List.setIfInBounds_toArray, List.set_cons_succ, List.set_cons_zero]
      apply jj_fun (by decide)
      · intro L x u hL hd hJ
        have HJ := hid hJ
        clear hJ hd hL
        go_simp
        exact ⟨rfl, HJ.out⟩
      simp only [Act.put, List.setIfInBounds_toArray, List.set_cons_succ, List.set_cons_zero]
      apply jj_fun (by decide)
      · intro L x u hL hd hJ
        have c1 := ((HX.out.trans (HV.out u (hJ.1)).2.2.2.1).cell (p := ⟨nb, _, none⟩) HND.out.1).trans HND.out.2
        have HJ := hid hJ
        clear hJ hd hL
        go_simp
        exact ⟨rfl, HJ.out⟩
      simp only [Act.put, List.setIfInBounds_toArray, List.set_cons_succ, List.set_cons_zero]
      refine jj_fun (v := .tuple #[.agg #[.int .i64 (p), .int .i64 (o)], .int .i64 0]) (by decide) ?_ ?_
      · intro L x u hL hd hJ
        have hcal := hid (HLI1.out _ u (HX.out.trans (HV.out u (hJ.1)).2.2.2.1) (HV.out u (hJ.1)).2.2.2.2)
        have HJ := hid hJ
        clear hJ hd hL
        go_simp
        exact hcal.out.mono fun e w'' ⟨he, hx'⟩ => ⟨_, he, rfl, boxJ_ext HJ.out hx'⟩
      simp only [Act.put, List.setIfInBounds_toArray, List.set_cons_succ, List.set_cons_zero]
      apply jj_fun (by decide)
      · intro L x u hL hd hJ
        have HJ := hid hJ
        clear hJ hd hL
        go_simp
        exact ⟨rfl, HJ.out⟩
      simp only [Act.put, List.setIfInBounds_toArray, List.set_cons_succ, List.set_cons_zero]
      apply jj_fun (by decide)
      · intro L x u hL hd hJ
        have HJ := hid hJ
        clear hJ hd hL
        go_simp
        exact ⟨rfl, HJ.out⟩
      simp only [Act.put, List.setIfInBounds_toArray, List.set_cons_succ, List.set_cons_zero]
      apply jj_fun (by decide)
      · intro L x u hL hd hJ
        have HJ := hid hJ
        clear hJ hd hL
        go_simp
        exact ⟨rfl, HJ.out⟩
      simp only [Act.put, List.setIfInBounds_toArray, List.set_cons_succ, List.set_cons_zero]
      refine jj_inv (by decide) ?_ ?_
      · intro L x u hL hd hJ
        have HJ := hid (boxJ_make hJ hL)
        clear hJ hd hL
        go_simp
        exact HJ.out
      simp only [Act.put, List.setIfInBounds_toArray, List.set_cons_succ, List.set_cons_zero]
      refine jj_fun (v := undef) (by decide) ?_ ?_
      · intro L x u hL hd hJ
        have hl : L 11 = true := hd.1 rfl
        obtain ⟨g, hx8, hg, h3, _⟩ := hJ.2.1 hl
        have hb := h3 hL
        have hk := set_same (set_same hb 0 (.int .i64 (p))) 1 (.int .i64 (o))
        simp only [List.setIfInBounds_toArray, List.set_cons_succ, List.set_cons_zero] at hk
        have HJ : Hid (boxJ w10n 54 #[.int .i64 0, .int .i64 0] #[.int .i64 (p), .int .i64 (o)] (updL L 12) x ((u.setCell ⟨g, 0, none⟩ (.int .i64 (p))).setCell ⟨g, 1, none⟩ (.int .i64 (o)))) := ⟨(hJ.1.set hg 0 _).set hg 1 _, fun _ => ⟨g, hx8, hg, (fun q => by cases q), fun _ => hk⟩, fun _ => hl⟩
        have cb := cell_of hb
        have fb := free_of hb
        rw [hx8]
        clear hJ hd hL hb h3 hl hx8 hk
        go_simp
        exact HJ.out
      simp only [Act.put, List.setIfInBounds_toArray, List.set_cons_succ, List.set_cons_zero]
      apply jj_fun (by decide)
      · intro L x u hL hd hJ
        have HJ := hid hJ
        clear hJ hd hL
        go_simp
        exact ⟨rfl, HJ.out⟩
      simp only [Act.put, List.setIfInBounds_toArray, List.set_cons_succ, List.set_cons_zero]
      refine jj_nil fun L x uA hall hJ => ?_
      obtain ⟨gA, hg1, hgl1, _, hgb1⟩ := hJ.2.1 (hall 11 (by omega))
      have hgb1 := hgb1 (hall 12 (by omega))
      have hEA := hJ.1
      clear hJ hall
      generalize x 11 = x11A at *
      clear x
      subst hg1
      have HGBA := hid hgb1
      clear hgb1 hgl1
      gi_wp2_with fail
      refine jj_own 14 [11] (boxJ uA 54 #[.int .i64 0, .int .i64 0] #[.int .i64 (p + de), .int .i64 (o + dn)]) (by kernel_rfl) (by kernel_rfl) (boxJ_start _ _ _ _) ?_
      simp only [List.take_succ_cons, List.take_zero, List.drop_succ_cons, List.drop_zero]
      apply jj_fun (by decide)
      · intro L x u hL hd hJ
        have c1 := cell_of (HV.out u (hEA.trans hJ.1)).2.1
        have HJ := hid hJ
        clear hJ hd hL
        go_simp
        exact ⟨rfl, HJ.out⟩
      simp only [Act.put, List.setIfInBounds_toArray, List.set_cons_succ, List.set_cons_zero]
      apply jj_fun (by decide)
      · intro L x u hL hd hJ
        have c1 := cell_of (HV.out u (hEA.trans hJ.1)).2.2.1
        have HJ := hid hJ
        clear hJ hd hL
        go_simp
        exact ⟨rfl, HJ.out⟩
      simp only [Act.put, List.setIfInBounds_toArray, List.set_cons_succ, List.set_cons_zero]
      apply jj_fun (by decide)
      · intro L x u hL hd hJ
        have HJ := hid hJ
        clear hJ hd hL
        go_simp
        exact ⟨rfl, HJ.out⟩
      simp only [Act.put, List.setIfInBounds_toArray, List.set_cons_succ, List.set_cons_zero]
      apply jj_fun (by decide)
      · intro L x u hL hd hJ
        have c1 := cell_of (HV.out u (hEA.trans hJ.1)).1
        have HJ := hid hJ
        clear hJ hd hL
        go_simp
        exact ⟨rfl, HJ.out⟩
      simp only [Act.put, List.setIfInBounds_toArray, List.set_cons_succ, List.set_cons_zero]
      apply jj_fun (by decide)
      · intro L x u hL hd hJ
        have HJ := hid hJ
        clear hJ hd hL
        go_simp
        exact ⟨rfl, HJ.out⟩
      simp only [Act.put, List.setIfInBounds_toArray, List.set_cons_succ, List.set_cons_zero]
      apply jj_fun (by decide)
      · intro L x u hL hd hJ
        have HJ := hid hJ
        clear hJ hd hL
        go_simp
        exact ⟨rfl, HJ.out⟩
      simp only [Act.put, List.setIfInBounds_toArray, List.set_cons_succ, List.set_cons_zero]
      apply jj_fun (by decide)
      · intro L x u hL hd hJ
        have c1 := ((HX.out.trans (HV.out u (hEA.trans hJ.1)).2.2.2.1).cell (p := ⟨nb, _, none⟩) HND.out.1).trans HND.out.2
        have HJ := hid hJ
        clear hJ hd hL
        go_simp
        exact ⟨rfl, HJ.out⟩
      simp only [Act.put, List.setIfInBounds_toArray, List.set_cons_succ, List.set_cons_zero]
      refine jj_fun (v := .tuple #[.agg #[.int .i64 (p + de), .int .i64 (o + dn)], .int .i64 0]) (by decide) ?_ ?_
      · intro L x u hL hd hJ
        have hcal := hid (HLI2.out _ u (HV.out u (hEA.trans hJ.1)).2.2.2.1 (HV.out u (hEA.trans hJ.1)).2.2.2.2)
        have HJ := hid hJ
        clear hJ hd hL
        go_simp
        exact hcal.out.mono fun e w'' ⟨he, hx'⟩ => ⟨_, he, rfl, boxJ_ext HJ.out hx'⟩
      simp only [Act.put, List.setIfInBounds_toArray, List.set_cons_succ, List.set_cons_zero]
      apply jj_fun (by decide)
      · intro L x u hL hd hJ
        have HJ := hid hJ
        clear hJ hd hL
        go_simp
        exact ⟨rfl, HJ.out⟩
      simp only [Act.put, List.setIfInBounds_toArray, List.set_cons_succ, List.set_cons_zero]
      apply jj_fun (by decide)
      · intro L x u hL hd hJ
        have HJ := hid hJ
        clear hJ hd hL
        go_simp
        exact ⟨rfl, HJ.out⟩
      simp only [Act.put, List.setIfInBounds_toArray, List.set_cons_succ, List.set_cons_zero]
      apply jj_fun (by decide)
      · intro L x u hL hd hJ
        have HJ := hid hJ
        clear hJ hd hL
        go_simp
        exact ⟨rfl, HJ.out⟩
      simp only [Act.put, List.setIfInBounds_toArray, List.set_cons_succ, List.set_cons_zero]
      refine jj_inv (by decide) ?_ ?_
      · intro L x u hL hd hJ
        have HJ := hid (boxJ_make hJ hL)
        clear hJ hd hL
        go_simp
        exact HJ.out
      simp only [Act.put, List.setIfInBounds_toArray, List.set_cons_succ, List.set_cons_zero]
      refine jj_fun (v := undef) (by decide) ?_ ?_
      · intro L x u hL hd hJ
        have hl : L 11 = true := hd.1 rfl
        obtain ⟨g, hx8, hg, h3, _⟩ := hJ.2.1 hl
        have hb := h3 hL
        have hk := set_same (set_same hb 0 (.int .i64 (p + de))) 1 (.int .i64 (o + dn))
        simp only [List.setIfInBounds_toArray, List.set_cons_succ, List.set_cons_zero] at hk
        have HJ : Hid (boxJ uA 54 #[.int .i64 0, .int .i64 0] #[.int .i64 (p + de), .int .i64 (o + dn)] (updL L 12) x ((u.setCell ⟨g, 0, none⟩ (.int .i64 (p + de))).setCell ⟨g, 1, none⟩ (.int .i64 (o + dn)))) := ⟨(hJ.1.set hg 0 _).set hg 1 _, fun _ => ⟨g, hx8, hg, (fun q => by cases q), fun _ => hk⟩, fun _ => hl⟩
        have cb := cell_of hb
        have fb := free_of hb
        rw [hx8]
        clear hJ hd hL hb h3 hl hx8 hk
        go_simp
        exact HJ.out
      simp only [Act.put, List.setIfInBounds_toArray, List.set_cons_succ, List.set_cons_zero]
      apply jj_fun (by decide)
      · intro L x u hL hd hJ
        have HJ := hid hJ
        clear hJ hd hL
        go_simp
        exact ⟨rfl, HJ.out⟩
      simp only [Act.put, List.setIfInBounds_toArray, List.set_cons_succ, List.set_cons_zero]
      refine jj_nil fun L x uB hall hJ => ?_
      obtain ⟨gB, hg1, hgl1, _, hgb1⟩ := hJ.2.1 (hall 11 (by omega))
      have hgb1 := hgb1 (hall 12 (by omega))
      have hEB := hJ.1
      clear hJ hall
      generalize x 11 = x11B at *
      clear x
      subst hg1
      have HGBB := hid hgb1
      clear hgb1 hgl1
      gi_wp2_with fail
      have HXL := hid (((HX.out.trans R5.out).trans hEA).trans hEB)
      have HQ := hid fun e : Later uB => And.intro (cell_of (Ext.block e.grown (hEB.block HGBA.out))) (cell_of (Ext.block e.grown HGBB.out))
      have HAT := hid (fun u => at_any (p + de) (o + dn) u)
      have HWK := hid works_any
      have q0 := HQ.out
      clear hEA hEB HV
      refine quiet_wide 23 (by kernel_rfl) (by kernel_rfl) ?_
      simp only [List.take_succ_cons, List.take_zero, List.drop_succ_cons, List.drop_zero]
      repeat (any_goals (first | go_big_quiet_step ((first | (go_at_call 37; with_reducible exact Cal.quiet (HAT.out _)) | (go_at_call 19; with_reducible exact Cal.quiet (HWK.out _)))) | quiet_step ((first | (go_at_call 37; with_reducible exact Cal.quiet (HAT.out _)) | (go_at_call 19; with_reducible exact Cal.quiet (HWK.out _))))))
      refine wpQuiet_nil ?_
      rintro w30 ⟨⟨w30q, hx30⟩, hew⟩
      obtain rfl : w30 = w30q := hew
      have hx30 : Ext uB w30 := hx30
      gi_wp2_with fail
      go_ret
      exact ⟨rfl, HXL.out.trans hx30⟩

end Go.Proofs.Ytmjelgonhpgmbaa
