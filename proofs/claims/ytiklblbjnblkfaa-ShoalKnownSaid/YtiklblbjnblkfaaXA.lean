/- Next, as it is called from outside. -/
import Derived.Test.YtiklblbjnblkfaaWZ
set_option linter.unusedSimpArgs false
set_option linter.unusedVariables false
namespace Go.Proofs.Ytiklblbjnblkfaa
open Go Go.RowKit Go.Shelf

theorem Row.at {w : World} {T : TypeId} {sz : Nat} {v : Value} {n : Nat} {xs : List Value} (h : Row w T sz v n xs) (hsz : 0 < sz) : ∃ a cap, v = .slice a n cap ∧
    ∀ k, k < n → ∃ g, a = some ⟨g, 0, none⟩ ∧ g < w.heap.size ∧ ∀ j, j < sz → w.cell? ⟨g, k * sz + j, none⟩ = xs[k * sz + j]? := by
  obtain ⟨hl, h⟩ := h
  rcases h with ⟨rfl, rfl⟩ | ⟨g, cap, cur, rfl, hb, h1, h2, h3, h4⟩
  · exact ⟨none, 0, rfl, fun k hk => by omega⟩
  · refine ⟨_, cap, rfl, fun k hk => ⟨g, rfl, lt_of_block hb, fun j hj => ?_⟩⟩
    rw [cell_of hb]
    have hk1 : k * sz + j < n * sz := by
      have := Nat.mul_le_mul_right sz (show k + 1 ≤ n by omega)
      rw [Nat.add_mul, Nat.one_mul] at this
      omega
    have : (cur.toList.take (n * sz))[k * sz + j]? = xs[k * sz + j]? := by rw [h4]
    rw [List.getElem?_take, if_pos hk1] at this
    rw [← this]; simp
theorem seaOf_ok {D : SeaD} (h : seaB D = true) : (seaOf D).Ok := by
  unfold seaB at h
  simp only [Bool.and_eq_true] at h
  exact ⟨inB_spec h.1.1.1.1.1, inB_spec h.1.1.1.1.2, inB_spec h.1.1.2, inB_spec h.1.1.1.2⟩
theorem places_ok {D : SeaD} (hb : seaB D = true) {l : List Nat} (hl : ∀ c ∈ l, c < (D.wide * D.high).toNat) : ∀ p ∈ placesOf D l, (-1000 ≤ p.1 ∧ p.1 ≤ 1000) ∧ (-1000 ≤ p.2 ∧ p.2 ≤ 1000) := by
  intro p hp
  obtain ⟨c, hc, rfl⟩ := List.mem_map.1 hp
  have h80 := seaB_80 hb
  have := hl c hc
  have h1 := col_ok (seaOf_ok hb) (c := (c : Int)) (by omega) (by omega)
  have h2 := row_ok (seaOf_ok hb) (c := (c : Int)) (by omega) (by omega)
  unfold plcOf
  simp only
  omega
theorem flatC_at (S : SeaV) : ∀ (cs : List Cst) (k : Nat) (h : k < cs.length), (flatC S cs)[k * 4 + 0]? = some (.int .i64 cs[k].cell) ∧ (flatC S cs)[k * 4 + 1]? = some (.int .i64 cs[k].far) ∧ (flatC S cs)[k * 4 + 2]? = some (.int .i64 (col S cs[k].cell)) ∧ (flatC S cs)[k * 4 + 3]? = some (.int .i64 (row S cs[k].cell))
  | c :: cs, 0, _ => ⟨rfl, rfl, rfl, rfl⟩
  | c :: cs, k + 1, h => by
    have := flatC_at S cs k (by simpa using h)
    have e : ∀ j, (flatC S (c :: cs))[(k + 1) * 4 + j]? = (flatC S cs)[k * 4 + j]? := fun j => by
      have : flatC S (c :: cs) = [.int .i64 c.cell, .int .i64 c.far, .int .i64 (col S c.cell), .int .i64 (row S c.cell)] ++ flatC S cs := rfl
      rw [this, List.getElem?_append_right (by simp; omega)]
      congr 1
      simp; omega
    simp only [e, List.getElem_cons_succ]
    exact this

def wOf (D : SeaD) (ps : List (Int × Int)) (c : Cst) : Int := worstOf (col (seaOf D) c.cell) (row (seaOf D) c.cell) c.far ps
def nextTo (D : SeaD) (ps : List (Int × Int)) (cs : List Cst) : Nat → Nat × Int
  | 0 => (0, 0)
  | k + 1 => if (k == 0) || decide (wOf D ps (cs.getD k ⟨0, 0⟩) < (nextTo D ps cs k).2) then (k, wOf D ps (cs.getD k ⟨0, 0⟩)) else nextTo D ps cs k
def nextRes (D : SeaD) (rs : List Rep) (wrong hour : Int) (cs : List Cst) : Nat × Int := if searchErr D rs wrong hour cs ≠ 0 then (0, 0) else nextTo D (placesOf D (canF D rs wrong hour.toNat)) cs cs.length

set_option maxRecDepth 100000 in
set_option maxHeartbeats 1000000 in
theorem Next_any (D : SeaD) (lv dv rv cv : Value) (rs : List Rep) (wrong hour : Int) (cs : List Cst) (w : World) (hl : IntsAt w lv D.land) (hd : StepsAt w dv D.drift) (hr : RepsAt w rv rs) (hc : CastsAt w cv cs) :
    Cal 28 #[seaVal D lv dv, rv, .int .i64 wrong, .int .i64 hour, cv] w fun e w' => e = .returned (.tuple #[.int .i64 (nextRes D rs wrong hour cs).1, .int .i64 (nextRes D rs wrong hour cs).2, .int .i64 (searchErr D rs wrong hour cs)]) ∧ Ext w w' := by
  unfold seaVal
  gi_enter Try.func28, Try.ntmps28
  have hx := (Ext.refl w).alloc (.cells #[.int .i64 D.wide, .int .i64 D.high, lv, .int .i64 D.hours, dv, .int .i64 D.speed] 25)
  have HN := hid (newSearch_any D lv dv rv cv rs wrong hour cs _ (hl.mono hx) (hd.mono hx) (hr.mono hx) (hc.mono hx))
  rw [seaVal] at HN
  clear hl hd hr hx hc
  by_cases h0 : searchErr D rs wrong hour cs = 0
  rotate_left
  · have HR : Hid (nextRes D rs wrong hour cs = (0, 0)) := if_pos h0
    have HA : Hid (∀ e w', NewSearch D rs wrong hour cs e w' → e = .returned (.tuple #[.slice none 0 0, .slice none 0 0, .int .i64 (searchErr D rs wrong hour cs)])) := fun e w' h => by
      rcases h with h | h
      · exact h.2
      · exact absurd h.1 h0
    have hne : (searchErr D rs wrong hour cs != 0) = true := by simpa using h0
    clear h0
    generalize searchErr D rs wrong hour cs = ae at *
    gi_wp2_with (gi_at_call 66; ((with_reducible refine HN.out.mono ?_); rintro e w1 ⟨hx1, hN⟩; have he := HA.out _ _ hN; subst he; clear hN HN))
    exact bodyPost_ret (v := .tuple #[.int .i64 0, .int .i64 0, .int .i64 ae]) (results_tmp3 (fn := Try.f28) (t := 10) (u := 11) (v := 12) rfl _ _ _) rfl ⟨by rw [HR.out]; rfl, Ext.after hx1⟩
  have HA : Hid (∀ e w', NewSearch D rs wrong hour cs e w' → seaB D = true ∧ castsB (D.wide * D.high) cs = true ∧ ∃ v1 v2, e = .returned (.tuple #[v1, v2, .int .i64 0]) ∧ Hid (Row w' 81 2 v1 (canF D rs wrong hour.toNat).length (flatP (placesOf D (canF D rs wrong hour.toNat))) ∧ Row w' 104 4 v2 cs.length (flatC (seaOf D) cs))) := fun e w' h => by
    rcases h with h | h
    · exact absurd h0 h.1
    · exact ⟨h.2.2.1, h.2.2.2.1, h.2.2.2.2.2⟩
  have HR : Hid (nextRes D rs wrong hour cs = nextTo D (placesOf D (canF D rs wrong hour.toNat)) cs cs.length) := if_neg (fun h => h h0)
  have HE := hid h0
  clear h0
  gi_wp2_with (gi_at_call 66; ((with_reducible refine HN.out.mono ?_); rintro e w1 ⟨hx1, hN⟩; obtain ⟨hb, hcb, v1, v2, rfl, hrows⟩ := HA.out _ _ hN; clear hN HN HA; obtain ⟨a2, c2, rfl, hat⟩ := hrows.out.2.at (by decide)))
  have HPO := hid (places_ok hb (l := canF D rs wrong hour.toNat) (fun c h => canF_lt h))
  have hpl : (placesOf D (canF D rs wrong hour.toNat)).length = (canF D rs wrong hour.toNat).length := by unfold placesOf; rw [List.length_map]
  have hp80 := canF_len D hb rs wrong hour.toNat
  rw [← hpl] at hrows hp80
  have HPA := hid (PlacesAt.of_row hrows.out.1 (by omega))
  have HCO := hid (casts_ok hb hcb)
  have HSO := hid (seaOf_ok hb)
  have HAT := hid hat
  have HFC := hid (flatC_at (seaOf D) cs)
  have HX := hid (Ext.after hx1)
  clear hrows hat hx1 hb hcb hpl hp80
  generalize placesOf D (canF D rs wrong hour.toNat) = ps at *
  gi_loopw [10, 11, 33] (fun a b i wr => ∃ k : Nat, k ≤ cs.length ∧ i = .int .i64 k ∧ a = .int .i64 (nextTo D ps cs k).1 ∧ b = .int .i64 (nextTo D ps cs k).2 ∧ Ext w1 wr) (fun _ _ i _ => cs.length - (intOf i).toNat)
  case atStart => exact ⟨0, Nat.zero_le _, rfl, rfl, rfl, Ext.refl _⟩
  case round =>
    obtain ⟨k, hk, rfl, rfl, rfl, hx⟩ := hrel
    by_cases hlt : k < cs.length
    · obtain ⟨g, rfl, hgl, hgc⟩ := HAT.out k hlt
      have hq := HFC.out k hlt
      have hc0 := (hx.cell (p := ⟨g, k * 4 + 0, none⟩) hgl).trans ((hgc 0 (by omega)).trans hq.1)
      have hc1 := (hx.cell (p := ⟨g, k * 4 + 1, none⟩) hgl).trans ((hgc 1 (by omega)).trans hq.2.1)
      have hc2 := (hx.cell (p := ⟨g, k * 4 + 2, none⟩) hgl).trans ((hgc 2 (by omega)).trans hq.2.2.1)
      have hc3 := (hx.cell (p := ⟨g, k * 4 + 3, none⟩) hgl).trans ((hgc 3 (by omega)).trans hq.2.2.2)
      rw [Nat.add_zero] at hc0
      have hck := HCO.out.2.2 cs[k] (List.getElem_mem _)
      have hcc := col_ok HSO.out hck.1.1 hck.1.2
      have hrr := row_ok HSO.out hck.1.1 hck.1.2
      have hsu : nextTo D ps cs (k + 1) = if (k == 0) || decide (wOf D ps cs[k] < (nextTo D ps cs k).2) then (k, wOf D ps cs[k]) else nextTo D ps cs k := by
        show (if (k == 0) || decide (wOf D ps (cs.getD k ⟨0, 0⟩) < (nextTo D ps cs k).2) then (k, wOf D ps (cs.getD k ⟨0, 0⟩)) else nextTo D ps cs k) = _
        rw [getD_of hlt]
      have hwo : worstOf (col (seaOf D) cs[k].cell) (row (seaOf D) cs[k].cell) cs[k].far ps = wOf D ps cs[k] := rfl
      have HW := hid (worst_any cs[k].cell cs[k].far (col (seaOf D) cs[k].cell) (row (seaOf D) cs[k].cell) v1 ps (wr.alloc (.cells #[.int .i64 cs[k].cell, .int .i64 cs[k].far, .int .i64 (col (seaOf D) cs[k].cell), .int .i64 (row (seaOf D) cs[k].cell)] 104)) (HPA.out.mono (Ext.alloc hx _)) (by omega) (by omega) HPO.out)
      rw [hwo] at HW
      have HS := hid hsu
      have h8 := HCO.out.1
      clear hsu hwo hcc hrr hck hgc hq
      generalize wOf D ps cs[k] = wk at *
      generalize col (seaOf D) cs[k].cell = cc at *
      generalize row (seaOf D) cs[k].cell = cr at *
      generalize cs[k].cell = cell at *
      generalize cs[k].far = far at *
      cases hk0 : (k == 0) with
      | true =>
        obtain rfl : k = 0 := by simpa using hk0
        rw [hk0, Bool.true_or] at HS
        clear hk0
        gi_wp2_with (gi_at_call 67; ((with_reducible refine HW.out.mono ?_); rintro e w5 ⟨rfl, hx5⟩))
        go_roundw
        case rel => exact ⟨0 + 1, by omega, by go_num, by rw [HS.out]; rfl, by rw [HS.out]; rfl, Ext.trans hx (Ext.after hx5)⟩
        case measure => simp [intOf]; omega
      | false =>
        have hk1 : ((k : Int) == 0) = false := by have : k ≠ 0 := by simpa using hk0
                                                  simpa using this
        rw [hk0, Bool.false_or] at HS
        clear hk0
        generalize nextTo D ps cs k = nk at *
        obtain ⟨nw, nn⟩ := nk
        cases hlw : decide (wk < nn) with
        | true =>
          have HS2 : Hid (nextTo D ps cs (k + 1) = (k, wk)) := by
            show _ = _
            rw [HS.out, if_pos hlw]
          clear HS
          gi_wp2_with (gi_at_call 67; ((with_reducible refine HW.out.mono ?_); rintro e w5 ⟨rfl, hx5⟩))
          go_roundw
          case rel => exact ⟨k + 1, by omega, by go_num, by rw [HS2.out], by rw [HS2.out], Ext.trans hx (Ext.after hx5)⟩
          case measure => simp [intOf]; omega
        | false =>
          have HS2 : Hid (nextTo D ps cs (k + 1) = (nw, nn)) := by
            show _ = _
            rw [HS.out, if_neg (by simpa using hlw)]
          clear HS
          gi_wp2_with (gi_at_call 67; ((with_reducible refine HW.out.mono ?_); rintro e w5 ⟨rfl, hx5⟩))
          go_roundw
          case rel => exact ⟨k + 1, by omega, by go_num, by rw [HS2.out], by rw [HS2.out], Ext.trans hx (Ext.after hx5)⟩
          case measure => simp [intOf]; omega
    · obtain rfl : k = cs.length := by omega
      gi_wp2
      exact bodyPost_ret (v := .tuple #[.int .i64 (nextTo D ps cs cs.length).1, .int .i64 (nextTo D ps cs cs.length).2, .int .i64 0]) (results_tmp3 (fn := Try.f28) (t := 10) (u := 11) (v := 12) rfl _ _ _) rfl ⟨by rw [HR.out, HE.out], HX.out.trans hx⟩
end Go.Proofs.Ytiklblbjnblkfaa
