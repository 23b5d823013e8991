/- Twine. -/
import Derived.Test.YtmjelgonhpgmbaaMQ
set_option linter.unusedSimpArgs false
set_option linter.unusedVariables false
namespace Go.Proofs.Ytmjelgonhpgmbaa
open Go Go.RowKit Go.Shelf

def twineV (T : TornD) : Int := if tornB T then T.mesh * T.bars.length + T.knot * 2 * (mendF T.bars T.wide T.high).length else 0
def qPc (base : Nat) (ps : List (List Int)) (v : Value) (u : World) : Prop := ∃ nb, PcsAt u base nb v ps
theorem qPc_s (base : Nat) (ps : List (List Int)) : ∀ v u u', qPc base ps v u → Ext u u' → qPc base ps v u' := fun _ _ _ ⟨nb, h⟩ hx => ⟨nb, h.ext hx⟩
theorem torn_lo {T : TornD} (h : tornB T = true) : ∀ s ∈ T.bars, 0 ≤ s.lo ∧ s.lo ≤ T.wide * T.high := fun s hs => by
  have hok := torn_ok h
  obtain ⟨a, ha⟩ : ∃ a : Nat, T.wide = a := ⟨T.wide.toNat, by have := hok.1; omega⟩
  obtain ⟨b, hb⟩ : ∃ b : Nat, T.high = b := ⟨T.high.toNat, by have := hok.2.1; omega⟩
  have := hok.2.2.2.2.2 s hs
  rw [ha, hb] at this ⊢
  exact (isBar_mem (by have := hok.1; omega) this).2
theorem mendF_len {T : TornD} (h : tornB T = true) : (mendF T.bars T.wide T.high).length ≤ 5000 := by
  have hok := torn_ok h
  have hm := mul_36 hok.1 hok.2.1
  have hl : (handTo T.bars (T.wide * T.high) (T.wide * T.high).toNat).length ≤ 96 := by unfold handTo; rw [List.length_append]; have := oddTo_len T.bars (T.wide * T.high) (T.wide * T.high).toNat; omega
  have := mendTo_len hl (T.wide * T.high).toNat ((T.wide * T.high).toNat + 1)
  unfold mendF
  omega
set_option maxHeartbeats 1000000 in
theorem twine_more (wide high mesh knot p : Int) (sa : Option Addr) (n sc : Nat) (mv : Value) (hm : 0 ≤ mesh ∧ mesh ≤ 100) (hk : 0 ≤ knot ∧ knot ≤ 100) (hn : n ≤ 1000) (hp : 0 ≤ p ∧ p ≤ 5000) (w : World) :
    Cal 46 #[.agg #[.int .i64 wide, .int .i64 high, .slice sa n sc, .int .i64 mesh, .int .i64 knot, mv], .int .i64 p] w fun e w' => e = .returned (.int .i64 (mesh * n + knot * 2 * p)) ∧ Ext w w' := by
  have h1 : 0 ≤ mesh * (n : Int) ∧ mesh * (n : Int) ≤ 100000 := by
    have a1 := Int.mul_le_mul_of_nonneg_right hm.1 (show (0 : Int) ≤ n by omega)
    have a2 := Int.mul_le_mul_of_nonneg_right hm.2 (show (0 : Int) ≤ n by omega)
    omega
  have h2 : 0 ≤ knot * 2 * p ∧ knot * 2 * p ≤ 1000000 := by
    have a1 := Int.mul_le_mul_of_nonneg_right (show 0 ≤ knot * 2 by omega) hp.1
    have a2 := Int.mul_le_mul_of_nonneg_right (show knot * 2 ≤ 200 by omega) hp.1
    omega
  gi_enter Try.func46, Try.ntmps46
  gi_wp2
  go_ret
  exact ⟨rfl, (Ext.refl _).alloc _⟩
set_option maxRecDepth 100000 in
set_option maxHeartbeats 2000000 in
theorem Twine_any (T : TornD) (sv : Value) (w : World) (hs : SpansAt w sv T.bars) : Cal 16 #[.agg #[.int .i64 T.wide, .int .i64 T.high, sv, .int .i64 T.mesh, .int .i64 T.knot]] w fun e w' => e = .returned (.tuple #[.int .i64 (twineV T), .int .i64 (tornE T)]) ∧ Ext w w' := by
  have hx0 : Ext w (w.alloc (.cells #[.int .i64 T.wide, .int .i64 T.high, sv, .int .i64 T.mesh, .int .i64 T.knot] 24)) := (Ext.refl _).alloc _
  have HS := hid (hs.mono hx0)
  obtain ⟨sa, sc, rfl, _, _⟩ := hs
  cases hT : tornB T
  case false =>
    have HC : Hid (tornE T = 23 ∧ twineV T = 0) := by show _ ∧ _; unfold tornE twineV; rw [hT]; exact ⟨rfl, rfl⟩
    gi_enter Try.func16, Try.ntmps16
    gi_wp2_with (gi_at_call 44; ((with_reducible refine (newTorn_no T hT _ _ HS.out).mono ?_); rintro e w1 ⟨rfl, hx1⟩))
    exact bodyPost_ret (v := .tuple #[.int .i64 0, .int .i64 23]) (by simp [results, Try.results16, go_sem]) rfl ⟨by rw [HC.out.1, HC.out.2], (hx0.trans hx1).alloc _⟩
  case true =>
    have HOK := hid (torn_ok hT)
    have HLO := hid (torn_lo hT)
    have HML := hid (mendF_len hT)
    have HC : Hid (tornE T = 0 ∧ twineV T = T.mesh * T.bars.length + T.knot * 2 * (mendF T.bars T.wide T.high).length) := by show _ ∧ _; unfold tornE twineV; rw [hT]; exact ⟨rfl, rfl⟩
    gi_enter Try.func16, Try.ntmps16
    gi_upto_region 4 with (gi_at_call 44; ((with_reducible refine (newTorn_yes T hT _ _ HS.out).mono ?_); rintro e w1 ⟨hx1, bm, rfl, hm⟩))
    have hb : (w1.alloc (.cells #[.int .i64 T.wide, .int .i64 T.high, .slice sa T.bars.length sc, .int .i64 T.mesh, .int .i64 T.knot, .map (some bm)] 96)).heap[w1.heap.size]? = some (.cells #[.int .i64 T.wide, .int .i64 T.high, .slice sa T.bars.length sc, .int .i64 T.mesh, .int .i64 T.knot, .map (some bm)] 96 (0, 0)) := Ext.new (Ext.refl _)
    have HB := hid hb
    have HX := hid ((hx0.trans hx1).alloc (.cells #[.int .i64 T.wide, .int .i64 T.high, .slice sa T.bars.length sc, .int .i64 T.mesh, .int .i64 T.knot, .map (some bm)] 96))
    have HSP := hid ((HS.out.mono hx1).mono ((Ext.refl w1).alloc (.cells #[.int .i64 T.wide, .int .i64 T.high, .slice sa T.bars.length sc, .int .i64 T.mesh, .int .i64 T.knot, .map (some bm)] 96)))
    clear hb hx1 hm hx0 HS
    generalize w1.alloc (.cells #[.int .i64 T.wide, .int .i64 T.high, .slice sa T.bars.length sc, .int .i64 T.mesh, .int .i64 T.knot, .map (some bm)] 96) = W at *
    generalize w1.heap.size = G at *
    have HMN := hid (fun (u : World) (hu : Ext W u) => mend_any T.wide T.high T.mesh T.knot sa sc T.bars (.map (some bm)) HOK.out.1 HOK.out.2.1 u HOK.out.2.2.2.2.1 HLO.out (HSP.out.mono hu))
    generalize mendF T.bars T.wide T.high = ps at *
    refine lex_wide 5 [(2, qPc W.heap.size ps)] (by kernel_rfl) (by kernel_rfl) (nStab_cons (qPc_s _ _) nStab_nil) ?_
    simp only [List.take_succ_cons, List.take_zero, List.drop_succ_cons, List.drop_zero]
    apply lex_fun (rfl : psAt _ _ = none)
    · intro x u hR hf
      have c0 := cell_of (hR.block HB.out)
      clear hR hf
      go_simp
      exact ⟨rfl, Ext.refl _⟩
    simp only [Act.put, List.setIfInBounds_toArray, List.set_cons_succ, List.set_cons_zero]
    apply lex_fun (rfl : psAt _ _ = none)
    · intro x u hR hf
      have c0 := cell_of (hR.block HB.out)
      clear hR hf
      go_simp
      exact ⟨rfl, Ext.refl _⟩
    simp only [Act.put, List.setIfInBounds_toArray, List.set_cons_succ, List.set_cons_zero]
    refine lex_pred (p := qPc W.heap.size ps) rfl ?_ ?_
    · intro x u hR hf
      have hcal := hid (HMN.out u hR)
      have hsz := hR.size
      clear hR hf
      go_simp
      exact hcal.out.mono fun e w'' ⟨v, he, hx', hs'⟩ => ⟨_, he, ⟨_, ⟨hs'.vals, fun g hg => by have := hs'.own g hg; omega⟩⟩, hx'⟩
    simp only [Act.put, List.setIfInBounds_toArray, List.set_cons_succ, List.set_cons_zero]
    refine lex_fun (v := .int .i64 (ps.length : Int)) (rfl : psAt _ _ = none) ?_ ?_
    · intro x u hR hf
      have h2 : qPc W.heap.size ps (x 2) u := by first | exact hf.1 rfl | exact hf.2.1 rfl
      obtain ⟨nb, ⟨vals, _, hr, _⟩, _⟩ := h2
      obtain ⟨xa, xc, e2⟩ := hr.isSliceN
      clear hR hf hr
      generalize x 2 = x2 at *
      subst e2
      go_simp
      first | exact ⟨rfl, Ext.refl _⟩ | exact Ext.refl _
    simp only [Act.put, List.setIfInBounds_toArray, List.set_cons_succ, List.set_cons_zero]
    refine lex_fun (v := .int .i64 (T.mesh * T.bars.length + T.knot * 2 * (ps.length : Int))) (rfl : psAt _ _ = none) ?_ ?_
    · intro x u hR hf
      have hcal := hid (twine_more T.wide T.high T.mesh T.knot ps.length sa T.bars.length sc (.map (some bm)) (by have := HOK.out.2.2.1; omega) (by have := HOK.out.2.2.2.1; omega) (by have := HOK.out.2.2.2.2.1; omega) (by have := HML.out; omega) u)
      clear hR hf
      go_simp
      exact hcal.out.mono fun e w'' ⟨he, hx'⟩ => ⟨_, he, rfl, hx'⟩
    simp only [Act.put, List.setIfInBounds_toArray, List.set_cons_succ, List.set_cons_zero]
    refine lex_nil fun x w6 hE hfacts => ?_
    clear hfacts
    generalize x 2 = x2 at *
    clear x
    gi_wp2_with fail
    exact bodyPost_ret (v := .tuple #[.int .i64 (T.mesh * T.bars.length + T.knot * 2 * (ps.length : Int)), .int .i64 0]) (by simp [results, Try.results16, go_sem]) rfl ⟨by rw [HC.out.1, HC.out.2], HX.out.trans hE⟩



theorem useBar_cnt {l : List Spn} {k : Nat} (hk : k ≤ 96) {L L' : Nat → Bool} {a b : Int} (h : useBar (barMapTo l k) L a b = some L') : cnt L' 96 + 1 = cnt L 96 := by
  unfold useBar at h
  cases hf : (barMapTo l k).find (mn a b, mx a b) with
  | none => rw [hf] at h; cases h
  | some c =>
    rw [hf] at h
    simp only at h
    split at h
    · next hL =>
      cases h
      have hr := barMap_range hf
      exact cnt_clr hL 96 (by omega)
    · cases h
theorem usedTo_cnt {l : List Spn} {k : Nat} (hk : k ≤ 96) {L : Nat → Bool} {p : List Int} : ∀ (n : Nat) (L' : Nat → Bool), usedTo (barMapTo l k) L p n = some L' → cnt L' 96 + n = cnt L 96
  | 0, L', h => by
    have h1 : L = L' := Option.some.inj h
    rw [h1]; omega
  | n + 1, L', h => by
    unfold usedTo at h
    obtain ⟨M, h1, h2⟩ := Option.bind_eq_some_iff.1 h
    have := usedTo_cnt hk n M h1
    have := useBar_cnt hk h2
    omega
theorem usedPs_cnt {l : List Spn} {k : Nat} (hk : k ≤ 96) {L : Nat → Bool} {ps : List (List Int)} : ∀ (n : Nat) (L' : Nat → Bool), usedPs (barMapTo l k) L ps n = some L' → cnt L' 96 + n ≤ cnt L 96
  | 0, L', h => by
    have h1 : L = L' := Option.some.inj h
    rw [h1]; omega
  | n + 1, L', h => by
    unfold usedPs at h
    obtain ⟨M, h1, h2⟩ := Option.bind_eq_some_iff.1 h
    have h3 := usedPs_cnt hk n M h1
    unfold usePiece at h2
    split at h2
    · cases h2
    · have := usedTo_cnt hk _ _ h2
      omega
theorem mend_few {T : TornD} (hT : tornB T = true) {ps : List (List Int)} (h : isMendB T ps = true) : ps.length ≤ 96 := by
  have hok := torn_ok hT
  unfold isMendB leftB at h
  cases hu : usedPs (barMapTo T.bars T.bars.length) (fun i => decide (i < T.bars.length)) ps ps.length with
  | none => rw [hu] at h; cases h
  | some L =>
    have h1 := usedPs_cnt (by omega) _ _ hu
    have h2 := cnt_le (fun i => decide (i < T.bars.length)) 96
    omega
theorem mapBlk_mono {w w' : World} {bm : Nat} {m : PMap} (h : MapBlk w bm m) (hx : Ext w w') : MapBlk w' bm m := by
  obtain ⟨es, cl, e1, e2⟩ := h
  exact ⟨es, cl, hx.block e1, e2⟩
theorem mapBlk_lt {w : World} {bm : Nat} {m : PMap} (h : MapBlk w bm m) : bm < w.heap.size := by
  obtain ⟨es, cl, e1, e2⟩ := h
  exact lt_of_block e1
def isV (T : TornD) (ps : List (List Int)) : Bool := tornB T && isMendB T ps
def isTw (T : TornD) (ps : List (List Int)) : Int := if isV T ps then T.mesh * T.bars.length + T.knot * 2 * ps.length else 0
set_option maxRecDepth 100000 in
set_option maxHeartbeats 2000000 in
theorem IsMend_any (T : TornD) (sv pv : Value) (ps : List (List Int)) (w : World) (hs : SpansAt w sv T.bars) (hp : PiecesAt w pv ps) : Cal 12 #[.agg #[.int .i64 T.wide, .int .i64 T.high, sv, .int .i64 T.mesh, .int .i64 T.knot], pv] w fun e w' => e = .returned (.tuple #[.int .i64 (isTw T ps), .bool (isV T ps), .int .i64 (tornE T)]) ∧ Ext w w' := by
  have hx0 : Ext w (w.alloc (.cells #[.int .i64 T.wide, .int .i64 T.high, sv, .int .i64 T.mesh, .int .i64 T.knot] 24)) := (Ext.refl _).alloc _
  have HS := hid (hs.mono hx0)
  have HP := hid (hp.mono hx0)
  obtain ⟨sa, sc, rfl, _, _⟩ := hs
  obtain ⟨pa, pc, rfl, _, _⟩ := hp
  cases hT : tornB T
  case false =>
    have HC : Hid (tornE T = 23 ∧ isV T ps = false ∧ isTw T ps = 0) := by show _ ∧ _ ∧ _; unfold tornE isTw isV; rw [hT]; exact ⟨rfl, rfl, rfl⟩
    gi_enter Try.func12, Try.ntmps12
    gi_wp2_with (gi_at_call 44; ((with_reducible refine (newTorn_no T hT _ _ HS.out).mono ?_); rintro e w1 ⟨rfl, hx1⟩))
    exact bodyPost_ret (v := .tuple #[.int .i64 0, .bool false, .int .i64 23]) (by simp [results, Try.results12, go_sem]) rfl ⟨by rw [HC.out.1, HC.out.2.1, HC.out.2.2], (hx0.trans hx1).alloc _⟩
  case true =>
    have HOK := hid (torn_ok hT)
    have HIM := hid (fun (bm : Nat) (u : World) (hb : bm < u.heap.size) (hM : MapBlk u bm (barMapTo T.bars T.bars.length)) (hpp : PiecesAt u (.slice pa ps.length pc) ps) => isMend_any T (by have := HOK.out.2.2.2.2.1; omega) sa sc bm _ ps u hb hM hpp)
    cases hI : isMendB T ps
    case false =>
      rw [hI] at HIM
      have HC : Hid (tornE T = 0 ∧ isV T ps = false ∧ isTw T ps = 0) := by show _ ∧ _ ∧ _; unfold tornE isTw isV; rw [hT, hI]; exact ⟨rfl, rfl, rfl⟩
      gi_enter Try.func12, Try.ntmps12
      gi_wp2_with (first | (gi_at_call 44; ((with_reducible refine (newTorn_yes T hT _ _ HS.out).mono ?_); rintro e w1 ⟨hx1, bm, rfl, hm⟩)) | (gi_at_call 45; ((with_reducible refine (HIM.out bm _ (mapBlk_lt (mapBlk_mono hm ((Ext.refl w1).alloc _))) (mapBlk_mono hm ((Ext.refl w1).alloc _)) ((HP.out.mono hx1).mono ((Ext.refl w1).alloc _))).mono ?_); rintro e w2 ⟨rfl, hx2⟩)))
      exact bodyPost_ret (v := .tuple #[.int .i64 0, .bool false, .int .i64 0]) (by simp [results, Try.results12, go_sem]) rfl ⟨by rw [HC.out.1, HC.out.2.1, HC.out.2.2], ((hx0.trans hx1).alloc _).trans hx2⟩
    case true =>
      rw [hI] at HIM
      have HFW := hid (mend_few hT hI)
      have HC : Hid (tornE T = 0 ∧ isV T ps = true ∧ isTw T ps = T.mesh * T.bars.length + T.knot * 2 * ps.length) := by show _ ∧ _ ∧ _; unfold tornE isTw isV; rw [hT, hI]; exact ⟨rfl, rfl, rfl⟩
      have HTW := hid (fun (bm : Nat) (u : World) => twine_more T.wide T.high T.mesh T.knot ps.length sa T.bars.length sc (.map (some bm)) (by have := HOK.out.2.2.1; omega) (by have := HOK.out.2.2.2.1; omega) (by have := HOK.out.2.2.2.2.1; omega) (by have := HFW.out; omega) u)
      gi_enter Try.func12, Try.ntmps12
      gi_wp2_with (first | (gi_at_call 44; ((with_reducible refine (newTorn_yes T hT _ _ HS.out).mono ?_); rintro e w1 ⟨hx1, bm, rfl, hm⟩; have hb1 : (w1.alloc (.cells #[.int .i64 T.wide, .int .i64 T.high, .slice sa T.bars.length sc, .int .i64 T.mesh, .int .i64 T.knot, .map (some bm)] 96)).heap[w1.heap.size]? = some (.cells #[.int .i64 T.wide, .int .i64 T.high, .slice sa T.bars.length sc, .int .i64 T.mesh, .int .i64 T.knot, .map (some bm)] 96 (0, 0)) := Ext.new (Ext.refl _))) | (gi_at_call 45; ((with_reducible refine (HIM.out bm _ (mapBlk_lt (mapBlk_mono hm ((Ext.refl w1).alloc _))) (mapBlk_mono hm ((Ext.refl w1).alloc _)) ((HP.out.mono hx1).mono ((Ext.refl w1).alloc _))).mono ?_); rintro e w2 ⟨rfl, hx2⟩; have hc2 := cell_of (hx2.block hb1))) | (gi_at_call 46; ((with_reducible refine (HTW.out bm _).mono ?_); rintro e w3 ⟨rfl, hx3⟩)))
      exact bodyPost_ret (v := .tuple #[.int .i64 (T.mesh * T.bars.length + T.knot * 2 * ps.length), .bool true, .int .i64 0]) (by simp [results, Try.results12, go_sem]) rfl ⟨by rw [HC.out.1, HC.out.2.1, HC.out.2.2], (((hx0.trans hx1).alloc _).trans hx2).trans hx3⟩

end Go.Proofs.Ytmjelgonhpgmbaa
