/- whole: a valid torn net. -/
import Derived.Test.YtmjelgonhpgmbaaUC
import Derived.Test.YtmjelgonhpgmbaaInv
import Derived.Test.YtmjelgonhpgmbaaMS
set_option linter.unusedSimpArgs false
set_option linter.unusedVariables false
namespace Go.Proofs.Ytmjelgonhpgmbaa
open Go Go.RowKit Go.Shelf

set_option maxRecDepth 100000 in
set_option maxHeartbeats 2000000 in
theorem whole_any (T : TornD) (sv : Value) (w : World) (hs : SpansAt w sv T.bars) : Cal 38 #[.agg #[.int .i64 T.wide, .int .i64 T.high, sv, .int .i64 T.mesh, .int .i64 T.knot]] w fun e w' => e = .returned (.bool (tornB T)) ∧ Ext w w' := by
  have hx : Ext w (w.alloc (.cells #[.int .i64 T.wide, .int .i64 T.high, sv, .int .i64 T.mesh, .int .i64 T.knot] 24)) := (Ext.refl w).alloc _
  have hbx : (w.alloc (.cells #[.int .i64 T.wide, .int .i64 T.high, sv, .int .i64 T.mesh, .int .i64 T.knot] 24)).heap[w.heap.size]? = some (.cells #[.int .i64 T.wide, .int .i64 T.high, sv, .int .i64 T.mesh, .int .i64 T.knot] 24 (0, 0)) := Ext.new (Ext.refl _)
  have HT := hid (CheckTorn_any T sv _ (hs.mono hx))
  have HBX := hid hbx
  have HX := hid hx
  obtain ⟨sa, sc, rfl, hsl, _⟩ := hs
  clear hx hbx
  cases hb : tornB T with
  | false =>
    have he : tornE T = 23 := by unfold tornE; rw [hb]; rfl
    rw [he] at HT
    clear he hb
    gi_enter Try.func38, Try.ntmps38
    gi_wp2_with (gi_at_call 14; ((with_reducible refine HT.out.mono ?_); rintro e w1 ⟨rfl, hx1⟩; have hc1 := cell_of (hx1.block HBX.out)))
    go_ret
    exact ⟨rfl, HX.out.trans hx1⟩
  | true =>
    have ok := torn_ok hb
    have hm := mul_36 ok.1 ok.2.1
    have hlen := torn_len hb
    have hwd := ok.1
    have hm2 : 2 * T.wide * T.high = 2 * (T.wide * T.high) := Int.mul_assoc _ _ _
    have hm3 : 8 ≤ 2 * T.wide * T.high ∧ 2 * T.wide * T.high ≤ 72 := by omega
    have hle : (T.bars.length : Int) ≤ 2 * T.wide * T.high := by omega
    have H1 : Hid (inB T.wide 2 6 = true) := by show _ = _; unfold inB; rw [decide_eq_true ok.1.1, decide_eq_true ok.1.2]; rfl
    have H2 : Hid (inB T.high 2 6 = true) := by show _ = _; unfold inB; rw [decide_eq_true ok.2.1.1, decide_eq_true ok.2.1.2]; rfl
    have he : tornE T = 0 := by unfold tornE; rw [hb]; rfl
    rw [he] at HT
    clear he hb ok hm2 hlen hm
    gi_enter Try.func38, Try.ntmps38
    gi_wp2_with (first | (gi_at_call 14; ((with_reducible refine HT.out.mono ?_); rintro e w1 ⟨rfl, hx1⟩; have hc1 := cell_of (hx1.block HBX.out))) | (gi_at_call 26; ((with_reducible refine (in_b _ _ _ true _ H1.out).mono ?_); rintro e w9 ⟨rfl, rfl⟩)) | (gi_at_call 26; ((with_reducible refine (in_b _ _ _ true _ H2.out).mono ?_); rintro e w9 ⟨rfl, rfl⟩)))
    go_ret
    exact ⟨rfl, HX.out.trans hx1⟩

end Go.Proofs.Ytmjelgonhpgmbaa
