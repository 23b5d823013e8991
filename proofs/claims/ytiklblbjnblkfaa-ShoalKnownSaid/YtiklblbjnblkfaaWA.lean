/- What stands in the sea of the calculation: how many reports of an hour are false of a place. -/
import Derived.Test.YtiklblbjnblkfaaNS
set_option linter.unusedSimpArgs false
set_option linter.unusedVariables false
namespace Go.Proofs.Ytiklblbjnblkfaa
open Go Go.RowKit Go.Shelf

theorem Row.shape {w : World} {T : TypeId} {v : Value} {n : Nat} {xs : List Value} (h : Row w T 1 v n xs) : ∃ a cap, v = .slice a n cap ∧
    ∀ k, (hk : k < xs.length) → ∃ g, a = some ⟨g, 0, none⟩ ∧ g < w.heap.size ∧ w.cell? ⟨g, k, none⟩ = some xs[k] := by
  obtain ⟨hl, h⟩ := h
  rcases h with ⟨rfl, rfl⟩ | ⟨g, cap, cur, rfl, hb, h1, h2, h3, h4⟩
  · exact ⟨none, 0, rfl, fun k hk => by omega⟩
  · refine ⟨_, cap, rfl, fun k hk => ⟨g, rfl, lt_of_block hb, ?_⟩⟩
    rw [cell_of hb]
    have hk1 : k < n * 1 := by omega
    have : (cur.toList.take (n * 1))[k]? = xs[k]? := by rw [h4]
    rw [List.getElem?_take, if_pos hk1, List.getElem?_eq_getElem hk] at this
    simpa using this

theorem col_ok {S : SeaV} (hS : S.Ok) {c : Int} (h0 : 0 ≤ c) (h1 : c ≤ 1000) : 0 ≤ col S c ∧ col S c ≤ 1000 := by
  unfold col
  have hw := hS.wide
  have := Int.emod_nonneg c (show S.wide ≠ 0 by omega)
  have := Int.emod_lt_of_pos c (show 0 < S.wide by omega)
  omega
theorem row_ok {S : SeaV} (hS : S.Ok) {c : Int} (h0 : 0 ≤ c) (h1 : c ≤ 1000) : 0 ≤ row S c ∧ row S c ≤ 1000 := by
  unfold row
  have hw := hS.wide
  have := Int.ediv_nonneg h0 (show 0 ≤ S.wide by omega)
  have := Int.ediv_le_self S.wide h0
  omega

/-- Of how many reports the place is no place that they tell of. -/
def untrueN (S : SeaV) (rs : List Rep) (h : Nat) (x y : Int) : Nat := (ofHour rs h).countP fun r => !repTrue r (col S r.cell) (row S r.cell) x y

theorem countP_take {α : Type} (p : α → Bool) (l : List α) (k : Nat) (h : k < l.length) : (l.take (k + 1)).countP p = (l.take k).countP p + if p l[k] then 1 else 0 := by
  rw [List.take_succ_eq_append_getElem h, List.countP_append]
  simp [List.countP_cons]

set_option maxHeartbeats 1000000 in
theorem untrue_any (b : Nat) (S : SeaV) (hS : S.Ok) (hrs : Nat) (rs : List Rep) (h : Nat) (hh : h < hrs) (x y : Int) (hx : -1000 ≤ x ∧ x ≤ 1000) (hy : -1000 ≤ y ∧ y ≤ 1000) (w : World) (hs : SeaAt w b S) (ha : AskedAt w S hrs rs)
    (hr : ∀ r ∈ rs, 0 ≤ r.cell ∧ r.cell ≤ 1000) (h24 : rs.length ≤ 24) (h12 : hrs ≤ 12) :
    Cal 49 #[.pointer (some ⟨b, 0, none⟩), .int .i64 h, .agg #[.int .i64 x, .int .i64 y]] w fun e w' => e = .returned (.int .i64 (untrueN S rs h x y)) ∧ Ext w w' := by
  gi_enter Try.func49, Try.ntmps49
  obtain ⟨ba, vs, hask, hvl, hvb, hvr⟩ := ha
  have hx1 : Ext w (w.alloc (.cells #[.int .i64 x, .int .i64 y] 81)) := (Ext.refl w).alloc _
  have hc := (hs.mono hx1).cells
  rw [hask] at hc
  have hhv : h < vs.length := by omega
  obtain ⟨a, cap, hve, hcells⟩ := (hvr h hhv).shape
  have hca : (w.alloc (.cells #[.int .i64 x, .int .i64 y] 81)).cell? ⟨ba, h, none⟩ = some (.slice a (ofHour rs h).length cap) := by
    rw [cell_of (hx1.block hvb), ← hve]; simp [hhv]
  have hbox : (w.alloc (.cells #[.int .i64 x, .int .i64 y] 81)).heap[w.heap.size]? = some (.cells #[.int .i64 x, .int .i64 y] 81 (0, 0)) := Ext.new (Ext.refl _)
  have hlen : (ofHour rs h).length ≤ 24 := Nat.le_trans (List.length_filter_le _ _) h24
  have HR : Hid (∀ r ∈ ofHour rs h, 0 ≤ r.cell ∧ r.cell ≤ 1000) := fun r hm => hr r (List.mem_filter.1 hm).1
  have HC := hid hcells
  have HB := hid hbox
  have HX := hid hx1
  have HG : Hid (untrueN S rs h x y = (ofHour rs h).countP fun r => !repTrue r (col S r.cell) (row S r.cell) x y) := rfl
  clear hs hvb hvr hve hcells hr hbox hx1 hask
  generalize ofHour rs h = l at *
  gi_wp2_with fail
  clear hc hca
  gi_loopw [7, 18] (fun m i wr => ∃ k : Nat, k ≤ l.length ∧ i = .int .i64 k ∧ m = .int .i64 ((l.take k).countP fun r => !repTrue r (col S r.cell) (row S r.cell) x y : Nat) ∧ Ext (w.alloc (.cells #[.int .i64 x, .int .i64 y] 81)) wr) (fun _ i _ => l.length - (intOf i).toNat)
  case atStart => exact ⟨0, Nat.zero_le _, rfl, rfl, Ext.refl _⟩
  case round =>
    obtain ⟨k, hk, rfl, rfl, hE⟩ := hrel
    have hcount : (l.take k).countP (fun r => !repTrue r (col S r.cell) (row S r.cell) x y) ≤ k := Nat.le_trans List.countP_le_length (List.length_take_le _ _)
    by_cases hlt : k < l.length
    · obtain ⟨g, rfl, hg, hcg⟩ := HC.out k (by simpa using hlt)
      have hcw : wr.cell? ⟨g, k, none⟩ = some (.func (.func 97) #[.agg #[.int .i64 l[k].hour, .int .i64 l[k].cell, .int .i64 l[k].far, .bool l[k].there, .int .i64 (col S l[k].cell), .int .i64 (row S l[k].cell)]] #[]) := by
        rw [(HX.out.trans hE).cell (p := ⟨g, k, none⟩) hg, hcg, List.getElem_map]; rfl
      have hbx := cell_of (Ext.block hE HB.out)
      have HT := hid (countP_take (fun r => !repTrue r (col S r.cell) (row S r.cell) x y) l k hlt)
      have hrk := HR.out l[k] (List.getElem_mem _)
      have HI := hid (isTrue_any l[k] (col S l[k].cell) (row S l[k].cell) x y wr (by have := col_ok hS hrk.1 hrk.2; omega) (by have := row_ok hS hrk.1 hrk.2; omega) hx hy)
      unfold repVal at HI
      clear hcg hrk
      generalize repTrue l[k] (col S l[k].cell) (row S l[k].cell) x y = bb at HI HT
      generalize col S l[k].cell = cc at *
      generalize row S l[k].cell = cr at *
      cases bb with
      | true =>
        gi_wp2_with (gi_at_call 97; ((with_reducible refine HI.out.mono ?_); rintro e w1 ⟨rfl, hx1⟩))
        go_roundw
        case rel => exact ⟨k + 1, by omega, by go_num, by rw [HT.out]; rfl, hE.trans hx1⟩
        case measure => simp [intOf]; omega
      | false =>
        gi_wp2_with (gi_at_call 97; ((with_reducible refine HI.out.mono ?_); rintro e w1 ⟨rfl, hx1⟩))
        go_roundw
        case rel => exact ⟨k + 1, by omega, by go_num, by rw [HT.out]; rfl, hE.trans hx1⟩
        case measure => simp [intOf]; omega
    · obtain rfl : k = l.length := by omega
      have HE := hid (HX.out.trans hE)
      rw [List.take_length] at hcount ⊢
      rw [← HG.out] at hcount ⊢
      clear hE
      gi_wp2
      go_ret
      exact ⟨rfl, HE.out⟩
end Go.Proofs.Ytiklblbjnblkfaa
