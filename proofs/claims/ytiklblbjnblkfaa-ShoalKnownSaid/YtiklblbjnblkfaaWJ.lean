/- How many places a cast leaves at worst; the casts with their places. -/
import Derived.Test.YtiklblbjnblkfaaWI
set_option linter.unusedSimpArgs false
set_option linter.unusedVariables false
namespace Go.Proofs.Ytiklblbjnblkfaa
open Go Go.RowKit Go.Shelf

theorem greatest_one (g : Nat) (x z : Int) (w : World) (hg : w.heap[g]? = some (.cells #[.int .i64 z] 3 (0, 0))) :
    Cal 95 #[.int .i64 x, .slice (some ⟨g, 0, none⟩) 1 1] w fun e w' => e = .returned (.int .i64 (maxL x [z])) ∧ w = w' :=
  greatest_any x g 0 1 [z] w (by simp) fun i h => by
    have : i = 0 := by simpa using h
    subst this
    rw [cell_of hg]; rfl

def worstOf (cc cr far : Int) (ps : List (Int × Int)) : Int := maxL ((leftOf cc cr far ps).length : Int) [(ps.length : Int) - (leftOf cc cr far ps).length]

set_option maxHeartbeats 1000000 in
theorem worst_any (cell far cc cr : Int) (v : Value) (ps : List (Int × Int)) (w : World) (hp : PlacesAt w v ps) (hc : -1000 ≤ cc ∧ cc ≤ 1000) (hr : -1000 ≤ cr ∧ cr ≤ 1000) (hb : ∀ p ∈ ps, (-1000 ≤ p.1 ∧ p.1 ≤ 1000) ∧ (-1000 ≤ p.2 ∧ p.2 ≤ 1000)) :
    Cal 67 #[.agg #[.int .i64 cell, .int .i64 far, .int .i64 cc, .int .i64 cr], v] w fun e w' => e = .returned (.int .i64 (worstOf cc cr far ps)) ∧ Ext w w' := by
  gi_enter Try.func67, Try.ntmps67
  have hx1 : Ext w (w.alloc (.cells #[.int .i64 cell, .int .i64 far, .int .i64 cc, .int .i64 cr] 104)) := (Ext.refl w).alloc _
  have HW := hid (without_any cell far cc cr v ps _ (hp.mono hx1) hc hr hb)
  obtain ⟨a, cap, rfl, hlen, _⟩ := hp
  have hll : (leftOf cc cr far ps).length ≤ ps.length := List.length_filter_le _ _
  have HG : Hid (worstOf cc cr far ps = maxL ((leftOf cc cr far ps).length : Int) [(ps.length : Int) - (leftOf cc cr far ps).length]) := rfl
  clear hx1 hb
  gi_wp2_with (first | (gi_at_call 93; ((with_reducible refine HW.out.mono ?_); rintro e w1 ⟨v', rfl, hx2, hrow⟩; obtain ⟨sa, scap, hve⟩ : ∃ sa scap, v' = .slice sa (leftOf cc cr far ps).length scap := (by obtain ⟨_, h⟩ := hrow.out; rcases h with ⟨h, h0⟩ | ⟨g, cap, cur, h, _⟩; (exact ⟨none, 0, by rw [h, h0]⟩); (exact ⟨_, _, h⟩)); subst hve; clear hrow)) | (gi_at_call 95; ((with_reducible refine (greatest_one _ _ _ _ (Ext.new (Ext.refl _))).mono ?_); rintro e w2 ⟨rfl, rfl⟩)))
  go_ret
  exact ⟨by rw [HG.out]; rfl, (Ext.after hx2).alloc _⟩
end Go.Proofs.Ytiklblbjnblkfaa

namespace Go.Proofs.Ytiklblbjnblkfaa
open Go Go.RowKit Go.Shelf

/-- A chart: the sea, and three lists of counts. -/
def chartVal (b g1 g2 g3 n : Nat) : Value := .agg #[.pointer (some ⟨b, 0, none⟩), .slice (some ⟨g1, 0, none⟩) n n, .slice (some ⟨g2, 0, none⟩) n n, .slice (some ⟨g3, 0, none⟩) n n]
def rowMin (f : Nat → Int) : Int := minL 25 ((List.range 80).map f)
theorem least_row {w : World} {g n : Nat} {fs : Nat → Nat → Int} (hR : RowsBlk w g n fs) (h : 0 < n) (cap : Nat) :
    Cal 87 #[.int .i64 25, .slice (some ⟨g, 0, none⟩) 80 cap] w fun e w' => e = .returned (.int .i64 (rowMin (fs 0))) ∧ w = w' := by
  unfold rowMin
  have := least_any 25 g 0 cap ((List.range 80).map (fs 0)) w (by simp) (fun i hi => by
    have hi80 : i < 80 := by simpa using hi
    have := hR.cell 0 i h hi80
    rw [show 0 * 80 + i = 0 + i by omega] at this
    rw [this]; simp)
  rw [List.length_map, List.length_range] at this
  exact this

set_option maxHeartbeats 1000000 in
theorem fewest_any (b g1 g2 g3 n : Nat) (fs : Nat → Nat → Int) (w : World) (hR : RowsBlk w g3 n fs) (h : 0 < n) (hn : n ≤ 100) :
    Cal 57 #[chartVal b g1 g2 g3 n] w fun e w' => e = .returned (.int .i64 (rowMin (fs 0))) ∧ Ext w w' := by
  unfold chartVal
  gi_enter Try.func57, Try.ntmps57
  have hx1 : Ext w (w.alloc (.cells #[.pointer (some ⟨b, 0, none⟩), .slice (some ⟨g1, 0, none⟩) n n, .slice (some ⟨g2, 0, none⟩) n n, .slice (some ⟨g3, 0, none⟩) n n] 90)) := (Ext.refl w).alloc _
  have HL := hid (least_row (hR.mono hx1) h 80)
  have HX := hid hx1
  clear hR hx1
  gi_wp2_with (gi_at_call 87; ((with_reducible refine HL.out.mono ?_); rintro e w1 ⟨rfl, rfl⟩))
  go_ret
  exact ⟨rfl, HX.out⟩

def throughOf (own up from_ : Nat → Nat → Int) (h c : Nat) : Int := minL 25 [up h c + from_ h c - own h c]

set_option maxRecDepth 100000 in
set_option maxHeartbeats 2000000 in
theorem through_any (b g1 g2 g3 n : Nat) (own up from_ : Nat → Nat → Int) (w : World) (h1 : RowsBlk w g1 n own) (h2 : RowsBlk w g2 n up) (h3 : RowsBlk w g3 n from_) (h c : Nat) (hh : h < n) (hc : c < 80) (hn : n ≤ 100)
    (b1 : 0 ≤ own h c ∧ own h c ≤ 1000) (b2 : 0 ≤ up h c ∧ up h c ≤ 1000) (b3 : 0 ≤ from_ h c ∧ from_ h c ≤ 1000) :
    Cal 89 #[chartVal b g1 g2 g3 n, .int .i64 h, .int .i64 c] w fun e w' => e = .returned (.int .i64 (throughOf own up from_ h c)) ∧ Ext w w' := by
  unfold chartVal
  gi_enter Try.func89, Try.ntmps89
  gi_wp2_with fail
  have hx1 : Ext w (w.alloc (.cells #[.pointer (some ⟨b, 0, none⟩), .slice (some ⟨g1, 0, none⟩) n n, .slice (some ⟨g2, 0, none⟩) n n, .slice (some ⟨g3, 0, none⟩) n n] 90)) := (Ext.refl w).alloc _
  have hnew : (w.alloc (.cells #[.pointer (some ⟨b, 0, none⟩), .slice (some ⟨g1, 0, none⟩) n n, .slice (some ⟨g2, 0, none⟩) n n, .slice (some ⟨g3, 0, none⟩) n n] 90)).heap[w.heap.size]? = some (.cells #[.pointer (some ⟨b, 0, none⟩), .slice (some ⟨g1, 0, none⟩) n n, .slice (some ⟨g2, 0, none⟩) n n, .slice (some ⟨g3, 0, none⟩) n n] 90 (0, 0)) := Ext.new (Ext.refl _)
  generalize w.alloc (.cells #[.pointer (some ⟨b, 0, none⟩), .slice (some ⟨g1, 0, none⟩) n n, .slice (some ⟨g2, 0, none⟩) n n, .slice (some ⟨g3, 0, none⟩) n n] 90) = w1 at hx1 hnew ⊢
  have HG : Hid (∀ u, Ext w1 u → (∀ o : Nat, u.cell? ⟨w.heap.size, o, none⟩ = #[.pointer (some ⟨b, 0, none⟩), .slice (some ⟨g1, 0, none⟩) n n, .slice (some ⟨g2, 0, none⟩) n n, .slice (some ⟨g3, 0, none⟩) n n][o]?) ∧
      u.cell? ⟨g1, h * 80 + c, none⟩ = some (.int .i64 (own h c)) ∧ u.cell? ⟨g2, h * 80 + c, none⟩ = some (.int .i64 (up h c)) ∧ u.cell? ⟨g3, h * 80 + c, none⟩ = some (.int .i64 (from_ h c))) := fun u hu =>
    ⟨cell_of (hu.block hnew), (h1.mono (hx1.trans hu)).cell h c hh hc, (h2.mono (hx1.trans hu)).cell h c hh hc, (h3.mono (hx1.trans hu)).cell h c hh hc⟩
  have HX := hid hx1
  have HT : Hid (throughOf own up from_ h c = minL 25 [up h c + from_ h c - own h c]) := rfl
  have hci : (c : Int) < 80 := by omega
  clear h1 h2 h3 hx1 hnew
  generalize own h c = oo at *
  generalize up h c = uu at *
  generalize from_ h c = ff at *
  have hw1 : IntKind.i64.wrap (uu + ff) = uu + ff := by rw [IntKind.wrap_i64]; omega
  have hw2 : IntKind.i64.wrap (uu + ff - oo) = uu + ff - oo := by rw [IntKind.wrap_i64]; omega
  refine lex_wide 25 [(23, oneRow w1.heap.size (uu + ff - oo))] (by kernel_rfl) (by kernel_rfl) oneRow_stab ?_
  simp only [List.take_succ_cons, List.take_zero, List.drop_succ_cons, List.drop_zero]
  apply lex_fun rfl
  · intro x u hR hf
    obtain ⟨q1, q2, q3, q4⟩ := HG.out u hR
    clear hR hf
    go_simp
    exact ⟨rfl, Ext.refl _⟩
  simp only [Act.put, List.setIfInBounds_toArray, List.set_cons_succ, List.set_cons_zero]
  apply lex_fun rfl
  · intro x u hR hf
    obtain ⟨q1, q2, q3, q4⟩ := HG.out u hR
    clear hR hf
    go_simp
    exact ⟨rfl, Ext.refl _⟩
  simp only [Act.put, List.setIfInBounds_toArray, List.set_cons_succ, List.set_cons_zero]
  apply lex_fun rfl
  · intro x u hR hf
    obtain ⟨q1, q2, q3, q4⟩ := HG.out u hR
    clear hR hf
    go_simp
    exact ⟨rfl, Ext.refl _⟩
  simp only [Act.put, List.setIfInBounds_toArray, List.set_cons_succ, List.set_cons_zero]
  apply lex_fun rfl
  · intro x u hR hf
    obtain ⟨q1, q2, q3, q4⟩ := HG.out u hR
    clear hR hf
    go_simp
    exact ⟨rfl, Ext.refl _⟩
  simp only [Act.put, List.setIfInBounds_toArray, List.set_cons_succ, List.set_cons_zero]
  apply lex_fun rfl
  · intro x u hR hf
    obtain ⟨q1, q2, q3, q4⟩ := HG.out u hR
    clear hR hf
    go_simp
    exact ⟨rfl, Ext.refl _⟩
  simp only [Act.put, List.setIfInBounds_toArray, List.set_cons_succ, List.set_cons_zero]
  apply lex_fun rfl
  · intro x u hR hf
    obtain ⟨q1, q2, q3, q4⟩ := HG.out u hR
    clear hR hf
    go_simp
    exact ⟨rfl, Ext.refl _⟩
  simp only [Act.put, List.setIfInBounds_toArray, List.set_cons_succ, List.set_cons_zero]
  apply lex_fun rfl
  · intro x u hR hf
    obtain ⟨q1, q2, q3, q4⟩ := HG.out u hR
    clear hR hf
    go_simp
    exact ⟨rfl, Ext.refl _⟩
  simp only [Act.put, List.setIfInBounds_toArray, List.set_cons_succ, List.set_cons_zero]
  apply lex_fun rfl
  · intro x u hR hf
    obtain ⟨q1, q2, q3, q4⟩ := HG.out u hR
    clear hR hf
    go_simp
    exact ⟨rfl, Ext.refl _⟩
  simp only [Act.put, List.setIfInBounds_toArray, List.set_cons_succ, List.set_cons_zero]
  apply lex_fun rfl
  · intro x u hR hf
    obtain ⟨q1, q2, q3, q4⟩ := HG.out u hR
    clear hR hf
    go_simp
    exact ⟨rfl, Ext.refl _⟩
  simp only [Act.put, List.setIfInBounds_toArray, List.set_cons_succ, List.set_cons_zero]
  apply lex_fun rfl
  · intro x u hR hf
    obtain ⟨q1, q2, q3, q4⟩ := HG.out u hR
    clear hR hf
    go_simp
    exact ⟨rfl, Ext.refl _⟩
  simp only [Act.put, List.setIfInBounds_toArray, List.set_cons_succ, List.set_cons_zero]
  apply lex_fun rfl
  · intro x u hR hf
    obtain ⟨q1, q2, q3, q4⟩ := HG.out u hR
    clear hR hf
    go_simp
    exact ⟨rfl, Ext.refl _⟩
  simp only [Act.put, List.setIfInBounds_toArray, List.set_cons_succ, List.set_cons_zero]
  apply lex_fun rfl
  · intro x u hR hf
    obtain ⟨q1, q2, q3, q4⟩ := HG.out u hR
    clear hR hf
    go_simp
    exact ⟨rfl, Ext.refl _⟩
  simp only [Act.put, List.setIfInBounds_toArray, List.set_cons_succ, List.set_cons_zero]
  apply lex_fun rfl
  · intro x u hR hf
    obtain ⟨q1, q2, q3, q4⟩ := HG.out u hR
    clear hR hf
    go_simp
    exact ⟨rfl, Ext.refl _⟩
  simp only [Act.put, List.setIfInBounds_toArray, List.set_cons_succ, List.set_cons_zero]
  apply lex_fun rfl
  · intro x u hR hf
    obtain ⟨q1, q2, q3, q4⟩ := HG.out u hR
    clear hR hf
    go_simp
    exact ⟨rfl, Ext.refl _⟩
  simp only [Act.put, List.setIfInBounds_toArray, List.set_cons_succ, List.set_cons_zero]
  apply lex_fun rfl
  · intro x u hR hf
    obtain ⟨q1, q2, q3, q4⟩ := HG.out u hR
    clear hR hf
    go_simp
    exact ⟨rfl, Ext.refl _⟩
  simp only [Act.put, List.setIfInBounds_toArray, List.set_cons_succ, List.set_cons_zero]
  apply lex_fun rfl
  · intro x u hR hf
    obtain ⟨q1, q2, q3, q4⟩ := HG.out u hR
    clear hR hf
    go_simp
    exact ⟨rfl, Ext.refl _⟩
  simp only [Act.put, List.setIfInBounds_toArray, List.set_cons_succ, List.set_cons_zero]
  apply lex_fun rfl
  · intro x u hR hf
    obtain ⟨q1, q2, q3, q4⟩ := HG.out u hR
    clear hR hf
    go_simp
    exact ⟨rfl, Ext.refl _⟩
  simp only [Act.put, List.setIfInBounds_toArray, List.set_cons_succ, List.set_cons_zero]
  apply lex_fun rfl
  · intro x u hR hf
    obtain ⟨q1, q2, q3, q4⟩ := HG.out u hR
    clear hR hf
    go_simp
    exact ⟨rfl, Ext.refl _⟩
  simp only [Act.put, List.setIfInBounds_toArray, List.set_cons_succ, List.set_cons_zero]
  apply lex_fun rfl
  · intro x u hR hf
    obtain ⟨q1, q2, q3, q4⟩ := HG.out u hR
    clear hR hf
    go_simp
    exact ⟨rfl, Ext.refl _⟩
  simp only [Act.put, List.setIfInBounds_toArray, List.set_cons_succ, List.set_cons_zero]
  apply lex_fun rfl
  · intro x u hR hf
    obtain ⟨q1, q2, q3, q4⟩ := HG.out u hR
    clear hR hf
    go_simp
    exact ⟨rfl, Ext.refl _⟩
  simp only [Act.put, List.setIfInBounds_toArray, List.set_cons_succ, List.set_cons_zero]
  apply lex_fun rfl
  · intro x u hR hf
    obtain ⟨q1, q2, q3, q4⟩ := HG.out u hR
    clear hR hf
    go_simp
    exact ⟨rfl, Ext.refl _⟩
  simp only [Act.put, List.setIfInBounds_toArray, List.set_cons_succ, List.set_cons_zero]
  apply lex_fun rfl
  · intro x u hR hf
    obtain ⟨q1, q2, q3, q4⟩ := HG.out u hR
    clear hR hf
    go_simp
    exact ⟨rfl, Ext.refl _⟩
  simp only [Act.put, List.setIfInBounds_toArray, List.set_cons_succ, List.set_cons_zero]
  apply lex_fun rfl
  · intro x u hR hf
    obtain ⟨q1, q2, q3, q4⟩ := HG.out u hR
    clear hR hf
    go_simp
    exact ⟨rfl, Ext.refl _⟩
  simp only [Act.put, List.setIfInBounds_toArray, List.set_cons_succ, List.set_cons_zero]
  refine lex_pred rfl ?_ ?_
  · intro x u hR hf
    have hsu := hR.size
    clear hR hf
    go_simp
    exact ⟨⟨_, rfl, Ext.new (Ext.refl _), hsu⟩, (Ext.refl _).alloc _⟩
  simp only [Act.put, List.setIfInBounds_toArray, List.set_cons_succ, List.set_cons_zero]
  refine lex_fun (v := .int .i64 (minL 25 [uu + ff - oo])) rfl ?_ ?_
  · intro x u hR hf
    have h6 : oneRow w1.heap.size (uu + ff - oo) (x 23) u := hf.1 rfl
    obtain ⟨g, e6, hg, _⟩ := h6
    have hl1 := hid (least_any 25 g 0 1 [uu + ff - oo] u (by simp) fun i h => (by
      have : i = 0 := by simpa using h
      subst this
      rw [cell_of hg]; rfl))
    clear hR hf hg
    simp only [e6]
    clear e6
    go_simp
    exact hl1.out.mono fun e w'' he => ⟨_, he.1, rfl, he.2 ▸ Ext.refl _⟩
  simp only [Act.put, List.setIfInBounds_toArray, List.set_cons_succ, List.set_cons_zero]
  refine lex_nil fun x u hR hfacts => ?_
  clear hfacts
  generalize x 23 = x23
  have HXU := hid (HX.out.trans hR)
  clear hR HG
  gi_wp2
  go_ret
  exact ⟨by rw [HT.out]; rfl, HXU.out⟩
end Go.Proofs.Ytiklblbjnblkfaa
