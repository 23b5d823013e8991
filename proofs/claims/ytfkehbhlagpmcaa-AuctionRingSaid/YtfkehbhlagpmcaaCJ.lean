/- A sale without a buyer. -/
import Derived.Test.YtfkehbhlagpmcaaCG
set_option linter.unusedSimpArgs false
set_option linter.unusedVariables false
namespace Go.Proofs.Ytfkehbhlagpmcaa
open Go Go.RowKit Go.Shelf
open Au
theorem lists_cells {w : World} {a : Option Addr} {n cap : Nat} {ls : List (List Int)} (h : ListsAt w (.slice a n cap) ls) (h0 : 0 < ls.length) : n = ls.length ∧ ∃ b off, ∃ us : List Value, a = some ⟨b, off, none⟩ ∧ b < w.heap.size ∧ us.length = ls.length ∧ (∀ j u, us[j]? = some u → w.cell? ((⟨b, off, none⟩ : Addr).add j) = some u) ∧ (∀ u ∈ us, u.oneCell' = true) ∧ ∀ i (h : i < ls.length), ∃ u, us[i]? = some u ∧ IntsAt w u ls[i] := by
  obtain ⟨a', cap', e, hl, hc⟩ := h
  cases e
  refine ⟨rfl, ?_⟩
  obtain ⟨b, off, u0, ha, hb, _, _⟩ := hc 0 h0
  subst ha
  have hx : ∀ k, k ≤ ls.length → ∃ us : List Value, us.length = k ∧ (∀ j u, us[j]? = some u → w.cell? ((⟨b, off, none⟩ : Addr).add j) = some u) ∧ (∀ u ∈ us, u.oneCell' = true) ∧ ∀ i (h : i < ls.length), i < k → ∃ u, us[i]? = some u ∧ IntsAt w u ls[i] := by
    intro k
    induction k with
    | zero => intro _; exact ⟨[], rfl, fun j u h => by simp at h, fun u h => (by cases h), fun i _ h => absurd h (by omega)⟩
    | succ k ih =>
      intro hk
      obtain ⟨us, h1, h2, h3, h4⟩ := ih (by omega)
      obtain ⟨b', off', u, e, _, hcell, hu⟩ := hc k (by omega)
      cases e
      refine ⟨us ++ [u], by simp [h1], fun j x hj => ?_, fun x hx => ?_, fun i hi hik => ?_⟩
      · rw [List.getElem?_append] at hj
        split at hj
        · exact h2 j x hj
        · have hj2 : j = k := by
            have := (List.getElem?_eq_some_iff.1 hj).1
            simp at this; omega
          subst hj2
          rw [h1] at hj
          simp at hj
          subst hj
          rw [Addr.add_mid]; exact hcell
      · rcases List.mem_append.1 hx with h | h
        · exact h3 x h
        · rw [List.mem_singleton] at h; subst h
          obtain ⟨a', c', rfl, _⟩ := hu
          rfl
      · by_cases hik2 : i < k
        · obtain ⟨y, hy1, hy2⟩ := h4 i hi hik2
          exact ⟨y, by rw [List.getElem?_append_left (by omega)]; exact hy1, hy2⟩
        · have : i = k := by omega
          subst this
          exact ⟨u, by rw [List.getElem?_append_right (by omega), h1]; simp, hu⟩
  obtain ⟨us, h1, h2, h3, h4⟩ := hx ls.length (Nat.le_refl _)
  exact ⟨b, off, us, rfl, hb, h1, h2, h3, fun i hi => h4 i hi hi⟩
theorem eqlNil (a : Option Addr) (n c : Nat) (w : World) : (binOp .eql 22 (.slice a n c) (.slice none 0 0)).run Try.prog w = .ok (.bool a.isNone) w := by
  have h : ∀ d, (Op.equalIn (d + 1) 22 (.slice a n c) (.slice none 0 0)).run Try.prog w = .ok a.isNone w := fun d => by
    cases a <;> simp [Op.equalIn, run_underlying Try.underlying22]
  simp only [binOp]
  simp only [Op.equal]
  rw [show Op.maxDepth = 9999 + 1 from rfl]
  simp [h]
theorem info35 : (Try.prog.info? 35).map (fun i => (i.zero, i.size, i.bytes)) = some (some (.slice none 0 0), 1, 24) := by kernel_rfl
set_option maxRecDepth 100000 in
set_option maxHeartbeats 2000000 in
theorem clone_any (v : Value) (ls : List (List Int)) (w0 w : World) (hx0 : Ext w0 w) (hv : ListsAt w0 v ls) (h0 : 0 < ls.length ∧ ls.length ≤ 1000) :
    Cal 97 #[v] w fun e w' => ∃ r us, e = .returned r ∧ Ext w w' ∧ Row w' 35 1 r ls.length us ∧ (∀ i (h : i < ls.length), ∃ u, us[i]? = some u ∧ IntsAt w0 u ls[i]) ∧ ∀ g, r.ownBlock = some g → w.heap.size ≤ g := by
  obtain ⟨a, cap, rfl, ⟨hcap, hlen⟩, hc⟩ := id hv
  obtain ⟨_, b, off, us, rfl, hb, h1, h2, h3, h4⟩ := lists_cells hv h0.1
  have hx : Ext w (w.alloc (.cells #[] 35)) := (Ext.refl _).alloc _
  obtain ⟨i, hi, hz0, hz1, hz2⟩ := info_parts info35
  obtain ⟨r, w', hrun, hrow, hgr, how⟩ := append_rows (sz := 1) (bytes := 24) (t := 22) (ty := 22) Try.underlying22 hi hz0 hz1 hz2 (by simp [Value.cells]) (by omega) h0.1 (row_empty w 35 1) ⟨b, off, none⟩ cap us (by rw [h1, Nat.mul_one]) (fun j u hj => by
    have := h2 j u hj
    rw [Addr.add_mid] at this ⊢
    rw [(hx0.trans hx).cell (p := ⟨b, off + j, none⟩) hb]; exact this) h3 (by omega) (by omega)
  rw [Nat.zero_add, List.nil_append] at hrow
  have HR := hid (And.intro hrow (And.intro h4 (And.intro (ext_grown hx hgr fun g hg => by cases hg; exact Nat.le_refl _) (show ∀ g, r.ownBlock = some g → w.heap.size ≤ g from fun g hg => by
    rcases how with e | e
    · rw [hg] at e; cases e; exact Nat.le_refl _
    · rw [hg] at e; cases e; simp))))
  have HRUN := hid hrun
  clear hrun hrow hgr how h1 h2 h3 h4 hc hv hi hz0 hz1 hz2 hx
  have hq := fun (n : Nat) => eqlNil (some ⟨b, off, none⟩) n cap w
  gi_enter Try.func97, Try.ntmps97
  gi_wp2_with (refine wpIn_append_at (fun _ => trivial) rfl (w.alloc (.cells #[] 35)) (.tmp 5) (.tmp 6) 22 rfl (by with_reducible rfl) HRUN.out rfl rfl rfl ?_)
  go_ret
  exact ⟨_, rfl, HR.out.2.2.1, us, HR.out.1, HR.out.2.1, HR.out.2.2.2⟩
theorem row_blk {w : World} {T : TypeId} {sz n : Nat} {v : Value} {xs : List Value} (h : Row w T sz v n xs) (hn : 0 < n) : ∃ g cap, ∃ cur : Array Value, v = .slice (some ⟨g, 0, none⟩) n cap ∧ w.heap[g]? = some (.cells cur T (0, 0)) ∧ n ≤ cap ∧ (∀ i, i < n * sz → cur[i]? = xs[i]?) := by
  rcases h.2 with ⟨_, h0⟩ | ⟨g, cap, cur, rfl, hg, h1, _, _, h4⟩
  · omega
  · refine ⟨g, cap, cur, rfl, hg, h1, fun i hi => ?_⟩
    rw [← h4, List.getElem?_take, if_pos hi, Array.getElem?_toList]
theorem lists_set {w W : World} {g cap : Nat} {cur : Array Value} {ls : List (List Int)} {us : List Value} {i : Nat} (hx : Ext w W) (hg : W.heap[g]? = some (.cells (cur.setIfInBounds i (.slice none 0 0)) 35 (0, 0)))
    (hcur : ∀ j, j < ls.length → cur[j]? = us[j]?) (hus : ∀ j (h : j < ls.length), ∃ u, us[j]? = some u ∧ IntsAt w u ls[j]) (hl : ls.length ≤ cap ∧ ls.length ≤ 1000) :
    ListsAt W (.slice (some ⟨g, 0, none⟩) ls.length cap) (ls.set i []) := by
  refine ⟨_, cap, by rw [List.length_set], by rw [List.length_set]; omega, fun j hj => ?_⟩
  rw [List.length_set] at hj
  obtain ⟨u, h1, h2⟩ := hus j hj
  rw [← hcur j hj] at h1
  have hjs : j < cur.size := (Array.getElem?_eq_some_iff.1 h1).1
  by_cases hij : i = j
  · subst hij
    refine ⟨g, 0, .slice none 0 0, rfl, lt_of_block hg, ?_, ?_⟩
    · rw [cell_of hg, Nat.zero_add, Array.getElem?_setIfInBounds_self_of_lt hjs]
    · rw [List.getElem_set_self]
      exact ⟨none, 0, rfl, by simp, fun k hk => by simp at hk⟩
  · refine ⟨g, 0, u, rfl, lt_of_block hg, ?_, ?_⟩
    · rw [cell_of hg, Nat.zero_add, Array.getElem?_setIfInBounds_ne hij]; exact h1
    · rw [List.getElem_set_ne hij]; exact h2.mono hx
set_option maxRecDepth 100000 in
set_option maxHeartbeats 4000000 in
theorem without_any (v : Value) (s : Sal) (i : Nat) (w : World) (hv : ListsAt w v s.offers) (ho : Ok s) (hi : i < s.offers.length) :
    Cal 94 #[saleW s v, .int .i64 (i : Int)] w fun e w' => ∃ r, e = .returned (saleW (without s i) r) ∧ Ext w w' ∧ ListsAt w' r (without s i).offers := by
  have hn := ho.n
  have HC := hid (fun (u : World) (hu : Ext w u) => clone_any v s.offers w u hu hv (by omega))
  have hwo : (without s i).offers = s.offers.set i [] := rfl
  have hwc : (without s i).crans = s.crans := rfl
  have hwl : (without s i).least = s.least := rfl
  unfold saleW
  rw [hwo, hwc, hwl]
  obtain ⟨a, cap, rfl, ⟨hcap, hlen⟩, _⟩ := hv
  generalize s.crans = cr at *
  generalize s.least = le at *
  generalize s.offers = ls at *
  clear ho hwo hwc hwl
  gi_enter Try.func94, Try.ntmps94
  gi_wp2_with (gi_at_call 97; ((with_reducible refine (HC.out _ (((Ext.refl _).alloc _).alloc _)).mono ?_); rintro e w1 ⟨r, us, rfl, hx1, hrow, hus, hown⟩; obtain ⟨g, cap', cur, rfl, hg, hcap', hcur⟩ := row_blk hrow (by omega); have hgg : w.heap.size + 2 ≤ g := (by have := hown g rfl; simp only [World.size_alloc] at this; omega); have hi' : i < ls.length := hi; obtain ⟨u0, hu0, hu1⟩ := hus i hi'; have hcu := hcur i (by omega); rw [hu0] at hcu; obtain ⟨a0, c0, rfl, _⟩ := hu1; have cg := cell_of hg i; rw [hcu] at cg; have fg := free_of hg; have HX := hid ((((Ext.refl w).alloc _).alloc _).trans hx1); have hb1 := hx1.block two_new; have hb2 := hx1.block (Ext.new (Ext.refl _)); rw [World.size_alloc] at hb2; have c1 := cell_of hb1; have f1 := free_of hb1; have c2 := cell_of hb2; have f2 := free_of hb2; have HB := hid (And.intro hb1 hb2); have hn1 : g ≠ w.heap.size := (by omega); have HG := hid hg; have HU := hid (And.intro hus hcur); clear hrow hus hown hx1 hb1 hb2 hg hcur hu0 hcu))
  have d1 := HB.out.2
  have d2 := HG.out
  rw [← set_other (w := w1) (g := w.heap.size) (k := w.heap.size + 1) (by omega) 2 (.slice (some ⟨g, 0, none⟩) ls.length cap')] at d1
  rw [← set_other (w := w1) (g := w.heap.size) (k := g) hn1 2 (.slice (some ⟨g, 0, none⟩) ls.length cap')] at d2
  have x0 := HX.out.set (Nat.le_refl _) 2 (.slice (some ⟨g, 0, none⟩) ls.length cap')
  generalize hw2 : w1.setCell ⟨w.heap.size, 2, none⟩ (.slice (some ⟨g, 0, none⟩) ls.length cap') = w2 at *
  clear hw2 HB HG c1 f1 c2 f2 cg fg HX
  have d3 := set_same d2 i (.slice none 0 0)
  rw [← set_other (w := w2) (g := g) (k := w.heap.size + 1) (by omega) i (.slice none 0 0)] at d1
  have x1 := x0.set (b := g) (by omega) i (.slice none 0 0)
  generalize w2.setCell ⟨g, i, none⟩ (.slice none 0 0) = w3 at *
  clear d2 x0
  have e1 := set_same d1 0 (.int .i64 cr)
  have e2 := set_same e1 1 (.int .i64 le)
  have e3 := set_same e2 2 (.slice (some ⟨g, 0, none⟩) ls.length cap')
  have e4 := set_same e3 3 (fnV 68)
  simp only [List.setIfInBounds_toArray, List.set_cons_succ, List.set_cons_zero] at e4
  have y1 := ((x1.set (b := w.heap.size + 1) (by omega) 0 (.int .i64 cr)).set (b := w.heap.size + 1) (by omega) 1 (.int .i64 le)).set (b := w.heap.size + 1) (by omega) 2 (.slice (some ⟨g, 0, none⟩) ls.length cap')
  have y2 := y1.set (b := w.heap.size + 1) (by omega) 3 (fnV 68)
  rw [← set_other (w := w3) (g := w.heap.size + 1) (by omega) 0 (.int .i64 cr), ← set_other (g := w.heap.size + 1) (by omega) 1 (.int .i64 le), ← set_other (g := w.heap.size + 1) (by omega) 2 (.slice (some ⟨g, 0, none⟩) ls.length cap'), ← set_other (g := w.heap.size + 1) (by omega) 3 (fnV 68)] at d3
  have c4 := cell_of e4
  have HL := hid (lists_set (w := w) (us := us) (cap := cap') (ls := ls) (i := i) y2 d3 (fun j hj => HU.out.2 j (by omega)) HU.out.1 (by omega))
  have HY := hid y2
  clear e1 e2 e3 e4 d1 d3 x1 y1 y2 HU
  refine bodyPost_ret (v := .agg #[.int .i64 cr, .int .i64 le, .slice (some ⟨g, 0, none⟩) ls.length cap', fnV 68]) (by simp [results, Try.results94, go_sem, c4]) rfl ⟨_, rfl, HY.out, HL.out⟩

end Go.Proofs.Ytfkehbhlagpmcaa
