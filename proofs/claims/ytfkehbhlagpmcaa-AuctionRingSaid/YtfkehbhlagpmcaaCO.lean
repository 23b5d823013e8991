/- What each buyer gets and pays. -/
import Derived.Test.YtfkehbhlagpmcaaCN
set_option linter.unusedSimpArgs false
set_option linter.unusedVariables false
namespace Go.Proofs.Ytfkehbhlagpmcaa
open Go Go.RowKit Go.Shelf
open Au
/-- Two arrays that are made and filled in any order: made by 8 and 9, filled by 10 and 11. -/
def twoA (w0 : World) (A B : Nat → Int) : InvJ := fun L x u => Ext w0 u ∧
  (L 8 = true → ∃ g, x 8 = .pointer (some ⟨g, 0, none⟩) ∧ w0.heap.size ≤ g ∧ (L 10 = false → u.heap[g]? = some (.cells (a8 zero8) 90 (0, 0))) ∧ (L 10 = true → u.heap[g]? = some (.cells (a8 A) 90 (0, 0)))) ∧
  (L 9 = true → ∃ g, x 9 = .pointer (some ⟨g, 0, none⟩) ∧ w0.heap.size ≤ g ∧ (L 11 = false → u.heap[g]? = some (.cells (a8 zero8) 90 (0, 0))) ∧ (L 11 = true → u.heap[g]? = some (.cells (a8 B) 90 (0, 0)))) ∧
  (L 8 = true → L 9 = true → x 8 ≠ x 9) ∧ (L 10 = true → L 8 = true) ∧ (L 11 = true → L 9 = true)
theorem twoA_start (w0 : World) (A B : Nat → Int) : twoA w0 A B (fun _ => false) (fun _ => undef) { w0 with drawn := w0.drawn + 1 } :=
  ⟨Ext.drawn _, (fun h => by cases h), (fun h => by cases h), (fun h => by cases h), (fun h => by cases h), fun h => by cases h⟩
section
variable {w0 u u' : World} {A B : Nat → Int} {L : Nat → Bool} {x : Nat → Value}
theorem twoA_ext (h : twoA w0 A B L x u) (hx : Ext u u') : twoA w0 A B L x u' :=
  ⟨h.1.trans hx, fun q => by obtain ⟨g, h1, h2, h3, h4⟩ := h.2.1 q; exact ⟨g, h1, h2, fun r => hx.block (h3 r), fun r => hx.block (h4 r)⟩,
    fun q => by obtain ⟨g, h1, h2, h3, h4⟩ := h.2.2.1 q; exact ⟨g, h1, h2, fun r => hx.block (h3 r), fun r => hx.block (h4 r)⟩, h.2.2.2⟩
theorem twoA_lt1 (h : twoA w0 A B L x u) (hL : L 8 = true) : ∃ g, x 8 = .pointer (some ⟨g, 0, none⟩) ∧ g < u.heap.size := by
  obtain ⟨g, h1, h2, h3, h4⟩ := h.2.1 hL
  cases q : L 10 with
  | false => exact ⟨g, h1, lt_of_block (h3 q)⟩
  | true => exact ⟨g, h1, lt_of_block (h4 q)⟩
theorem twoA_lt2 (h : twoA w0 A B L x u) (hL : L 9 = true) : ∃ g, x 9 = .pointer (some ⟨g, 0, none⟩) ∧ g < u.heap.size := by
  obtain ⟨g, h1, h2, h3, h4⟩ := h.2.2.1 hL
  cases q : L 11 with
  | false => exact ⟨g, h1, lt_of_block (h3 q)⟩
  | true => exact ⟨g, h1, lt_of_block (h4 q)⟩
theorem twoA_make1 (h : twoA w0 A B L x u) (hL : L 8 = false) : twoA w0 A B (updL L 8) (updX x 8 (.pointer (some ⟨u.heap.size, 0, none⟩))) (u.alloc (.cells (a8 zero8) 90)) := by
  have hx : Ext u (u.alloc (.cells (a8 zero8) 90)) := (Ext.refl _).alloc _
  have h10 : L 10 = false := by
    cases q : L 10 with
    | false => rfl
    | true => rw [h.2.2.2.2.1 q] at hL; cases hL
  refine ⟨h.1.trans hx, fun _ => ⟨u.heap.size, rfl, h.1.size, fun _ => Ext.new (Ext.refl _), fun q => ?_⟩, fun q => ?_, fun _ q e => ?_, fun q => rfl, h.2.2.2.2.2⟩
  · rw [show (updL L 8) 10 = L 10 from rfl, h10] at q; cases q
  · obtain ⟨g, h1, h2, h3, h4⟩ := h.2.2.1 q
    exact ⟨g, h1, h2, fun q => hx.block (h3 q), fun q => hx.block (h4 q)⟩
  · obtain ⟨g, h1, h2⟩ := twoA_lt2 h q
    have e2 : (Value.pointer (some ⟨u.heap.size, 0, none⟩)) = x 9 := e
    rw [h1] at e2
    cases e2
    omega
theorem twoA_make2 (h : twoA w0 A B L x u) (hL : L 9 = false) : twoA w0 A B (updL L 9) (updX x 9 (.pointer (some ⟨u.heap.size, 0, none⟩))) (u.alloc (.cells (a8 zero8) 90)) := by
  have hx : Ext u (u.alloc (.cells (a8 zero8) 90)) := (Ext.refl _).alloc _
  have h11 : L 11 = false := by
    cases q : L 11 with
    | false => rfl
    | true => rw [h.2.2.2.2.2 q] at hL; cases hL
  refine ⟨h.1.trans hx, fun q => ?_, fun _ => ⟨u.heap.size, rfl, h.1.size, fun _ => Ext.new (Ext.refl _), fun q => ?_⟩, fun q _ e => ?_, h.2.2.2.2.1, fun q => rfl⟩
  · obtain ⟨g, h1, h2, h3, h4⟩ := h.2.1 q
    exact ⟨g, h1, h2, fun q => hx.block (h3 q), fun q => hx.block (h4 q)⟩
  · rw [show (updL L 9) 11 = L 11 from rfl, h11] at q; cases q
  · obtain ⟨g, h1, h2⟩ := twoA_lt1 h q
    have e2 : x 8 = (Value.pointer (some ⟨u.heap.size, 0, none⟩)) := e
    rw [h1] at e2
    cases e2
    omega
theorem twoA_fill1 (h : twoA w0 A B L x u) (hL : L 8 = true) {g : Nat} (hx : x 8 = .pointer (some ⟨g, 0, none⟩)) (hb : u.heap[g]? = some (.cells (a8 zero8) 90 (0, 0))) (hg : w0.heap.size ≤ g) : twoA w0 A B (updL L 10) x (fill8 u g A) := by
  refine ⟨fill8_ext h.1 hg A, fun _ => ⟨g, hx, hg, (fun q => by cases q), fun _ => fill8_same hb A⟩, fun q => ?_, h.2.2.2.1, fun _ => hL, h.2.2.2.2.2⟩
  obtain ⟨g', h1, h2, h3, h4⟩ := h.2.2.1 q
  have hne : g' ≠ g := fun e => h.2.2.2.1 hL q (by rw [hx, h1, e])
  exact ⟨g', h1, h2, fun q => by rw [fill8_other hne]; exact h3 q, fun q => by rw [fill8_other hne]; exact h4 q⟩
theorem twoA_fill2 (h : twoA w0 A B L x u) (hL : L 9 = true) {g : Nat} (hx : x 9 = .pointer (some ⟨g, 0, none⟩)) (hb : u.heap[g]? = some (.cells (a8 zero8) 90 (0, 0))) (hg : w0.heap.size ≤ g) : twoA w0 A B (updL L 11) x (fill8 u g B) := by
  refine ⟨fill8_ext h.1 hg B, fun q => ?_, fun _ => ⟨g, hx, hg, (fun q => by cases q), fun _ => fill8_same hb B⟩, h.2.2.2.1, h.2.2.2.2.1, fun _ => hL⟩
  obtain ⟨g', h1, h2, h3, h4⟩ := h.2.1 q
  have hne : g' ≠ g := fun e => h.2.2.2.1 q hL (by rw [hx, h1, e])
  exact ⟨g', h1, h2, fun q => by rw [fill8_other hne]; exact h3 q, fun q => by rw [fill8_other hne]; exact h4 q⟩
end
/-- Deals in memory. -/
structure Dl where
  crans : Int
  pays : Int
  deriving DecidableEq, Inhabited
def noDl : Dl := ⟨0, 0⟩
def dlCells (d : Dl) : List Value := [.int .i64 d.crans, .int .i64 d.pays]
def DealsAt (w : World) (v : Value) (l : List Dl) : Prop :=
  ∃ a cap, v = .slice a l.length cap ∧ (l.length ≤ cap ∧ l.length ≤ 1000000000000000) ∧ ∀ i (h : i < l.length), ∃ b off, a = some ⟨b, off, none⟩ ∧ b < w.heap.size ∧
    w.cell? ⟨b, off + i * 2, none⟩ = some (.int .i64 l[i].crans) ∧ w.cell? ⟨b, off + i * 2 + 1, none⟩ = some (.int .i64 l[i].pays)
theorem DealsAt.mono {w w' : World} {v : Value} {l : List Dl} (h : DealsAt w v l) (hx : Ext w w') : DealsAt w' v l := by
  obtain ⟨a, cap, hv, hl, hc⟩ := h
  refine ⟨a, cap, hv, hl, fun i hi => ?_⟩
  obtain ⟨b, off, ha, hb, h0, h1⟩ := hc i hi
  exact ⟨b, off, ha, Nat.lt_of_lt_of_le hb hx.size, by rw [hx.cell (p := ⟨b, _, none⟩) hb]; exact h0, by rw [hx.cell (p := ⟨b, _, none⟩) hb]; exact h1⟩
def flatD (F G : Nat → Int) (k : Nat) : List Value := (List.range k).flatMap fun i => [.int .i64 (F i), .int .i64 (G i)]
theorem flatD_succ (F G : Nat → Int) (k : Nat) : flatD F G (k + 1) = flatD F G k ++ [.int .i64 (F k), .int .i64 (G k)] := by
  unfold flatD; rw [List.range_succ, List.flatMap_append]; simp
def dealsL (F G : Nat → Int) (n : Nat) : List Dl := (List.range n).map fun i => ⟨F i, G i⟩
theorem DealsAt.of_row {w : World} {v : Value} {F G : Nat → Int} {n : Nat} (h : Row w 50 2 v n (flatD F G n)) (hl : n ≤ 1000) : DealsAt w v (dealsL F G n) := by
  have hlen : (dealsL F G n).length = n := by simp [dealsL]
  obtain ⟨_, h⟩ := h
  rcases h with ⟨rfl, h0⟩ | ⟨g, cap, cur, rfl, hg, h1, h2, h3, h4⟩
  · exact ⟨none, 0, by rw [hlen, h0], by rw [hlen]; omega, fun i hi => by rw [hlen] at hi; omega⟩
  · refine ⟨_, cap, by rw [hlen], by rw [hlen]; omega, fun i hi => ⟨g, 0, rfl, lt_of_block hg, ?_⟩⟩
    rw [hlen] at hi
    have he : (dealsL F G n)[i]'(by rw [hlen]; exact hi) = ⟨F i, G i⟩ := by simp [dealsL]
    have key : ∀ j, j < 2 → w.cell? ⟨g, 0 + i * 2 + j, none⟩ = ([.int .i64 (F i), .int .i64 (G i)] : List Value)[j]? := fun j hj => by
      have := (flat_get (sz := 2) (fun i => ([.int .i64 (F i), .int .i64 (G i)] : List Value)) (fun _ => rfl) n).2 i j hi hj
      rw [cell_of hg, Nat.zero_add, ← this]
      show _ = (flatD F G n)[i * 2 + j]?
      rw [← h4, List.getElem?_take, if_pos (by omega), Array.getElem?_toList]
    rw [he]
    exact ⟨key 0 (by omega), key 1 (by omega)⟩
theorem info50 : (Try.prog.info? 50).map (fun i => (i.zero, i.size, i.bytes)) = some (some (.agg #[.int .i64 0, .int .i64 0]), 2, 16) := by kernel_rfl
def pNew (T : TypeId) (cs : Array Value) (base : Nat) (v : Value) (u : World) : Prop := ∃ g, v = .slice (some ⟨g, 0, none⟩) 1 1 ∧ base ≤ g ∧ u.heap[g]? = some (.cells cs T (0, 0))
theorem pNew_s (T : TypeId) (cs : Array Value) (base : Nat) : ∀ v u u', pNew T cs base v u → Ext u u' → pNew T cs base v u' := fun _ _ _ h k => by
  obtain ⟨g, h1, h2, h3⟩ := h
  exact ⟨g, h1, h2, k.block h3⟩
/-- What is told of a sale. -/
def sellL (s : Sal) : List Dl := dealsL (fun i => (gets s i : Int)) (pays s) s.offers.length
set_option maxRecDepth 100000 in
set_option maxHeartbeats 8000000 in
theorem deals_any (v : Value) (s : Sal) (w : World) (hv : ListsAt w v s.offers) (ho : Ok s) :
    Cal 48 #[saleW s v] w fun e w' => ∃ r, e = .returned r ∧ Ext w w' ∧ DealsAt w' r (sellL s) ∧ Hid (Row w' 50 2 r s.offers.length (flatD (fun i => (gets s i : Int)) (pays s) s.offers.length) ∧ ∀ g, r.ownBlock = some g → w.heap.size ≤ g) := by
  have hn := ho.n
  have hvs : ∃ a cap, v = .slice a s.offers.length cap := by obtain ⟨a, cap, h, _⟩ := hv; exact ⟨a, cap, h⟩
  have HG := hid (fun (u : World) (hu : Ext w u) => each_gets v s (fun i => (gets s i : Int)) u hvs hn.2 fun i hi u' hu' => gets_any v s i u' (hv.mono (hu.trans hu')) ho)
  have HP := hid (fun (u : World) (hu : Ext w u) => each_pays v s (pays s) u hvs hn.2 fun i hi u' hu' => pays_any v s i u' (hv.mono (hu.trans hu')) ho hi)
  unfold sellL
  have HPA : Hid (∀ k, k < s.offers.length → padF s.offers.length (fun i => (gets s i : Int)) k = (gets s k : Int)) := hid fun k hk => by unfold padF; rw [if_pos hk]
  have HPB : Hid (∀ k, k < s.offers.length → padF s.offers.length (pays s) k = pays s k) := hid fun k hk => by unfold padF; rw [if_pos hk]
  generalize padF s.offers.length (fun i => (gets s i : Int)) = A at *
  generalize padF s.offers.length (pays s) = B at *
  generalize hF : (fun i => (gets s i : Int)) = F at *
  generalize hGG : pays s = G at *
  have HPA : Hid (∀ k, k < s.offers.length → A k = F k) := hid fun k hk => by rw [HPA.out k hk, ← hF]
  obtain ⟨a, cap, rfl⟩ := hvs
  clear hv ho hF hGG
  unfold saleW at *
  generalize s.offers.length = n at *
  gi_enter Try.func48, Try.ntmps48
  gi_wp2_with fail
  have HB := hid (Ext.new (w := w) (o := .cells #[.int .i64 s.crans, .int .i64 s.least, .slice a n cap, fnV 68] 71) (Ext.refl _))
  have HX := hid (show Ext w (w.alloc (.cells #[.int .i64 s.crans, .int .i64 s.least, .slice a n cap, fnV 68] 71)) from (Ext.refl _).alloc _)
  generalize w.alloc (.cells #[.int .i64 s.crans, .int .i64 s.least, .slice a n cap, fnV 68] 71) = W at *
  refine jj_own 12 [8, 9] (twoA W A B) (by kernel_rfl) (by kernel_rfl) (twoA_start _ _ _) ?_
  simp only [List.take_succ_cons, List.take_zero, List.drop_succ_cons, List.drop_zero]
  apply jj_fun (by decide)
  · intro L x u hL hd hJ
    have c0 := cell_of (hJ.1.block HB.out)
    have HJ := hid hJ
    clear hJ hd hL
    go_simp
    exact ⟨rfl, HJ.out⟩
  simp only [Act.put, List.setIfInBounds_toArray, List.set_cons_succ, List.set_cons_zero]
  apply jj_fun (by decide)
  · intro L x u hL hd hJ
    have c0 := cell_of (hJ.1.block HB.out)
    have HJ := hid hJ
    clear hJ hd hL
    go_simp
    exact ⟨rfl, HJ.out⟩
  simp only [Act.put, List.setIfInBounds_toArray, List.set_cons_succ, List.set_cons_zero]
  apply jj_fun (by decide)
  · intro L x u hL hd hJ
    have HJ := hid hJ
    clear hJ hd hL
    go_simp
    exact ⟨rfl, HJ.out⟩
  simp only [Act.put, List.setIfInBounds_toArray, List.set_cons_succ, List.set_cons_zero]
  refine jj_fun (v := .agg #[.int .i64 (A 0), .int .i64 (A 1), .int .i64 (A 2), .int .i64 (A 3), .int .i64 (A 4), .int .i64 (A 5), .int .i64 (A 6), .int .i64 (A 7)]) (by decide) ?_ ?_
  · intro L x u hL hd hJ
    have hcal := hid (HG.out u (HX.out.trans hJ.1))
    have HJ := hid hJ
    clear hJ hd hL
    unfold a8 at hcal
    go_simp
    exact hcal.out.mono fun e w'' ⟨he, hx'⟩ => ⟨_, he, rfl, twoA_ext HJ.out hx'⟩
  simp only [Act.put, List.setIfInBounds_toArray, List.set_cons_succ, List.set_cons_zero]
  apply jj_fun (by decide)
  · intro L x u hL hd hJ
    have c0 := cell_of (hJ.1.block HB.out)
    have HJ := hid hJ
    clear hJ hd hL
    go_simp
    exact ⟨rfl, HJ.out⟩
  simp only [Act.put, List.setIfInBounds_toArray, List.set_cons_succ, List.set_cons_zero]
  apply jj_fun (by decide)
  · intro L x u hL hd hJ
    have c0 := cell_of (hJ.1.block HB.out)
    have HJ := hid hJ
    clear hJ hd hL
    go_simp
    exact ⟨rfl, HJ.out⟩
  simp only [Act.put, List.setIfInBounds_toArray, List.set_cons_succ, List.set_cons_zero]
  apply jj_fun (by decide)
  · intro L x u hL hd hJ
    have HJ := hid hJ
    clear hJ hd hL
    go_simp
    exact ⟨rfl, HJ.out⟩
  simp only [Act.put, List.setIfInBounds_toArray, List.set_cons_succ, List.set_cons_zero]
  refine jj_fun (v := .agg #[.int .i64 (B 0), .int .i64 (B 1), .int .i64 (B 2), .int .i64 (B 3), .int .i64 (B 4), .int .i64 (B 5), .int .i64 (B 6), .int .i64 (B 7)]) (by decide) ?_ ?_
  · intro L x u hL hd hJ
    have hcal := hid (HP.out u (HX.out.trans hJ.1))
    have HJ := hid hJ
    clear hJ hd hL
    unfold a8 at hcal
    go_simp
    exact hcal.out.mono fun e w'' ⟨he, hx'⟩ => ⟨_, he, rfl, twoA_ext HJ.out hx'⟩
  simp only [Act.put, List.setIfInBounds_toArray, List.set_cons_succ, List.set_cons_zero]
  refine jj_inv (by decide) ?_ ?_
  · intro L x u hL hd hJ
    have HJ := hid (twoA_make1 hJ hL)
    clear hJ hd hL
    go_simp
    exact HJ.out
  simp only [Act.put, List.setIfInBounds_toArray, List.set_cons_succ, List.set_cons_zero]
  refine jj_inv (by decide) ?_ ?_
  · intro L x u hL hd hJ
    have HJ := hid (twoA_make2 hJ hL)
    clear hJ hd hL
    go_simp
    exact HJ.out
  simp only [Act.put, List.setIfInBounds_toArray, List.set_cons_succ, List.set_cons_zero]
  refine jj_fun (v := undef) (by decide) ?_ ?_
  · intro L x u hL hd hJ
    have hl : L 8 = true := hd.1 rfl
    obtain ⟨g, hx8, hg, h3, _⟩ := hJ.2.1 hl
    have hb := h3 hL
    have HJ := hid (twoA_fill1 hJ hl hx8 hb hg)
    have cb := cell_of hb
    have fb := free_of hb
    rw [hx8]
    unfold a8 zero8 at cb
    clear hJ hd hL hb h3 hl hx8
    go_simp
    exact HJ.out
  simp only [Act.put, List.setIfInBounds_toArray, List.set_cons_succ, List.set_cons_zero]
  refine jj_fun (v := undef) (by decide) ?_ ?_
  · intro L x u hL hd hJ
    have hl : L 9 = true := hd.1 rfl
    obtain ⟨g, hx8, hg, h3, _⟩ := hJ.2.2.1 hl
    have hb := h3 hL
    have HJ := hid (twoA_fill2 hJ hl hx8 hb hg)
    have cb := cell_of hb
    have fb := free_of hb
    rw [hx8]
    unfold a8 zero8 at cb
    clear hJ hd hL hb h3 hl hx8
    go_simp
    exact HJ.out
  simp only [Act.put, List.setIfInBounds_toArray, List.set_cons_succ, List.set_cons_zero]
  refine jj_nil fun L x u hall hJ => ?_
  obtain ⟨g1, hg1, hgl1, _, hgb1⟩ := hJ.2.1 (hall 8 (by omega))
  obtain ⟨g2, hg2, hgl2, _, hgb2⟩ := hJ.2.2.1 (hall 9 (by omega))
  have hgb1 := hgb1 (hall 10 (by omega))
  have hgb2 := hgb2 (hall 11 (by omega))
  have HE := hid (HX.out.trans hJ.1)
  have hbx := hJ.1.block HB.out
  clear hJ hall HB HX
  generalize x 8 = x8 at *
  generalize x 9 = x9 at *
  clear x
  subst hg1
  subst hg2
  have c0 := cell_of hbx
  gi_upto_region 4 with fail
  clear c0 hbx
  have H1 := hid hgb1
  have H2 := hid hgb2
  clear hgb1 hgb2
  gi_loopw [3, 19] (fun v i wr => ∃ k : Nat, k ≤ n ∧ i = .int .i64 k ∧ Hid (Ext u wr ∧ Row wr 50 2 v k (flatD F G k) ∧ ∀ g, v.ownBlock = some g → u.heap.size ≤ g)) (fun _ i _ => n - (intOf i).toNat)
  case atStart => exact ⟨0, Nat.zero_le _, rfl, hid ⟨Ext.refl _, Row.nil _ _ _, fun g hg => by simp [Value.ownBlock] at hg⟩⟩
  case round =>
    obtain ⟨k, hk, rfl, HI⟩ := hrel
    by_cases hlt : k < n
    · have hk8 : k < 8 := by omega
      have hk9 : (k : Int) < 8 := by omega
      have HD1 := hid (HI.out.1.block H1.out)
      have HD2 := hid (HI.out.1.block H2.out)
      have HA := hid (HPA.out k hlt)
      have HBB := hid (HPB.out k hlt)
      gi_upto_region 6 with fail
      refine lex_wide 9 [(8, pNew 50 #[.int .i64 (A k), .int .i64 (B k)] wr.heap.size)] (by kernel_rfl) (by kernel_rfl) (nStab_cons (pNew_s _ _ _) nStab_nil) ?_
      simp only [List.take_succ_cons, List.take_zero, List.drop_succ_cons, List.drop_zero]
      apply lex_fun (rfl : psAt _ _ = none)
      · intro x u hR hf
        clear hR hf
        go_simp
        first | exact ⟨rfl, Ext.refl _⟩ | rfl
      simp only [Act.put, List.setIfInBounds_toArray, List.set_cons_succ, List.set_cons_zero]
      apply lex_fun (rfl : psAt _ _ = none)
      · intro x u hR hf
        clear hR hf
        go_simp
        first | exact ⟨rfl, Ext.refl _⟩ | rfl
      simp only [Act.put, List.setIfInBounds_toArray, List.set_cons_succ, List.set_cons_zero]
      apply lex_fun (rfl : psAt _ _ = none)
      · intro x u hR hf
        clear hR hf
        go_simp
        first | exact ⟨rfl, Ext.refl _⟩ | rfl
      simp only [Act.put, List.setIfInBounds_toArray, List.set_cons_succ, List.set_cons_zero]
      apply lex_fun (rfl : psAt _ _ = none)
      · intro x u hR hf
        have ck := cell_of (hR.block HD1.out) k
        rw [a8_get _ hk8] at ck
        clear hR hf
        go_simp
        first | exact ⟨rfl, Ext.refl _⟩ | rfl
      simp only [Act.put, List.setIfInBounds_toArray, List.set_cons_succ, List.set_cons_zero]
      apply lex_fun (rfl : psAt _ _ = none)
      · intro x u hR hf
        clear hR hf
        go_simp
        first | exact ⟨rfl, Ext.refl _⟩ | rfl
      simp only [Act.put, List.setIfInBounds_toArray, List.set_cons_succ, List.set_cons_zero]
      apply lex_fun (rfl : psAt _ _ = none)
      · intro x u hR hf
        clear hR hf
        go_simp
        first | exact ⟨rfl, Ext.refl _⟩ | rfl
      simp only [Act.put, List.setIfInBounds_toArray, List.set_cons_succ, List.set_cons_zero]
      apply lex_fun (rfl : psAt _ _ = none)
      · intro x u hR hf
        have ck := cell_of (hR.block HD2.out) k
        rw [a8_get _ hk8] at ck
        clear hR hf
        go_simp
        first | exact ⟨rfl, Ext.refl _⟩ | rfl
      simp only [Act.put, List.setIfInBounds_toArray, List.set_cons_succ, List.set_cons_zero]
      apply lex_fun (rfl : psAt _ _ = none)
      · intro x u hR hf
        clear hR hf
        go_simp
        first | exact ⟨rfl, Ext.refl _⟩ | rfl
      simp only [Act.put, List.setIfInBounds_toArray, List.set_cons_succ, List.set_cons_zero]
      refine lex_pred (p := pNew 50 #[.int .i64 (A k), .int .i64 (B k)] wr.heap.size) rfl ?_ ?_
      · intro x u hR hf
        have HSZ := hid hR.size
        clear hR hf
        go_simp
        exact ⟨⟨u.heap.size, rfl, HSZ.out, Ext.new (Ext.refl _)⟩, (Ext.refl _).alloc _⟩
      simp only [Act.put, List.setIfInBounds_toArray, List.set_cons_succ, List.set_cons_zero]
      refine lex_nil fun x w6 hE hfacts => ?_
      obtain ⟨gn, h8, hgn, hnb⟩ : pNew 50 #[.int .i64 (A k), .int .i64 (B k)] wr.heap.size (x 8) w6 := hfacts 8 _ (by omega) rfl
      clear hfacts
      generalize x 8 = x8 at *
      clear x
      subst h8
      have HRW := hid (HI.out.2.1.mono hE)
      have HOWN := hid HI.out.2.2
      have HX4 := hid (HI.out.1.trans hE)
      have HNW : Hid (∀ j y, ([.int .i64 (F k), .int .i64 (G k)] : List Value)[j]? = some y → w6.cell? ((⟨gn, 0, none⟩ : Addr).add j) = some y) := fun j y hj => by
        rw [Addr.add_mid, Nat.zero_add, cell_of hnb]
        rw [HA.out, HBB.out]
        simpa using hj
      obtain ⟨i0, hi0, hz0, hz1, hz2⟩ := info_parts info50
      have HZ := hid (And.intro hi0 (And.intro hz0 (And.intro hz1 hz2)))
      have hmax : k + 1 ≤ 1000000000 := by omega
      have hsw := HX4.out.size
      clear HI hE hnb hi0 hz0 hz1 hz2 HA HBB HD1 HD2
      gi_wp2_with (refine wpIn_append_row (fun _ => trivial) rfl (.tmp 22) (.tmp 30) rfl Try.underlying25 HZ.out.1 HZ.out.2.1 HZ.out.2.2.1 HZ.out.2.2.2 (by simp [Value.cells]) (by omega) (v := u3) rfl HRW.out ⟨gn, 0, none⟩ 1 rfl [.int .i64 (F k), .int .i64 (G k)] rfl HNW.out (fun u hu => by simp at hu; rcases hu with rfl | rfl <;> rfl) hmax (by omega) ?_; intro v' w' hrow' hgr' how'; obtain ⟨sa', sn', sc', rfl⟩ := hrow'.isSlice)
      have hx4 : Ext u w' := ext_grown HX4.out hgr' fun g hg => HOWN.out g hg
      have hown' : ∀ g, (Value.slice sa' sn' sc').ownBlock = some g → u.heap.size ≤ g := fun g hg => by
        rcases how' with e | e
        · exact HOWN.out g (by rw [← e]; exact hg)
        · rw [hg] at e; cases e; omega
      have HI2 := hid (And.intro hx4 (And.intro hrow' hown'))
      rw [← flatD_succ] at HI2
      clear hx4 hrow' hgr' how' hown'
      go_roundw
      case rel => exact ⟨k + 1, by omega, by go_num, HI2⟩
      case measure => simp [intOf]; omega
    · obtain rfl : k = n := by omega
      have HD := hid (DealsAt.of_row HI.out.2.1 (by omega))
      have hsz := HE.out.size
      have HR := hid (And.intro HI.out.2.1 (show ∀ g, u3.ownBlock = some g → w.heap.size ≤ g from fun g hg => by have := HI.out.2.2 g hg; omega))
      have HXF := hid (HE.out.trans HI.out.1)
      clear HI
      gi_wp2
      go_ret
      exact ⟨_, rfl, HXF.out, HD.out, HR⟩

end Go.Proofs.Ytfkehbhlagpmcaa
