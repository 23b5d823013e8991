/- The small functions of nets: numbers and spans. -/
import Derived.Test.YtmjelgonhpgmbaaLex
import Derived.Sort.CutIn
import Derived.Laws.EntriesVeiled
set_option linter.unusedSimpArgs false
set_option linter.unusedVariables false
namespace Go.Proofs.Ytmjelgonhpgmbaa
open Go Go.RowKit Go.Shelf

structure Spn where
  lo : Int
  hi : Int
def spnV (s : Spn) : Value := .agg #[.int .i64 s.lo, .int .i64 s.hi]
def SpansAt (w : World) (v : Value) (l : List Spn) : Prop :=
  ∃ a cap, v = .slice a l.length cap ∧ (l.length ≤ cap ∧ l.length ≤ 1000000000000000) ∧ ∀ i (h : i < l.length), ∃ b off, a = some ⟨b, off, none⟩ ∧ b < w.heap.size ∧
    w.cell? ⟨b, off + i * 2, none⟩ = some (.int .i64 l[i].lo) ∧ w.cell? ⟨b, off + i * 2 + 1, none⟩ = some (.int .i64 l[i].hi)
theorem SpansAt.mono {w w' : World} {v : Value} {l : List Spn} (h : SpansAt w v l) (hx : Ext w w') : SpansAt w' v l := by
  obtain ⟨a, cap, hv, hl, hc⟩ := h
  refine ⟨a, cap, hv, hl, fun i hi => ?_⟩
  obtain ⟨b, off, ha, hb, h0, h1⟩ := hc i hi
  exact ⟨b, off, ha, Nat.lt_of_lt_of_le hb hx.size, by rw [hx.cell (p := ⟨b, _, none⟩) hb]; exact h0, by rw [hx.cell (p := ⟨b, _, none⟩) hb]; exact h1⟩

set_option maxHeartbeats 400000 in
theorem isIn_any (n lo hi : Int) (w : World) :
    Cal 62 #[.int .i64 n, .int .i64 lo, .int .i64 hi] w fun e w' => e = .returned (.bool (decide (lo ≤ n) && decide (n ≤ hi))) ∧ w = w' := by
  gi_enter Try.func62, Try.ntmps62
  gi_wp2
  · go_ret; exact ⟨by simp [*], rfl⟩
  · have h : ¬ lo ≤ n := by omega
    go_ret; exact ⟨by simp [h], rfl⟩
theorem isIn_b (n lo hi : Int) (v : Bool) (w : World) (h : inB n lo hi = v) :
    Cal 62 #[.int .i64 n, .int .i64 lo, .int .i64 hi] w fun e w' => e = .returned (.bool v) ∧ w = w' := by
  subst h; exact isIn_any n lo hi w

set_option maxHeartbeats 1000000 in
theorem ends_any (x : Int) (b off cap : Nat) (xs : List Int) (w : World) (hx : xs.length ≤ 1000) (hc : ∀ i (h : i < xs.length), w.cell? ⟨b, off + i, none⟩ = some (.int .i64 xs[i])) :
    Cal 97 #[.int .i64 x, .slice (some ⟨b, off, none⟩) xs.length cap] w fun e w' => e = .returned (.tuple #[.int .i64 (minL x xs), .int .i64 (maxL x xs)]) ∧ w = w' := by
  gi_enter Try.func97, Try.ntmps97
  gi_wp2
  gi_loop [4, 5, 12] (fun m g i => ∃ k : Nat, k ≤ xs.length ∧ i = .int .i64 k ∧ m = .int .i64 (minL x (xs.take k)) ∧ g = .int .i64 (maxL x (xs.take k))) (fun _ _ i => xs.length - (intOf i).toNat)
  case atStart => exact ⟨0, Nat.zero_le _, rfl, rfl, rfl⟩
  case round =>
    obtain ⟨k, hk, rfl, rfl, rfl⟩ := hrel
    by_cases hlt : k < xs.length
    · have hck := hc k hlt
      have HS := hid (maxL_snoc x xs k hlt)
      have HT := hid (minL_snoc x xs k hlt)
      clear hc
      gi_wp2
      all_goals
        go_round
        case rel => exact ⟨k + 1, by omega, by go_num, by rw [HT.out]; first | rw [if_pos ‹_›] | rw [if_neg (by omega)], by rw [HS.out]; first | rw [if_pos ‹_›] | rw [if_neg (by omega)]⟩
        case measure => simp [intOf]; omega
    · have he : k = xs.length := by omega
      subst he
      gi_wp2
      exact bodyPost_ret (v := .tuple #[.int .i64 (minL x xs), .int .i64 (maxL x xs)]) (results_tmp2 (fn := Try.f97) (t := 4) (u := 5) rfl _ _ _) rfl ⟨rfl, rfl⟩
def mn (x y : Int) : Int := if y < x then y else x
def mx (x y : Int) : Int := if x < y then y else x
theorem ends_one (x y : Int) (b cap : Nat) (w : World) (h : w.cell? ⟨b, 0, none⟩ = some (.int .i64 y)) :
    Cal 97 #[.int .i64 x, .slice (some ⟨b, 0, none⟩) 1 cap] w fun e w' => e = .returned (.tuple #[.int .i64 (mn x y), .int .i64 (mx x y)]) ∧ w = w' :=
  ends_any x b 0 cap [y] w (by simp) fun i hi => by obtain rfl : i = 0 := (by simp at hi; omega); exact h

/-- A span's ends in order, from -most to most. -/
def spanB (most : Int) (s : Spn) : Bool := !(decide (s.hi < s.lo)) && !(decide (s.lo < -most)) && !(decide (most < s.hi))
def spanGood (most : Int) (l : List Spn) (i : Nat) : Bool := spanB most (l.getD i ⟨0, 0⟩)
def spansB (most : Int) (l : List Spn) : Bool := allTo (spanGood most l) l.length
theorem spanGood_eq {most : Int} {l : List Spn} {k : Nat} (h : k < l.length) : spanGood most l k = spanB most l[k] := by unfold spanGood; rw [getD_of h]
set_option maxHeartbeats 1000000 in
theorem areSpans_any (most : Int) (hm : 0 ≤ most ∧ most ≤ 1000) (v : Value) (l : List Spn) (w : World) (hv : SpansAt w v l) :
    Cal 99 #[.int .i64 most, v] w fun e w' => e = .returned (.bool (spansB most l)) ∧ Ext w w' := by
  obtain ⟨a, cap, rfl, ⟨hcap, hlen⟩, hc⟩ := hv
  gi_enter Try.func99, Try.ntmps99
  gi_wp2
  gi_loopw [9] (fun i wr => ∃ k : Nat, k ≤ l.length ∧ i = .int .i64 k ∧ Hid (∀ j, j < k → spanGood most l j = true) ∧ Ext w wr) (fun i _ => l.length - (intOf i).toNat)
  case atStart => exact ⟨0, Nat.zero_le _, rfl, fun _ h => absurd h (by omega), Ext.refl _⟩
  case round =>
    obtain ⟨k, hk, rfl, hgood, hx⟩ := hrel
    by_cases hlt : k < l.length
    · obtain ⟨b, off, rfl, hb, hc0, hc1⟩ := hc k hlt
      rw [← hx.cell (p := ⟨b, _, none⟩) hb] at hc0 hc1
      have HS := hid (spanGood_eq (most := most) hlt)
      clear hc
      generalize l[k] = s at *
      cases g1 : decide (s.hi < s.lo) <;> cases g2 : decide (s.lo < -most) <;> cases g3 : decide (most < s.hi)
      case false.false.false =>
        have HU := hid (upTo_succ hgood.out (by rw [HS.out]; unfold spanB; rw [g1, g2, g3]; rfl))
        clear hgood HS
        gi_wp2
        go_roundw
        case rel => exact ⟨k + 1, by omega, by go_num, HU, hx.alloc _⟩
        case measure => simp [intOf]; omega
      all_goals
        have HG : Hid (spansB most l = false) := by show spansB most l = false; unfold spansB; rw [allTo_no hlt (by rw [HS.out]; unfold spanB; rw [g1, g2, g3]; rfl)]
        clear hgood HS
        gi_wp2
        go_ret
        exact ⟨by rw [HG.out]; rfl, hx.alloc _⟩
    · obtain rfl : k = l.length := by omega
      have HG : Hid (spansB most l = true) := by show spansB most l = true; unfold spansB; rw [allTo_yes hgood.out]
      clear hgood hc
      gi_wp2
      go_ret
      exact ⟨by rw [HG.out]; rfl, hx⟩


theorem set_same {w : World} {g : Nat} {cs : Array Value} {t : TypeId} (h : w.heap[g]? = some (.cells cs t (0, 0))) (o : Nat) (v : Value) : (w.setCell ⟨g, o, none⟩ v).heap[g]? = some (.cells (cs.setIfInBounds o v) t (0, 0)) := heap_setCell_same w g o cs t v h
theorem set_other {w : World} {g k : Nat} (hk : k ≠ g) (o : Nat) (v : Value) : (w.setCell ⟨g, o, none⟩ v).heap[k]? = w.heap[k]? := heap_setCell_other w ⟨g, o, none⟩ k v hk

set_option maxHeartbeats 400000 in
theorem only_any (n : Int) (w : World) : Cal 76 #[.int .i64 n] w fun e w' => e = .returned (spnV ⟨n, n⟩) ∧ Ext w w' := by
  gi_enter Try.func76, Try.ntmps76
  gi_wp2
  refine bodyPost_ret (v := spnV ⟨n, n⟩) (by simp [results, Try.results76, go_sem, spnV]) rfl ⟨rfl, ?_⟩
  exact (Ext.refl _).alloc _

set_option maxHeartbeats 400000 in
theorem minus_any (a b : Int) (ha : -1000000 ≤ a ∧ a ≤ 1000000) (hb : -1000000 ≤ b ∧ b ≤ 1000000) (w : World) : Cal 78 #[.agg #[.int .i64 a, .int .i64 b]] w fun e w' => e = .returned (spnV ⟨-b, -a⟩) ∧ Ext w w' := by
  gi_enter Try.func78, Try.ntmps78
  gi_wp2
  refine bodyPost_ret (v := spnV ⟨-b, -a⟩) (by simp [results, Try.results78, go_sem, spnV]) rfl ⟨rfl, ?_⟩
  exact ((Ext.refl _).alloc _).alloc _

theorem mul_small {n a : Int} (hn : 0 ≤ n ∧ n ≤ 1000) (ha : -1000000 ≤ a ∧ a ≤ 1000000) : -1000000000 ≤ n * a ∧ n * a ≤ 1000000000 := by
  have h1 := Int.mul_le_mul_of_nonneg_left ha.2 hn.1
  have h2 := Int.mul_le_mul_of_nonneg_left ha.1 hn.1
  omega
set_option maxHeartbeats 400000 in
theorem times_any (a b n : Int) (hn : 0 ≤ n ∧ n ≤ 1000) (ha : -1000000 ≤ a ∧ a ≤ 1000000) (hb : -1000000 ≤ b ∧ b ≤ 1000000) (w : World) : Cal 101 #[.agg #[.int .i64 a, .int .i64 b], .int .i64 n] w fun e w' => e = .returned (spnV ⟨n * a, n * b⟩) ∧ Ext w w' := by
  have h1 := mul_small hn ha
  have h2 := mul_small hn hb
  gi_enter Try.func101, Try.ntmps101
  gi_wp2
  refine bodyPost_ret (v := spnV ⟨n * a, n * b⟩) (by simp [results, Try.results101, go_sem, spnV]) rfl ⟨rfl, ?_⟩
  exact ((Ext.refl _).alloc _).alloc _

def meetB (a b c d : Int) : Bool := decide (mx a c ≤ mn b d)
set_option maxHeartbeats 1000000 in
theorem meet_any (a b c d : Int) (w : World) : Cal 95 #[.agg #[.int .i64 a, .int .i64 b], .agg #[.int .i64 c, .int .i64 d]] w fun e w' => e = .returned (.bool (meetB a b c d)) ∧ Ext w w' := by
  gi_enter Try.func95, Try.ntmps95
  gi_wp2_with (gi_at_call 97; ((with_reducible refine (ends_one a c _ _ _ (by first | go_simp | simp [World.cell?, World.alloc])).mono ?_); rintro e w1 ⟨rfl, rfl⟩))
  gi_wp2_with (gi_at_call 97; ((with_reducible refine (ends_one b d _ _ _ (by first | go_simp | simp [World.cell?, World.alloc])).mono ?_); rintro e w1 ⟨rfl, rfl⟩))
  gi_wp2
  go_ret
  exact ⟨rfl, (((((Ext.refl _).alloc _).alloc _).alloc _).alloc _)⟩




/-- The sum of spans. -/
def sumLo (l : List Spn) : Int := (l.map (·.lo)).sum
def sumHi (l : List Spn) : Int := (l.map (·.hi)).sum
theorem sumLo_snoc (l : List Spn) (k : Nat) (h : k < l.length) : sumLo (l.take (k + 1)) = sumLo (l.take k) + l[k].lo := by
  unfold sumLo; rw [List.take_succ_eq_append_getElem h, List.map_append, List.sum_append, List.map_cons, List.map_nil, List.sum_cons, List.sum_nil, Int.add_zero]
theorem sumHi_snoc (l : List Spn) (k : Nat) (h : k < l.length) : sumHi (l.take (k + 1)) = sumHi (l.take k) + l[k].hi := by
  unfold sumHi; rw [List.take_succ_eq_append_getElem h, List.map_append, List.sum_append, List.map_cons, List.map_nil, List.sum_cons, List.sum_nil, Int.add_zero]
theorem sum_bound {f : Spn → Int} {M : Int} (hM : 0 ≤ M) : ∀ (l : List Spn), (∀ s ∈ l, -M ≤ f s ∧ f s ≤ M) → -(M * l.length) ≤ (l.map f).sum ∧ (l.map f).sum ≤ M * l.length
  | [], _ => by simp
  | s :: l, h => by
    have h1 := h s (by simp)
    have h2 := sum_bound hM l fun t ht => h t (by simp [ht])
    simp only [List.map_cons, List.sum_cons, List.length_cons, Int.mul_add, Int.mul_one, Int.natCast_add, Int.natCast_one] at *
    omega
theorem sum_bound_to {f : Spn → Int} (l : List Spn) (h : ∀ s ∈ l, -1000000 ≤ f s ∧ f s ≤ 1000000) (k : Nat) (hk : k ≤ 100) : -1000000000 ≤ ((l.take k).map f).sum ∧ ((l.take k).map f).sum ≤ 1000000000 := by
  have := sum_bound (f := f) (M := 1000000) (by omega) (l.take k) fun s hs => h s (List.mem_of_mem_take hs)
  have hl : (l.take k).length ≤ 100 := by rw [List.length_take]; omega
  omega

set_option maxHeartbeats 1000000 in
theorem sum_any (v : Value) (l : List Spn) (w : World) (hv : SpansAt w v l) (hb : ∀ s ∈ l, (-1000000 ≤ s.lo ∧ s.lo ≤ 1000000) ∧ (-1000000 ≤ s.hi ∧ s.hi ≤ 1000000)) (hl : l.length ≤ 100) :
    Cal 75 #[v] w fun e w' => e = .returned (spnV ⟨sumLo l, sumHi l⟩) ∧ Ext w w' := by
  obtain ⟨a, cap, rfl, ⟨hcap, hlen⟩, hc⟩ := hv
  have hx0 : Ext w ((w.alloc (.cells #[.int .i64 0, .int .i64 0] 56)).alloc (.cells #[.int .i64 0, .int .i64 0] 56)) := ((Ext.refl w).alloc _).alloc _
  have h0 : ((w.alloc (.cells #[.int .i64 0, .int .i64 0] 56)).alloc (.cells #[.int .i64 0, .int .i64 0] 56)).heap[w.heap.size]? = some (.cells #[.int .i64 0, .int .i64 0] 56 (0, 0)) := two_new
  have h1 : ((w.alloc (.cells #[.int .i64 0, .int .i64 0] 56)).alloc (.cells #[.int .i64 0, .int .i64 0] 56)).heap[w.heap.size + 1]? = some (.cells #[.int .i64 0, .int .i64 0] 56 (0, 0)) := by
    have := Ext.new (w := w.alloc (.cells #[.int .i64 0, .int .i64 0] 56)) (o := .cells #[.int .i64 0, .int .i64 0] 56) (Ext.refl _); rwa [World.size_alloc] at this
  have HB := hid hb
  gi_enter Try.func75, Try.ntmps75
  clear hb
  gi_wp2
  generalize hW : (w.alloc (.cells #[.int .i64 0, .int .i64 0] 56)).alloc (.cells #[.int .i64 0, .int .i64 0] 56) = W at *
  clear hW
  gi_loopw [8] (fun i wr => ∃ k : Nat, k ≤ l.length ∧ i = .int .i64 k ∧ Ext w wr ∧ wr.heap[w.heap.size]? = some (.cells #[.int .i64 0, .int .i64 0] 56 (0, 0)) ∧ wr.heap[w.heap.size + 1]? = some (.cells #[.int .i64 (sumLo (l.take k)), .int .i64 (sumHi (l.take k))] 56 (0, 0))) (fun i _ => l.length - (intOf i).toNat)
  case atStart => exact ⟨0, Nat.zero_le _, rfl, hx0, h0, h1⟩
  case round =>
    obtain ⟨k, hk, rfl, hx, hr, hs⟩ := hrel
    by_cases hlt : k < l.length
    · obtain ⟨b, off, rfl, hbb, hc0, hc1⟩ := hc k hlt
      rw [← hx.cell (p := ⟨b, _, none⟩) hbb] at hc0 hc1
      have HSL := hid (sumLo_snoc l k hlt)
      have HSH := hid (sumHi_snoc l k hlt)
      have hk1 := HB.out l[k] (List.getElem_mem _)
      have hp1 : -1000000000 ≤ sumLo (l.take k) ∧ sumLo (l.take k) ≤ 1000000000 := sum_bound_to (f := Spn.lo) l (fun s hs => (HB.out s hs).1) k (by omega)
      have hp2 : -1000000000 ≤ sumHi (l.take k) ∧ sumHi (l.take k) ≤ 1000000000 := sum_bound_to (f := Spn.hi) l (fun s hs => (HB.out s hs).2) k (by omega)
      clear hc h0 h1 hx0
      generalize l[k] = s at *
      generalize sumLo (l.take k) = A at *
      generalize sumHi (l.take k) = C at *
      have hcs := cell_of hs
      have hfs := free_of hs
      have hlb := lt_of_block hs
      have HS := hid hs
      have HR := hid hr
      have HX := hid hx
      clear hs hr hx
      gi_wp2
      go_roundw
      case rel =>
        refine ⟨k + 1, by omega, by go_num, ((HX.out.set (Nat.le_succ _) _ _).set (Nat.le_succ _) _ _).alloc _, ((Ext.refl _).alloc _).block ?_, ((Ext.refl _).alloc _).block ?_⟩
        · rw [set_other (by omega), set_other (by omega)]; exact HR.out
        · rw [set_same (set_same HS.out _ _) _ _, HSL.out, HSH.out]; rfl
      case measure => simp [intOf]; omega
    · obtain rfl : k = l.length := by omega
      have hcs := cell_of hs
      have hc0 := cell_of hr
      have hf0 := free_of hr
      have HX := hid hx
      clear hs hr hx hc h0 h1 hx0
      gi_wp2
      refine bodyPost_ret (v := spnV ⟨sumLo l, sumHi l⟩) (by simp [results, Try.results75, go_sem, spnV, hcs, hc0]) rfl ⟨rfl, ?_⟩
      exact ((HX.out.set (Nat.le_refl _) _ _).set (Nat.le_refl _) _ _)



theorem below_setRow {n g : Nat} {w W : World} (h : Below n w W) (hb : n ≤ g) (cs : Array Value) : Below n w (W.setRow g cs) :=
  ⟨h.os, h.tape, h.output, by simpa using h.size, fun k hk => by rw [setRow_other W g k cs (by omega)]; exact h.block k hk⟩
/-- A value of several cells is stored whole into a block. -/
theorem wpIn_store_new {F : Fence} {n : Nat} {o : Oper} {a : Act} {w : World} {K : Act → World → Prop} {Q : Exit → Act → World → Prop} (ty : TypeId) (x y : Operand) (ho : o.op = .store ty x y) (hF : ∀ f, F.fn f) {g : Nat} (hx : a.eval x = .pointer (some ⟨g, 0, none⟩)) {t : TypeId} {cells old : Array Value}
    (hy : a.eval y = .agg cells) (hg : w.heap[g]? = some (.cells old t (0, 0))) (hi : (Try.prog.info? ty).map (·.size) = some cells.size) (hold : old.size = cells.size) (h1 : cells.all (·.oneCell') = true)
    (h : ∀ w' : World, w'.heap[g]? = some (.cells cells t (0, 0)) → (∀ k, k ≠ g → w'.heap[k]? = w.heap[k]?) → (∀ (u : World), u.heap.size ≤ g → Ext u w → Ext u w') → K (a.put o.dst undef) w') : o.wpIn F n Try.prog a w K Q := by
  have hl : (storeVar ty ⟨g, 0, none⟩ (.agg cells)).run Try.prog w = .ok () (w.setRow g cells) := run_storeVar_row w _ t ty _ _ hg hi hold h1
  refine ⟨fun f _ => hF f, ?_⟩
  rw [Oper.semAt_eq _ _ _ (by rw [ho]; intro c h; cases h)]
  unfold execOp
  simp only [ho, hx, hy, Instr.storeAt, Instr.sureAddr, Sem.run_bind, Sem.run_pure, Result.andThen_ok, hl]
  exact h _ (setRow_heap w g old cells t (0, 0) hg) (fun k hk => setRow_other w g k cells hk) fun u hu hx => below_setRow hx hu cells

structure NetD where
  east : Int
  north : Int
  long : Int
  along : Int
  shot : Int
  haul : Int
  se : Spn
  sn : Spn

theorem tide_e (ev nv sv : Value) (gap : Int) (w : World) : Cal 84 #[.agg #[ev, nv, .int .i64 gap, sv]] w fun x w' => x = .returned ev ∧ Ext w w' := by
  gi_enter Try.func84, Try.ntmps84
  gi_wp2
  go_ret
  exact ⟨rfl, (Ext.refl _).alloc _⟩
theorem place_e (a b : Int) (w : World) : Cal 85 #[.agg #[.int .i64 a, .int .i64 b]] w fun x w' => x = .returned (.int .i64 a) ∧ Ext w w' := by
  gi_enter Try.func85, Try.ntmps85
  gi_wp2
  go_ret
  exact ⟨rfl, (Ext.refl _).alloc _⟩
set_option maxHeartbeats 400000 in
theorem slip_e (n : NetD) (i : Int) (w : World) : Cal 86 #[.agg #[.int .i64 n.east, .int .i64 n.north, .int .i64 n.long, .int .i64 n.along, .int .i64 n.shot, .int .i64 n.haul, .int .i64 n.se.lo, .int .i64 n.se.hi, .int .i64 n.sn.lo, .int .i64 n.sn.hi, .int .i64 i]] w fun x w' => x = .returned (.agg #[.int .i64 n.se.lo, .int .i64 n.se.hi]) ∧ Ext w w' := by
  gi_enter Try.func86, Try.ntmps86
  gi_wp2
  refine bodyPost_ret (v := .agg #[.int .i64 n.se.lo, .int .i64 n.se.hi]) (by simp [results, Try.results86, go_sem]) rfl ⟨rfl, ?_⟩
  exact ((Ext.refl _).alloc _).alloc _
theorem said_e (ae an be bn : Option Addr) (le ln me mn ce cn de dn : Nat) (w : World) : Cal 87 #[.agg #[.slice ae le ce, .slice an ln cn, .slice be me de, .slice bn mn dn]] w fun x w' => x = .returned (.agg #[.slice ae le ce, .slice be me de]) ∧ Ext w w' := by
  gi_enter Try.func87, Try.ntmps87
  gi_wp2
  refine bodyPost_ret (v := .agg #[.slice ae le ce, .slice be me de]) (by simp [results, Try.results87, go_sem]) rfl ⟨rfl, ?_⟩
  exact ((Ext.refl _).alloc _).alloc _
theorem side_e (w : World) : Cal 59 #[] w fun x w' => x = .returned (.agg #[.int .i64 0, .func (.func 84) #[] #[], .func (.func 85) #[] #[], .func (.func 86) #[] #[], .func (.func 87) #[] #[]]) ∧ Ext w w' := by
  gi_enter Try.func59, Try.ntmps59
  gi_wp2
  refine bodyPost_ret (v := .agg #[.int .i64 0, .func (.func 84) #[] #[], .func (.func 85) #[] #[], .func (.func 86) #[] #[], .func (.func 87) #[] #[]]) (by simp [results, Try.results59, go_sem]) rfl ⟨rfl, ?_⟩
  exact (Ext.refl _).alloc _
def long_eF (n : NetD) : Int := if n.along == 0 then n.long else 0
theorem long_e (n : NetD) (i : Int) (w : World) : Cal 105 #[.agg #[.int .i64 0, .func (.func 84) #[] #[], .func (.func 85) #[] #[], .func (.func 86) #[] #[], .func (.func 87) #[] #[]], .agg #[.int .i64 n.east, .int .i64 n.north, .int .i64 n.long, .int .i64 n.along, .int .i64 n.shot, .int .i64 n.haul, .int .i64 n.se.lo, .int .i64 n.se.hi, .int .i64 n.sn.lo, .int .i64 n.sn.hi, .int .i64 i]] w fun x w' => x = .returned (.int .i64 (long_eF n)) ∧ Ext w w' := by
  unfold long_eF
  gi_enter Try.func105, Try.ntmps105
  cases g : n.along == 0
  all_goals
    gi_wp2
    go_ret
    exact ⟨rfl, ((Ext.refl _).alloc _).alloc _⟩

theorem tide_n (ev nv sv : Value) (gap : Int) (w : World) : Cal 88 #[.agg #[ev, nv, .int .i64 gap, sv]] w fun x w' => x = .returned nv ∧ Ext w w' := by
  gi_enter Try.func88, Try.ntmps88
  gi_wp2
  go_ret
  exact ⟨rfl, (Ext.refl _).alloc _⟩
theorem place_n (a b : Int) (w : World) : Cal 89 #[.agg #[.int .i64 a, .int .i64 b]] w fun x w' => x = .returned (.int .i64 b) ∧ Ext w w' := by
  gi_enter Try.func89, Try.ntmps89
  gi_wp2
  go_ret
  exact ⟨rfl, (Ext.refl _).alloc _⟩
set_option maxHeartbeats 400000 in
theorem slip_n (n : NetD) (i : Int) (w : World) : Cal 90 #[.agg #[.int .i64 n.east, .int .i64 n.north, .int .i64 n.long, .int .i64 n.along, .int .i64 n.shot, .int .i64 n.haul, .int .i64 n.se.lo, .int .i64 n.se.hi, .int .i64 n.sn.lo, .int .i64 n.sn.hi, .int .i64 i]] w fun x w' => x = .returned (.agg #[.int .i64 n.sn.lo, .int .i64 n.sn.hi]) ∧ Ext w w' := by
  gi_enter Try.func90, Try.ntmps90
  gi_wp2
  refine bodyPost_ret (v := .agg #[.int .i64 n.sn.lo, .int .i64 n.sn.hi]) (by simp [results, Try.results90, go_sem]) rfl ⟨rfl, ?_⟩
  exact ((Ext.refl _).alloc _).alloc _
theorem said_n (ae an be bn : Option Addr) (le ln me mn ce cn de dn : Nat) (w : World) : Cal 91 #[.agg #[.slice ae le ce, .slice an ln cn, .slice be me de, .slice bn mn dn]] w fun x w' => x = .returned (.agg #[.slice an ln cn, .slice bn mn dn]) ∧ Ext w w' := by
  gi_enter Try.func91, Try.ntmps91
  gi_wp2
  refine bodyPost_ret (v := .agg #[.slice an ln cn, .slice bn mn dn]) (by simp [results, Try.results91, go_sem]) rfl ⟨rfl, ?_⟩
  exact ((Ext.refl _).alloc _).alloc _
theorem side_n (w : World) : Cal 60 #[] w fun x w' => x = .returned (.agg #[.int .i64 1, .func (.func 88) #[] #[], .func (.func 89) #[] #[], .func (.func 90) #[] #[], .func (.func 91) #[] #[]]) ∧ Ext w w' := by
  gi_enter Try.func60, Try.ntmps60
  gi_wp2
  refine bodyPost_ret (v := .agg #[.int .i64 1, .func (.func 88) #[] #[], .func (.func 89) #[] #[], .func (.func 90) #[] #[], .func (.func 91) #[] #[]]) (by simp [results, Try.results60, go_sem]) rfl ⟨rfl, ?_⟩
  exact (Ext.refl _).alloc _
def long_nF (n : NetD) : Int := if n.along == 1 then n.long else 0
theorem long_n (n : NetD) (i : Int) (w : World) : Cal 105 #[.agg #[.int .i64 1, .func (.func 88) #[] #[], .func (.func 89) #[] #[], .func (.func 90) #[] #[], .func (.func 91) #[] #[]], .agg #[.int .i64 n.east, .int .i64 n.north, .int .i64 n.long, .int .i64 n.along, .int .i64 n.shot, .int .i64 n.haul, .int .i64 n.se.lo, .int .i64 n.se.hi, .int .i64 n.sn.lo, .int .i64 n.sn.hi, .int .i64 i]] w fun x w' => x = .returned (.int .i64 (long_nF n)) ∧ Ext w w' := by
  unfold long_nF
  gi_enter Try.func105, Try.ntmps105
  cases g : n.along == 1
  all_goals
    gi_wp2
    go_ret
    exact ⟨rfl, ((Ext.refl _).alloc _).alloc _⟩

theorem sides_any (w : World) : Cal 79 #[] w fun x w' => x = .returned (.agg #[.int .i64 0, .func (.func 84) #[] #[], .func (.func 85) #[] #[], .func (.func 86) #[] #[], .func (.func 87) #[] #[], .int .i64 1, .func (.func 88) #[] #[], .func (.func 89) #[] #[], .func (.func 90) #[] #[], .func (.func 91) #[] #[]]) ∧ Ext w w' := by
  gi_enter Try.func79, Try.ntmps79
  gi_wp2_with (gi_at_call 59; ((with_reducible refine (side_e _).mono ?_); rintro e w1 ⟨rfl, hx1⟩))
  gi_wp2_with (gi_at_call 60; ((with_reducible refine (side_n _).mono ?_); rintro e w2 ⟨rfl, hx2⟩; have hb := Ext.new (hx1.trans hx2); have hc := cell_of hb; have hf := free_of hb))
  refine bodyPost_ret (v := .agg #[.int .i64 0, .func (.func 84) #[] #[], .func (.func 85) #[] #[], .func (.func 86) #[] #[], .func (.func 87) #[] #[], .int .i64 1, .func (.func 88) #[] #[], .func (.func 89) #[] #[], .func (.func 90) #[] #[], .func (.func 91) #[] #[]]) (by simp [results, Try.results79, go_sem, hc]) rfl ⟨rfl, ?_⟩
  have hx := Ext.after (hx1.trans hx2)
  iterate 10 (refine Ext.set ?_ (Nat.le_refl _) _ _)
  exact hx




theorem long_e_ok {n : NetD} (h : 0 ≤ n.long ∧ n.long ≤ 2000) : 0 ≤ long_eF n ∧ long_eF n ≤ 2000 := by
  unfold long_eF; split <;> omega
def near_eF (n m : NetD) (gap : Int) : Spn := ⟨-gap - long_eF n, gap + long_eF m⟩
set_option maxHeartbeats 1000000 in
theorem near_e (n m : NetD) (i k gap : Int) (hg : 0 ≤ gap ∧ gap ≤ 500) (hn : 0 ≤ n.long ∧ n.long ≤ 2000) (hm : 0 ≤ m.long ∧ m.long ≤ 2000) (w : World) : Cal 96 #[.agg #[.int .i64 0, .func (.func 84) #[] #[], .func (.func 85) #[] #[], .func (.func 86) #[] #[], .func (.func 87) #[] #[]], .agg #[.int .i64 n.east, .int .i64 n.north, .int .i64 n.long, .int .i64 n.along, .int .i64 n.shot, .int .i64 n.haul, .int .i64 n.se.lo, .int .i64 n.se.hi, .int .i64 n.sn.lo, .int .i64 n.sn.hi, .int .i64 i, .int .i64 m.east, .int .i64 m.north, .int .i64 m.long, .int .i64 m.along, .int .i64 m.shot, .int .i64 m.haul, .int .i64 m.se.lo, .int .i64 m.se.hi, .int .i64 m.sn.lo, .int .i64 m.sn.hi, .int .i64 k], .int .i64 gap] w fun x w' => x = .returned (spnV (near_eF n m gap)) ∧ Ext w w' := by
  have hln := long_e_ok hn
  have hlm := long_e_ok hm
  have H1 := hid (fun (u : World) => long_e n i u)
  have H2 := hid (fun (u : World) => long_e m k u)
  unfold near_eF
  gi_enter Try.func96, Try.ntmps96
  generalize long_eF n = L1 at *
  generalize long_eF m = L2 at *
  gi_wp2_with fail
  have hW : Ext w (((w.alloc (.cells #[.int .i64 0, .func (.func 84) #[] #[], .func (.func 85) #[] #[], .func (.func 86) #[] #[], .func (.func 87) #[] #[]] 133)).alloc (.cells #[.int .i64 n.east, .int .i64 n.north, .int .i64 n.long, .int .i64 n.along, .int .i64 n.shot, .int .i64 n.haul, .int .i64 n.se.lo, .int .i64 n.se.hi, .int .i64 n.sn.lo, .int .i64 n.sn.hi, .int .i64 i, .int .i64 m.east, .int .i64 m.north, .int .i64 m.long, .int .i64 m.along, .int .i64 m.shot, .int .i64 m.haul, .int .i64 m.se.lo, .int .i64 m.se.hi, .int .i64 m.sn.lo, .int .i64 m.sn.hi, .int .i64 k] 127)).alloc (.cells #[.int .i64 0, .int .i64 0] 56)) := (((Ext.refl w).alloc _).alloc _).alloc _
  have hW1 : (((w.alloc (.cells #[.int .i64 0, .func (.func 84) #[] #[], .func (.func 85) #[] #[], .func (.func 86) #[] #[], .func (.func 87) #[] #[]] 133)).alloc (.cells #[.int .i64 n.east, .int .i64 n.north, .int .i64 n.long, .int .i64 n.along, .int .i64 n.shot, .int .i64 n.haul, .int .i64 n.se.lo, .int .i64 n.se.hi, .int .i64 n.sn.lo, .int .i64 n.sn.hi, .int .i64 i, .int .i64 m.east, .int .i64 m.north, .int .i64 m.long, .int .i64 m.along, .int .i64 m.shot, .int .i64 m.haul, .int .i64 m.se.lo, .int .i64 m.se.hi, .int .i64 m.sn.lo, .int .i64 m.sn.hi, .int .i64 k] 127)).alloc (.cells #[.int .i64 0, .int .i64 0] 56)).heap[w.heap.size]? = some (.cells #[.int .i64 0, .func (.func 84) #[] #[], .func (.func 85) #[] #[], .func (.func 86) #[] #[], .func (.func 87) #[] #[]] 133 (0, 0)) := three_new
  have hW2 : (((w.alloc (.cells #[.int .i64 0, .func (.func 84) #[] #[], .func (.func 85) #[] #[], .func (.func 86) #[] #[], .func (.func 87) #[] #[]] 133)).alloc (.cells #[.int .i64 n.east, .int .i64 n.north, .int .i64 n.long, .int .i64 n.along, .int .i64 n.shot, .int .i64 n.haul, .int .i64 n.se.lo, .int .i64 n.se.hi, .int .i64 n.sn.lo, .int .i64 n.sn.hi, .int .i64 i, .int .i64 m.east, .int .i64 m.north, .int .i64 m.long, .int .i64 m.along, .int .i64 m.shot, .int .i64 m.haul, .int .i64 m.se.lo, .int .i64 m.se.hi, .int .i64 m.sn.lo, .int .i64 m.sn.hi, .int .i64 k] 127)).alloc (.cells #[.int .i64 0, .int .i64 0] 56)).heap[w.heap.size + 1]? = some (.cells #[.int .i64 n.east, .int .i64 n.north, .int .i64 n.long, .int .i64 n.along, .int .i64 n.shot, .int .i64 n.haul, .int .i64 n.se.lo, .int .i64 n.se.hi, .int .i64 n.sn.lo, .int .i64 n.sn.hi, .int .i64 i, .int .i64 m.east, .int .i64 m.north, .int .i64 m.long, .int .i64 m.along, .int .i64 m.shot, .int .i64 m.haul, .int .i64 m.se.lo, .int .i64 m.se.hi, .int .i64 m.sn.lo, .int .i64 m.sn.hi, .int .i64 k] 127 (0, 0)) := three_mid
  have hW3 : (((w.alloc (.cells #[.int .i64 0, .func (.func 84) #[] #[], .func (.func 85) #[] #[], .func (.func 86) #[] #[], .func (.func 87) #[] #[]] 133)).alloc (.cells #[.int .i64 n.east, .int .i64 n.north, .int .i64 n.long, .int .i64 n.along, .int .i64 n.shot, .int .i64 n.haul, .int .i64 n.se.lo, .int .i64 n.se.hi, .int .i64 n.sn.lo, .int .i64 n.sn.hi, .int .i64 i, .int .i64 m.east, .int .i64 m.north, .int .i64 m.long, .int .i64 m.along, .int .i64 m.shot, .int .i64 m.haul, .int .i64 m.se.lo, .int .i64 m.se.hi, .int .i64 m.sn.lo, .int .i64 m.sn.hi, .int .i64 k] 127)).alloc (.cells #[.int .i64 0, .int .i64 0] 56)).heap[w.heap.size + 2]? = some (.cells #[.int .i64 0, .int .i64 0] 56 (0, 0)) := three_top
  generalize ((w.alloc (.cells #[.int .i64 0, .func (.func 84) #[] #[], .func (.func 85) #[] #[], .func (.func 86) #[] #[], .func (.func 87) #[] #[]] 133)).alloc (.cells #[.int .i64 n.east, .int .i64 n.north, .int .i64 n.long, .int .i64 n.along, .int .i64 n.shot, .int .i64 n.haul, .int .i64 n.se.lo, .int .i64 n.se.hi, .int .i64 n.sn.lo, .int .i64 n.sn.hi, .int .i64 i, .int .i64 m.east, .int .i64 m.north, .int .i64 m.long, .int .i64 m.along, .int .i64 m.shot, .int .i64 m.haul, .int .i64 m.se.lo, .int .i64 m.se.hi, .int .i64 m.sn.lo, .int .i64 m.sn.hi, .int .i64 k] 127)).alloc (.cells #[.int .i64 0, .int .i64 0] 56) = W at *
  have HC := hid fun (e : Later W) => And.intro (cell_of (Ext.block e.grown hW1)) (cell_of (Ext.block e.grown hW2))
  refine quiet_wide 13 (by kernel_rfl) (by kernel_rfl) ?_
  simp only [List.take_succ_cons, List.take_zero, List.drop_succ_cons, List.drop_zero]
  have q1 := HC.out
  repeat (any_goals (first | go_big_quiet_step ((first | (go_at_call 105; with_reducible exact Cal.quiet (H1.out _)) | (go_at_call 105; with_reducible exact Cal.quiet (H2.out _)))) | quiet_step ((first | (go_at_call 105; with_reducible exact Cal.quiet (H1.out _)) | (go_at_call 105; with_reducible exact Cal.quiet (H2.out _))))))
  refine wpQuiet_nil ?_
  rintro w5 ⟨⟨w6, hx5⟩, he5⟩
  obtain rfl : w5 = w6 := he5
  have hx5 : Ext W w5 := hx5
  clear q1 HC
  have hc := cell_of (hx5.block hW3)
  have hf := free_of (hx5.block hW3)
  gi_wp2
  refine bodyPost_ret (v := spnV ⟨-gap - L1, gap + L2⟩) (by simp [results, Try.results96, go_sem, spnV, hc]) rfl ⟨rfl, ?_⟩
  exact ((hW.trans hx5).set (by omega) _ _).set (by omega) _ _


theorem long_n_ok {n : NetD} (h : 0 ≤ n.long ∧ n.long ≤ 2000) : 0 ≤ long_nF n ∧ long_nF n ≤ 2000 := by
  unfold long_nF; split <;> omega
def near_nF (n m : NetD) (gap : Int) : Spn := ⟨-gap - long_nF n, gap + long_nF m⟩
set_option maxHeartbeats 1000000 in
theorem near_n (n m : NetD) (i k gap : Int) (hg : 0 ≤ gap ∧ gap ≤ 500) (hn : 0 ≤ n.long ∧ n.long ≤ 2000) (hm : 0 ≤ m.long ∧ m.long ≤ 2000) (w : World) : Cal 96 #[.agg #[.int .i64 1, .func (.func 88) #[] #[], .func (.func 89) #[] #[], .func (.func 90) #[] #[], .func (.func 91) #[] #[]], .agg #[.int .i64 n.east, .int .i64 n.north, .int .i64 n.long, .int .i64 n.along, .int .i64 n.shot, .int .i64 n.haul, .int .i64 n.se.lo, .int .i64 n.se.hi, .int .i64 n.sn.lo, .int .i64 n.sn.hi, .int .i64 i, .int .i64 m.east, .int .i64 m.north, .int .i64 m.long, .int .i64 m.along, .int .i64 m.shot, .int .i64 m.haul, .int .i64 m.se.lo, .int .i64 m.se.hi, .int .i64 m.sn.lo, .int .i64 m.sn.hi, .int .i64 k], .int .i64 gap] w fun x w' => x = .returned (spnV (near_nF n m gap)) ∧ Ext w w' := by
  have hln := long_n_ok hn
  have hlm := long_n_ok hm
  have H1 := hid (fun (u : World) => long_n n i u)
  have H2 := hid (fun (u : World) => long_n m k u)
  unfold near_nF
  gi_enter Try.func96, Try.ntmps96
  generalize long_nF n = L1 at *
  generalize long_nF m = L2 at *
  gi_wp2_with fail
  have hW : Ext w (((w.alloc (.cells #[.int .i64 1, .func (.func 88) #[] #[], .func (.func 89) #[] #[], .func (.func 90) #[] #[], .func (.func 91) #[] #[]] 133)).alloc (.cells #[.int .i64 n.east, .int .i64 n.north, .int .i64 n.long, .int .i64 n.along, .int .i64 n.shot, .int .i64 n.haul, .int .i64 n.se.lo, .int .i64 n.se.hi, .int .i64 n.sn.lo, .int .i64 n.sn.hi, .int .i64 i, .int .i64 m.east, .int .i64 m.north, .int .i64 m.long, .int .i64 m.along, .int .i64 m.shot, .int .i64 m.haul, .int .i64 m.se.lo, .int .i64 m.se.hi, .int .i64 m.sn.lo, .int .i64 m.sn.hi, .int .i64 k] 127)).alloc (.cells #[.int .i64 0, .int .i64 0] 56)) := (((Ext.refl w).alloc _).alloc _).alloc _
  have hW1 : (((w.alloc (.cells #[.int .i64 1, .func (.func 88) #[] #[], .func (.func 89) #[] #[], .func (.func 90) #[] #[], .func (.func 91) #[] #[]] 133)).alloc (.cells #[.int .i64 n.east, .int .i64 n.north, .int .i64 n.long, .int .i64 n.along, .int .i64 n.shot, .int .i64 n.haul, .int .i64 n.se.lo, .int .i64 n.se.hi, .int .i64 n.sn.lo, .int .i64 n.sn.hi, .int .i64 i, .int .i64 m.east, .int .i64 m.north, .int .i64 m.long, .int .i64 m.along, .int .i64 m.shot, .int .i64 m.haul, .int .i64 m.se.lo, .int .i64 m.se.hi, .int .i64 m.sn.lo, .int .i64 m.sn.hi, .int .i64 k] 127)).alloc (.cells #[.int .i64 0, .int .i64 0] 56)).heap[w.heap.size]? = some (.cells #[.int .i64 1, .func (.func 88) #[] #[], .func (.func 89) #[] #[], .func (.func 90) #[] #[], .func (.func 91) #[] #[]] 133 (0, 0)) := three_new
  have hW2 : (((w.alloc (.cells #[.int .i64 1, .func (.func 88) #[] #[], .func (.func 89) #[] #[], .func (.func 90) #[] #[], .func (.func 91) #[] #[]] 133)).alloc (.cells #[.int .i64 n.east, .int .i64 n.north, .int .i64 n.long, .int .i64 n.along, .int .i64 n.shot, .int .i64 n.haul, .int .i64 n.se.lo, .int .i64 n.se.hi, .int .i64 n.sn.lo, .int .i64 n.sn.hi, .int .i64 i, .int .i64 m.east, .int .i64 m.north, .int .i64 m.long, .int .i64 m.along, .int .i64 m.shot, .int .i64 m.haul, .int .i64 m.se.lo, .int .i64 m.se.hi, .int .i64 m.sn.lo, .int .i64 m.sn.hi, .int .i64 k] 127)).alloc (.cells #[.int .i64 0, .int .i64 0] 56)).heap[w.heap.size + 1]? = some (.cells #[.int .i64 n.east, .int .i64 n.north, .int .i64 n.long, .int .i64 n.along, .int .i64 n.shot, .int .i64 n.haul, .int .i64 n.se.lo, .int .i64 n.se.hi, .int .i64 n.sn.lo, .int .i64 n.sn.hi, .int .i64 i, .int .i64 m.east, .int .i64 m.north, .int .i64 m.long, .int .i64 m.along, .int .i64 m.shot, .int .i64 m.haul, .int .i64 m.se.lo, .int .i64 m.se.hi, .int .i64 m.sn.lo, .int .i64 m.sn.hi, .int .i64 k] 127 (0, 0)) := three_mid
  have hW3 : (((w.alloc (.cells #[.int .i64 1, .func (.func 88) #[] #[], .func (.func 89) #[] #[], .func (.func 90) #[] #[], .func (.func 91) #[] #[]] 133)).alloc (.cells #[.int .i64 n.east, .int .i64 n.north, .int .i64 n.long, .int .i64 n.along, .int .i64 n.shot, .int .i64 n.haul, .int .i64 n.se.lo, .int .i64 n.se.hi, .int .i64 n.sn.lo, .int .i64 n.sn.hi, .int .i64 i, .int .i64 m.east, .int .i64 m.north, .int .i64 m.long, .int .i64 m.along, .int .i64 m.shot, .int .i64 m.haul, .int .i64 m.se.lo, .int .i64 m.se.hi, .int .i64 m.sn.lo, .int .i64 m.sn.hi, .int .i64 k] 127)).alloc (.cells #[.int .i64 0, .int .i64 0] 56)).heap[w.heap.size + 2]? = some (.cells #[.int .i64 0, .int .i64 0] 56 (0, 0)) := three_top
  generalize ((w.alloc (.cells #[.int .i64 1, .func (.func 88) #[] #[], .func (.func 89) #[] #[], .func (.func 90) #[] #[], .func (.func 91) #[] #[]] 133)).alloc (.cells #[.int .i64 n.east, .int .i64 n.north, .int .i64 n.long, .int .i64 n.along, .int .i64 n.shot, .int .i64 n.haul, .int .i64 n.se.lo, .int .i64 n.se.hi, .int .i64 n.sn.lo, .int .i64 n.sn.hi, .int .i64 i, .int .i64 m.east, .int .i64 m.north, .int .i64 m.long, .int .i64 m.along, .int .i64 m.shot, .int .i64 m.haul, .int .i64 m.se.lo, .int .i64 m.se.hi, .int .i64 m.sn.lo, .int .i64 m.sn.hi, .int .i64 k] 127)).alloc (.cells #[.int .i64 0, .int .i64 0] 56) = W at *
  have HC := hid fun (e : Later W) => And.intro (cell_of (Ext.block e.grown hW1)) (cell_of (Ext.block e.grown hW2))
  refine quiet_wide 13 (by kernel_rfl) (by kernel_rfl) ?_
  simp only [List.take_succ_cons, List.take_zero, List.drop_succ_cons, List.drop_zero]
  have q1 := HC.out
  repeat (any_goals (first | go_big_quiet_step ((first | (go_at_call 105; with_reducible exact Cal.quiet (H1.out _)) | (go_at_call 105; with_reducible exact Cal.quiet (H2.out _)))) | quiet_step ((first | (go_at_call 105; with_reducible exact Cal.quiet (H1.out _)) | (go_at_call 105; with_reducible exact Cal.quiet (H2.out _))))))
  refine wpQuiet_nil ?_
  rintro w5 ⟨⟨w6, hx5⟩, he5⟩
  obtain rfl : w5 = w6 := he5
  have hx5 : Ext W w5 := hx5
  clear q1 HC
  have hc := cell_of (hx5.block hW3)
  have hf := free_of (hx5.block hW3)
  gi_wp2
  refine bodyPost_ret (v := spnV ⟨-gap - L1, gap + L2⟩) (by simp [results, Try.results96, go_sem, spnV, hc]) rfl ⟨rfl, ?_⟩
  exact ((hW.trans hx5).set (by omega) _ _).set (by omega) _ _

end Go.Proofs.Ytmjelgonhpgmbaa
