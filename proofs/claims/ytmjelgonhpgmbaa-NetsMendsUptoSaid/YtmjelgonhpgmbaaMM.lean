/- Torn nets: the map of bars; what a bar must be. -/
import Derived.Test.YtmjelgonhpgmbaaML
import Derived.DeepKeys3
set_option linter.unusedSimpArgs false
set_option linter.unusedVariables false
namespace Go.Proofs.Ytmjelgonhpgmbaa
open Go Go.RowKit Go.Shelf
def barV (p : Int × Int) : Value := .agg #[.int .i64 p.1, .int .i64 p.2]
theorem eq_bar (p q : Int × Int) (w : World) : (Op.equal 86 (barV p) (barV q)).run Try.prog w = .ok (p.1 == q.1 && p.2 == q.2) w := by
  unfold barV
  show (Op.equalIn 10000 86 _ _).run Try.prog w = _
  simp [go_sem]
  by_cases h1 : p.1 = q.1 <;> by_cases h2 : p.2 = q.2 <;> simp [h1, h2]
theorem check_int (e : Bool) (n : Nat) (a : Int) (w : World) : (Instr.checkKey e (n + 1) 3 (.int .i64 a)).run Try.prog w = .ok () w := by
  rw [Instr.checkKey]
  simp [go_sem]
theorem check_bar (e : Bool) (p : Int × Int) (w : World) : (Instr.checkKey e 10000 86 (barV p)).run Try.prog w = .ok () w := by
  unfold barV
  show (Instr.checkKey e (9998 + 1 + 1) 86 _).run Try.prog w = _
  rw [Instr.checkKey]
  simp [go_sem, check_int]

/-- A map as the list of its entries. -/
abbrev PMap := List ((Int × Int) × Int)
def PMap.find (m : PMap) (p : Int × Int) : Option Int := (List.find? (fun e => p.1 == e.1.1 && p.2 == e.1.2) m).map (·.2)
def MapBlk (w : World) (bm : Nat) (m : PMap) : Prop :=
  ∃ es clock, w.heap[bm]? = some (.map es clock) ∧ es.toList.map (fun e => (e.key, e.val)) = m.map fun e => (barV e.1, .int .i64 e.2)

theorem find_asking (p : Int × Int) (w : World) : ∀ (es : List MapEntry) (m : PMap) (i : Nat), es.map (fun e => (e.key, e.val)) = m.map (fun e => (barV e.1, .int .i64 e.2)) →
    ∃ r, (Instr.findAsking 86 (barV p) es i).run Try.prog w = .ok r w ∧ r.map (·.2) = (m.find p).map (Value.int .i64)
  | [], m, i, h => by
    cases m with
    | nil => exact ⟨none, by simp [Instr.findAsking], rfl⟩
    | cons e m => cases h
  | e :: es, m, i, h => by
    cases m with
    | nil => cases h
    | cons f m =>
      simp only [List.map_cons, List.cons.injEq, Prod.mk.injEq] at h
      obtain ⟨⟨h1, h2⟩, h3⟩ := h
      rw [Instr.findAsking, Sem.run_bind, h1, eq_bar, Result.andThen_ok]
      cases hb : (p.1 == f.1.1 && p.2 == f.1.2) with
      | true =>
        refine ⟨some (i, e.val), by simp, ?_⟩
        simp [PMap.find, hb, h2]
      | false =>
        obtain ⟨r, hr, hf⟩ := find_asking p w es m (i + 1) h3
        refine ⟨r, by simpa using hr, ?_⟩
        rw [hf]; simp [PMap.find, hb]
theorem find_key (p : Int × Int) (w : World) (es : List MapEntry) (m : PMap) (h : es.map (fun e => (e.key, e.val)) = m.map (fun e => (barV e.1, .int .i64 e.2))) :
    ∃ r, (Instr.findKey 86 (barV p) es).run Try.prog w = .ok r w ∧ r.map (·.2) = (m.find p).map (Value.int .i64) := by
  cases es with
  | nil =>
    cases m with
    | nil => exact ⟨none, by simp [Instr.findKey, Instr.findNow, go_sem], rfl⟩
    | cons e m => cases h
  | cons e es =>
    obtain ⟨r, hr, hf⟩ := find_asking p w (e :: es) m 0 h
    refine ⟨r, ?_, hf⟩
    rw [← hr]
    have hn : ∀ d, Instr.findNow (.struct d) (barV p) (e :: es) 0 = none := fun d => by simp [Instr.findNow, Instr.sameNow]
    simp [Instr.findKey, go_sem, hn]

theorem run_lookup_bar {w : World} {bm : Nat} {m : PMap} (h : MapBlk w bm m) (p : Int × Int) :
    (Instr.lookup 94 (.map (some bm)) (barV p) true).run Try.prog w = .ok (.tuple #[.int .i64 ((m.find p).getD 0), .bool (m.find p).isSome]) w := by
  obtain ⟨es, clock, hb, hm⟩ := h
  obtain ⟨r, hr, hf⟩ := find_key p w es.toList m hm
  have hg : (getObj bm).run Try.prog w = .ok (.map es clock) w := by simp [getObj, Sem.run, hb]
  unfold Instr.lookup
  simp only [Sem.run_bind, run_underlying Try.underlying94, Result.andThen_ok, Sem.run_pure, hg, check_bar, hr]
  cases hfind : m.find p with
  | none =>
    rw [hfind] at hf
    have : r = none := by cases r <;> simp at hf ⊢
    subst this
    simp [go_sem]
  | some c =>
    rw [hfind] at hf
    obtain ⟨i, v⟩ : ∃ i v, r = some (i, v) := by
      cases r with
      | none => simp at hf
      | some x => exact ⟨x.1, x.2, rfl⟩
    obtain ⟨v, rfl⟩ := v
    simp at hf
    subst hf
    simp [go_sem]

theorem run_update_bar {w : World} {bm : Nat} {m : PMap} (h : MapBlk w bm m) (p : Int × Int) (c : Int) (hno : m.find p = none) :
    ∃ o, (Instr.mapUpdate 94 (.map (some bm)) (barV p) (.int .i64 c)).run Try.prog w = .ok () (w.putObj bm o) ∧ MapBlk (w.putObj bm o) bm (m ++ [(p, c)]) := by
  obtain ⟨es, clock, hb, hm⟩ := h
  obtain ⟨r, hr, hf⟩ := find_key p w es.toList m hm
  rw [hno] at hf
  have hrn : r = none := by cases r <;> simp at hf ⊢
  subst hrn
  have hg : (getObj bm).run Try.prog w = .ok (.map es clock) w := by simp [getObj, Sem.run, hb]
  refine ⟨.map (es.push { key := barV p, val := .int .i64 c, born := clock }) (clock + 1), ?_, _, _, World.putObj_heap_same (lt_of_block hb), ?_⟩
  · unfold Instr.mapUpdate
    simp only [Sem.run_bind, run_underlying Try.underlying94, Result.andThen_ok, Sem.run_pure, hg, check_bar, hr]
    simp [setObj, Sem.run, hb, World.putObj]
  · simp [hm]

structure TornD where
  wide : Int
  high : Int
  bars : List Spn
  mesh : Int
  knot : Int
/-- A bar joins a knot to the next one of its row, or to the one below. -/
def isBarB (wide high : Int) (b : Spn) : Bool := inB b.lo 0 (wide * high - 1) && (inB b.hi 0 (wide * high - 1) && ((b.hi == b.lo + wide) || ((b.hi == b.lo + 1) && (b.hi % wide != 0))))
theorem isIn_self (n lo hi : Int) (w : World) : Cal 62 #[.int .i64 n, .int .i64 lo, .int .i64 hi] w fun e w' => e = .returned (.bool (inB n lo hi)) ∧ w = w' := isIn_any n lo hi w
set_option maxHeartbeats 2000000 in
theorem isBar_any (wide high mesh knot : Int) (sv mv : Value) (b : Spn) (hw : 2 ≤ wide ∧ wide ≤ 6) (hh : 2 ≤ high ∧ high ≤ 6) (w : World) :
    Cal 65 #[.agg #[.int .i64 wide, .int .i64 high, sv, .int .i64 mesh, .int .i64 knot, mv], .agg #[.int .i64 b.lo, .int .i64 b.hi]] w fun e w' => e = .returned (.bool (isBarB wide high b)) ∧ Ext w w' := by
  have hm : 4 ≤ wide * high ∧ wide * high ≤ 36 := by
    obtain ⟨w1, w2⟩ := hw
    obtain ⟨h1, h2⟩ := hh
    have a1 := Int.mul_le_mul_of_nonneg_right w1 (show (0 : Int) ≤ high by omega)
    have a2 := Int.mul_le_mul_of_nonneg_right w2 (show (0 : Int) ≤ high by omega)
    omega
  obtain ⟨f, g⟩ := b
  unfold isBarB
  simp only
  have HE : Hid (∀ (a b c d : Int) (u : World), (Op.equal 86 (.agg #[.int .i64 a, .int .i64 b]) (.agg #[.int .i64 c, .int .i64 d])).run Try.prog u = .ok (a == c && b == d) u) := fun a b c d u => eq_bar (a, b) (c, d) u
  have HI := hid (fun (n : Int) (u : World) => isIn_self n 0 (wide * high - 1) u)
  gi_enter Try.func65, Try.ntmps65
  gi_upto_region 1 with fail
  have hW : Ext w ((w.alloc (.cells #[.int .i64 wide, .int .i64 high, sv, .int .i64 mesh, .int .i64 knot, mv] 96)).alloc (.cells #[.int .i64 f, .int .i64 g] 86)) := ((Ext.refl _).alloc _).alloc _
  have hW0 : ((w.alloc (.cells #[.int .i64 wide, .int .i64 high, sv, .int .i64 mesh, .int .i64 knot, mv] 96)).alloc (.cells #[.int .i64 f, .int .i64 g] 86)).heap[w.heap.size]? = some (.cells #[.int .i64 wide, .int .i64 high, sv, .int .i64 mesh, .int .i64 knot, mv] 96 (0, 0)) := by simp only [alloc_at, World.size_alloc]; (repeat rw [if_neg (by omega)]); first | rfl | rw [if_pos (by omega)] | rw [if_pos trivial]
  have hW1 : ((w.alloc (.cells #[.int .i64 wide, .int .i64 high, sv, .int .i64 mesh, .int .i64 knot, mv] 96)).alloc (.cells #[.int .i64 f, .int .i64 g] 86)).heap[w.heap.size + 1]? = some (.cells #[.int .i64 f, .int .i64 g] 86 (0, 0)) := by simp only [alloc_at, World.size_alloc]; (repeat rw [if_neg (by omega)]); first | rfl | rw [if_pos (by omega)] | rw [if_pos trivial]
  generalize (w.alloc (.cells #[.int .i64 wide, .int .i64 high, sv, .int .i64 mesh, .int .i64 knot, mv] 96)).alloc (.cells #[.int .i64 f, .int .i64 g] 86) = W at *
  have HX := hid hW
  have hc0 := cell_of hW0
  have hc1 := cell_of hW1
  have HB0 := hid hW0
  have HB1 := hid hW1
  clear hW hW0 hW1
  gi_upto_region 2 with fail
  have hPb : 3 ≤ wide * high - 1 ∧ wide * high - 1 ≤ 35 := by omega
  cases h1 : inB f 0 (wide * high - 1)
  case false =>
    have HF := hid (HI.out f)
    rw [h1] at HF
    gi_wp2_with (gi_at_call 62; ((with_reducible refine (HF.out _).mono ?_); rintro e w2 ⟨rfl, rfl⟩))
    go_ret
    exact ⟨by rw [h1]; rfl, HX.out⟩
  case true =>
  cases h2 : inB g 0 (wide * high - 1)
  case false =>
    have HF := hid (HI.out f)
    rw [h1] at HF
    have HG := hid (HI.out g)
    rw [h2] at HG
    have hf := inB_spec h1
    gi_wp2_with (gi_at_call 62; first | ((with_reducible refine (HF.out _).mono ?_); rintro e w2 ⟨rfl, rfl⟩) | ((with_reducible refine (HG.out _).mono ?_); rintro e w3 ⟨rfl, rfl⟩))
    go_ret
    exact ⟨by rw [h1, h2]; rfl, HX.out⟩
  case true =>
  have HF := hid (HI.out f)
  rw [h1] at HF
  have HG := hid (HI.out g)
  rw [h2] at HG
  have hf := inB_spec h1
  have hg := inB_spec h2
  have hne : wide ≠ 0 := by omega
  have hl0 := lt_of_block HB0.out
  have hl1 := lt_of_block HB1.out
  have HSP : Hid (∀ x, (inB f 0 (wide * high - 1) && (inB g 0 (wide * high - 1) && x)) = x) := fun x => by rw [h1, h2]; rfl
  clear h1 h2
  gi_upto_region 6 with (gi_at_call 62; first | ((with_reducible refine (HF.out _).mono ?_); rintro e w2 ⟨rfl, rfl⟩) | ((with_reducible refine (HG.out _).mono ?_); rintro e w3 ⟨rfl, rfl⟩))
  have hxa : Ext w ((W.alloc (.cells #[.int .i64 f, .int .i64 (f + 1)] 86)).alloc (.cells #[.int .i64 f, .int .i64 (f + wide)] 86)) := (HX.out.alloc _).alloc _
  have hbn : ((W.alloc (.cells #[.int .i64 f, .int .i64 (f + 1)] 86)).alloc (.cells #[.int .i64 f, .int .i64 (f + wide)] 86)).heap[W.heap.size]? = some (.cells #[.int .i64 f, .int .i64 (f + 1)] 86 (0, 0)) := two_new
  have hbb : ((W.alloc (.cells #[.int .i64 f, .int .i64 (f + 1)] 86)).alloc (.cells #[.int .i64 f, .int .i64 (f + wide)] 86)).heap[W.heap.size + 1]? = some (.cells #[.int .i64 f, .int .i64 (f + wide)] 86 (0, 0)) := by
    have := Ext.new (w := W.alloc (.cells #[.int .i64 f, .int .i64 (f + 1)] 86)) (o := .cells #[.int .i64 f, .int .i64 (f + wide)] 86) (Ext.refl _); rwa [World.size_alloc] at this
  have hc2 := cell_of hbn
  have hc3 := cell_of hbb
  have hb0 := ((((Ext.refl W).alloc (.cells #[.int .i64 f, .int .i64 (f + 1)] 86)).alloc (.cells #[.int .i64 f, .int .i64 (f + wide)] 86))).block HB0.out
  have hb1 := ((((Ext.refl W).alloc (.cells #[.int .i64 f, .int .i64 (f + 1)] 86)).alloc (.cells #[.int .i64 f, .int .i64 (f + wide)] 86))).block HB1.out
  clear hc0 hc1 hbn hbb
  have hc0 := cell_of hb0
  have hc1 := cell_of hb1
  clear hb0 hb1
  generalize (W.alloc (.cells #[.int .i64 f, .int .i64 (f + 1)] 86)).alloc (.cells #[.int .i64 f, .int .i64 (f + wide)] 86) = W2 at *
  have q1 := HE.out f g f (f + wide) W2
  have q2 := HE.out f g f (f + 1) W2
  rw [beq_self_eq_true, Bool.true_and] at q1 q2
  cases e1 : g == f + wide
  case true =>
    rw [e1] at q1
    gi_wp2_with fail
    go_ret
    exact ⟨by rw [HSP.out, e1]; rfl, hxa⟩
  case false =>
  rw [e1] at q1
  cases e2 : g == f + 1
  case false =>
    rw [e2] at q2
    gi_wp2_with fail
    go_ret
    exact ⟨by rw [HSP.out, e1, e2]; rfl, hxa⟩
  case true =>
  rw [e2] at q2
  gi_wp2_with fail
  go_ret
  exact ⟨by rw [HSP.out, e1, e2]; rfl, hxa⟩



def barKey (b : Spn) : Int × Int := (b.lo, b.hi)
def barMapTo (l : List Spn) (k : Nat) : PMap := (List.range k).map fun i => (barKey (l.getD i ⟨0, 0⟩), (i : Int))
theorem barMapTo_succ (l : List Spn) {k : Nat} (h : k < l.length) : barMapTo l (k + 1) = barMapTo l k ++ [(barKey l[k], (k : Int))] := by
  unfold barMapTo
  rw [List.range_succ, List.map_append]
  simp [h]
def tornHeadB (T : TornD) : Bool := inB T.wide 2 6 && (inB T.high 2 6 && (inB T.mesh 1 100 && inB T.knot 0 100))
def barGood (T : TornD) (i : Nat) : Bool := ((barMapTo T.bars i).find (barKey (T.bars.getD i ⟨0, 0⟩))).isNone && isBarB T.wide T.high (T.bars.getD i ⟨0, 0⟩)
def tornB (T : TornD) : Bool := tornHeadB T && allTo (barGood T) T.bars.length
theorem barGood_eq {T : TornD} {k : Nat} (h : k < T.bars.length) : barGood T k = (((barMapTo T.bars k).find (barKey T.bars[k])).isNone && isBarB T.wide T.high T.bars[k]) := by unfold barGood; rw [getD_of h]
theorem info96 : (Try.prog.info? 96).map (·.size) = some 6 := by kernel_rfl

set_option maxRecDepth 100000 in
set_option maxHeartbeats 4000000 in
theorem newTorn_head (T : TornD) (hT : tornHeadB T = false) (sv : Value) (w : World) (hs : SpansAt w sv T.bars) :
    Cal 44 #[.agg #[.int .i64 T.wide, .int .i64 T.high, sv, .int .i64 T.mesh, .int .i64 T.knot]] w fun e w' => e = .returned (.tuple #[.agg #[.int .i64 0, .int .i64 0, .slice none 0 0, .int .i64 0, .int .i64 0, .map none], .int .i64 23]) ∧ Ext w w' := by
  obtain ⟨sa, sc, rfl, hlen, hcs⟩ := hs
  have HC := hid hcs
  clear hcs
  have HI := hid (fun (n lo hi : Int) (u : World) => isIn_self n lo hi u)
  gi_enter Try.func44, Try.ntmps44
  gi_upto_region 1 with fail
  have hW : Ext w ((w.alloc (.cells #[.int .i64 T.wide, .int .i64 T.high, .slice sa T.bars.length sc, .int .i64 T.mesh, .int .i64 T.knot] 24)).alloc (.cells #[.int .i64 0, .int .i64 0, .slice none 0 0, .int .i64 0, .int .i64 0, .map none] 96)) := ((Ext.refl _).alloc _).alloc _
  have hW0 : ((w.alloc (.cells #[.int .i64 T.wide, .int .i64 T.high, .slice sa T.bars.length sc, .int .i64 T.mesh, .int .i64 T.knot] 24)).alloc (.cells #[.int .i64 0, .int .i64 0, .slice none 0 0, .int .i64 0, .int .i64 0, .map none] 96)).heap[w.heap.size]? = some (.cells #[.int .i64 T.wide, .int .i64 T.high, .slice sa T.bars.length sc, .int .i64 T.mesh, .int .i64 T.knot] 24 (0, 0)) := by simp only [alloc_at, World.size_alloc]; (repeat rw [if_neg (by omega)]); first | rfl | rw [if_pos (by omega)] | rw [if_pos trivial]
  have hW1 : ((w.alloc (.cells #[.int .i64 T.wide, .int .i64 T.high, .slice sa T.bars.length sc, .int .i64 T.mesh, .int .i64 T.knot] 24)).alloc (.cells #[.int .i64 0, .int .i64 0, .slice none 0 0, .int .i64 0, .int .i64 0, .map none] 96)).heap[w.heap.size + 1]? = some (.cells #[.int .i64 0, .int .i64 0, .slice none 0 0, .int .i64 0, .int .i64 0, .map none] 96 (0, 0)) := by simp only [alloc_at, World.size_alloc]; (repeat rw [if_neg (by omega)]); first | rfl | rw [if_pos (by omega)] | rw [if_pos trivial]
  generalize (w.alloc (.cells #[.int .i64 T.wide, .int .i64 T.high, .slice sa T.bars.length sc, .int .i64 T.mesh, .int .i64 T.knot] 24)).alloc (.cells #[.int .i64 0, .int .i64 0, .slice none 0 0, .int .i64 0, .int .i64 0, .map none] 96) = W at *
  have HX := hid hW
  have HB0 := hid hW0
  have HB1 := hid hW1
  have hc0 := cell_of hW0
  have hf1 := free_of hW1
  have hd1 := cell_of hW1
  clear hW hW0 hW1
  cases h0 : inB T.wide 2 6
  case false =>
    have H0 := hid (HI.out T.wide 2 6)
    rw [h0] at H0
    clear hT
    gi_wp2_with (gi_at_call 62; first | ((with_reducible refine (H0.out _).mono ?_); rintro e w2 ⟨rfl, rfl⟩))
    have hx := HX.out
    have hbk := HB1.out
    clear hf1 hd1 hc0
    have hb3 : ((((((W.setCell ⟨w.heap.size + 1, 0, none⟩ (.int .i64 0)).setCell ⟨w.heap.size + 1, 1, none⟩ (.int .i64 0)).setCell ⟨w.heap.size + 1, 2, none⟩ (.slice none 0 0)).setCell ⟨w.heap.size + 1, 3, none⟩ (.int .i64 0)).setCell ⟨w.heap.size + 1, 4, none⟩ (.int .i64 0)).setCell ⟨w.heap.size + 1, 5, none⟩ (.map none)).heap[w.heap.size + 1]? = some (.cells #[.int .i64 0, .int .i64 0, .slice none 0 0, .int .i64 0, .int .i64 0, .map none] 96 (0, 0)) := by
      have h := set_same (set_same (set_same (set_same (set_same (set_same (hbk) 0 (.int .i64 0)) 1 (.int .i64 0)) 2 (.slice none 0 0)) 3 (.int .i64 0)) 4 (.int .i64 0)) 5 (.map none)
      simpa using h
    have hE : Ext w ((((((W.setCell ⟨w.heap.size + 1, 0, none⟩ (.int .i64 0)).setCell ⟨w.heap.size + 1, 1, none⟩ (.int .i64 0)).setCell ⟨w.heap.size + 1, 2, none⟩ (.slice none 0 0)).setCell ⟨w.heap.size + 1, 3, none⟩ (.int .i64 0)).setCell ⟨w.heap.size + 1, 4, none⟩ (.int .i64 0)).setCell ⟨w.heap.size + 1, 5, none⟩ (.map none)) := ((((((hx).set (b := w.heap.size + 1) (by omega) _ _).set (b := w.heap.size + 1) (by omega) _ _).set (b := w.heap.size + 1) (by omega) _ _).set (b := w.heap.size + 1) (by omega) _ _).set (b := w.heap.size + 1) (by omega) _ _).set (b := w.heap.size + 1) (by omega) _ _
    generalize ((((((W.setCell ⟨w.heap.size + 1, 0, none⟩ (.int .i64 0)).setCell ⟨w.heap.size + 1, 1, none⟩ (.int .i64 0)).setCell ⟨w.heap.size + 1, 2, none⟩ (.slice none 0 0)).setCell ⟨w.heap.size + 1, 3, none⟩ (.int .i64 0)).setCell ⟨w.heap.size + 1, 4, none⟩ (.int .i64 0)).setCell ⟨w.heap.size + 1, 5, none⟩ (.map none)) = WF at *
    have hc := cell_of hb3
    exact bodyPost_ret (v := .tuple #[.agg #[.int .i64 0, .int .i64 0, .slice none 0 0, .int .i64 0, .int .i64 0, .map none], .int .i64 23]) (by simp [results, Try.results44, go_sem, hc]) rfl ⟨rfl, hE⟩
  case true =>
  cases h1 : inB T.high 2 6
  case false =>
    have H0 := hid (HI.out T.wide 2 6)
    rw [h0] at H0
    have H1 := hid (HI.out T.high 2 6)
    rw [h1] at H1
    clear hT
    gi_wp2_with (gi_at_call 62; first | ((with_reducible refine (H0.out _).mono ?_); rintro e w2 ⟨rfl, rfl⟩) | ((with_reducible refine (H1.out _).mono ?_); rintro e w2 ⟨rfl, rfl⟩))
    have hx := HX.out
    have hbk := HB1.out
    clear hf1 hd1 hc0
    have hb3 : ((((((W.setCell ⟨w.heap.size + 1, 0, none⟩ (.int .i64 0)).setCell ⟨w.heap.size + 1, 1, none⟩ (.int .i64 0)).setCell ⟨w.heap.size + 1, 2, none⟩ (.slice none 0 0)).setCell ⟨w.heap.size + 1, 3, none⟩ (.int .i64 0)).setCell ⟨w.heap.size + 1, 4, none⟩ (.int .i64 0)).setCell ⟨w.heap.size + 1, 5, none⟩ (.map none)).heap[w.heap.size + 1]? = some (.cells #[.int .i64 0, .int .i64 0, .slice none 0 0, .int .i64 0, .int .i64 0, .map none] 96 (0, 0)) := by
      have h := set_same (set_same (set_same (set_same (set_same (set_same (hbk) 0 (.int .i64 0)) 1 (.int .i64 0)) 2 (.slice none 0 0)) 3 (.int .i64 0)) 4 (.int .i64 0)) 5 (.map none)
      simpa using h
    have hE : Ext w ((((((W.setCell ⟨w.heap.size + 1, 0, none⟩ (.int .i64 0)).setCell ⟨w.heap.size + 1, 1, none⟩ (.int .i64 0)).setCell ⟨w.heap.size + 1, 2, none⟩ (.slice none 0 0)).setCell ⟨w.heap.size + 1, 3, none⟩ (.int .i64 0)).setCell ⟨w.heap.size + 1, 4, none⟩ (.int .i64 0)).setCell ⟨w.heap.size + 1, 5, none⟩ (.map none)) := ((((((hx).set (b := w.heap.size + 1) (by omega) _ _).set (b := w.heap.size + 1) (by omega) _ _).set (b := w.heap.size + 1) (by omega) _ _).set (b := w.heap.size + 1) (by omega) _ _).set (b := w.heap.size + 1) (by omega) _ _).set (b := w.heap.size + 1) (by omega) _ _
    generalize ((((((W.setCell ⟨w.heap.size + 1, 0, none⟩ (.int .i64 0)).setCell ⟨w.heap.size + 1, 1, none⟩ (.int .i64 0)).setCell ⟨w.heap.size + 1, 2, none⟩ (.slice none 0 0)).setCell ⟨w.heap.size + 1, 3, none⟩ (.int .i64 0)).setCell ⟨w.heap.size + 1, 4, none⟩ (.int .i64 0)).setCell ⟨w.heap.size + 1, 5, none⟩ (.map none)) = WF at *
    have hc := cell_of hb3
    exact bodyPost_ret (v := .tuple #[.agg #[.int .i64 0, .int .i64 0, .slice none 0 0, .int .i64 0, .int .i64 0, .map none], .int .i64 23]) (by simp [results, Try.results44, go_sem, hc]) rfl ⟨rfl, hE⟩
  case true =>
  cases h2 : inB T.mesh 1 100
  case false =>
    have H0 := hid (HI.out T.wide 2 6)
    rw [h0] at H0
    have H1 := hid (HI.out T.high 2 6)
    rw [h1] at H1
    have H2 := hid (HI.out T.mesh 1 100)
    rw [h2] at H2
    clear hT
    gi_wp2_with (gi_at_call 62; first | ((with_reducible refine (H0.out _).mono ?_); rintro e w2 ⟨rfl, rfl⟩) | ((with_reducible refine (H1.out _).mono ?_); rintro e w2 ⟨rfl, rfl⟩) | ((with_reducible refine (H2.out _).mono ?_); rintro e w2 ⟨rfl, rfl⟩))
    have hx := HX.out
    have hbk := HB1.out
    clear hf1 hd1 hc0
    have hb3 : ((((((W.setCell ⟨w.heap.size + 1, 0, none⟩ (.int .i64 0)).setCell ⟨w.heap.size + 1, 1, none⟩ (.int .i64 0)).setCell ⟨w.heap.size + 1, 2, none⟩ (.slice none 0 0)).setCell ⟨w.heap.size + 1, 3, none⟩ (.int .i64 0)).setCell ⟨w.heap.size + 1, 4, none⟩ (.int .i64 0)).setCell ⟨w.heap.size + 1, 5, none⟩ (.map none)).heap[w.heap.size + 1]? = some (.cells #[.int .i64 0, .int .i64 0, .slice none 0 0, .int .i64 0, .int .i64 0, .map none] 96 (0, 0)) := by
      have h := set_same (set_same (set_same (set_same (set_same (set_same (hbk) 0 (.int .i64 0)) 1 (.int .i64 0)) 2 (.slice none 0 0)) 3 (.int .i64 0)) 4 (.int .i64 0)) 5 (.map none)
      simpa using h
    have hE : Ext w ((((((W.setCell ⟨w.heap.size + 1, 0, none⟩ (.int .i64 0)).setCell ⟨w.heap.size + 1, 1, none⟩ (.int .i64 0)).setCell ⟨w.heap.size + 1, 2, none⟩ (.slice none 0 0)).setCell ⟨w.heap.size + 1, 3, none⟩ (.int .i64 0)).setCell ⟨w.heap.size + 1, 4, none⟩ (.int .i64 0)).setCell ⟨w.heap.size + 1, 5, none⟩ (.map none)) := ((((((hx).set (b := w.heap.size + 1) (by omega) _ _).set (b := w.heap.size + 1) (by omega) _ _).set (b := w.heap.size + 1) (by omega) _ _).set (b := w.heap.size + 1) (by omega) _ _).set (b := w.heap.size + 1) (by omega) _ _).set (b := w.heap.size + 1) (by omega) _ _
    generalize ((((((W.setCell ⟨w.heap.size + 1, 0, none⟩ (.int .i64 0)).setCell ⟨w.heap.size + 1, 1, none⟩ (.int .i64 0)).setCell ⟨w.heap.size + 1, 2, none⟩ (.slice none 0 0)).setCell ⟨w.heap.size + 1, 3, none⟩ (.int .i64 0)).setCell ⟨w.heap.size + 1, 4, none⟩ (.int .i64 0)).setCell ⟨w.heap.size + 1, 5, none⟩ (.map none)) = WF at *
    have hc := cell_of hb3
    exact bodyPost_ret (v := .tuple #[.agg #[.int .i64 0, .int .i64 0, .slice none 0 0, .int .i64 0, .int .i64 0, .map none], .int .i64 23]) (by simp [results, Try.results44, go_sem, hc]) rfl ⟨rfl, hE⟩
  case true =>
  cases h3 : inB T.knot 0 100
  case false =>
    have H0 := hid (HI.out T.wide 2 6)
    rw [h0] at H0
    have H1 := hid (HI.out T.high 2 6)
    rw [h1] at H1
    have H2 := hid (HI.out T.mesh 1 100)
    rw [h2] at H2
    have H3 := hid (HI.out T.knot 0 100)
    rw [h3] at H3
    clear hT
    gi_wp2_with (gi_at_call 62; first | ((with_reducible refine (H0.out _).mono ?_); rintro e w2 ⟨rfl, rfl⟩) | ((with_reducible refine (H1.out _).mono ?_); rintro e w2 ⟨rfl, rfl⟩) | ((with_reducible refine (H2.out _).mono ?_); rintro e w2 ⟨rfl, rfl⟩) | ((with_reducible refine (H3.out _).mono ?_); rintro e w2 ⟨rfl, rfl⟩))
    have hx := HX.out
    have hbk := HB1.out
    clear hf1 hd1 hc0
    have hb3 : ((((((W.setCell ⟨w.heap.size + 1, 0, none⟩ (.int .i64 0)).setCell ⟨w.heap.size + 1, 1, none⟩ (.int .i64 0)).setCell ⟨w.heap.size + 1, 2, none⟩ (.slice none 0 0)).setCell ⟨w.heap.size + 1, 3, none⟩ (.int .i64 0)).setCell ⟨w.heap.size + 1, 4, none⟩ (.int .i64 0)).setCell ⟨w.heap.size + 1, 5, none⟩ (.map none)).heap[w.heap.size + 1]? = some (.cells #[.int .i64 0, .int .i64 0, .slice none 0 0, .int .i64 0, .int .i64 0, .map none] 96 (0, 0)) := by
      have h := set_same (set_same (set_same (set_same (set_same (set_same (hbk) 0 (.int .i64 0)) 1 (.int .i64 0)) 2 (.slice none 0 0)) 3 (.int .i64 0)) 4 (.int .i64 0)) 5 (.map none)
      simpa using h
    have hE : Ext w ((((((W.setCell ⟨w.heap.size + 1, 0, none⟩ (.int .i64 0)).setCell ⟨w.heap.size + 1, 1, none⟩ (.int .i64 0)).setCell ⟨w.heap.size + 1, 2, none⟩ (.slice none 0 0)).setCell ⟨w.heap.size + 1, 3, none⟩ (.int .i64 0)).setCell ⟨w.heap.size + 1, 4, none⟩ (.int .i64 0)).setCell ⟨w.heap.size + 1, 5, none⟩ (.map none)) := ((((((hx).set (b := w.heap.size + 1) (by omega) _ _).set (b := w.heap.size + 1) (by omega) _ _).set (b := w.heap.size + 1) (by omega) _ _).set (b := w.heap.size + 1) (by omega) _ _).set (b := w.heap.size + 1) (by omega) _ _).set (b := w.heap.size + 1) (by omega) _ _
    generalize ((((((W.setCell ⟨w.heap.size + 1, 0, none⟩ (.int .i64 0)).setCell ⟨w.heap.size + 1, 1, none⟩ (.int .i64 0)).setCell ⟨w.heap.size + 1, 2, none⟩ (.slice none 0 0)).setCell ⟨w.heap.size + 1, 3, none⟩ (.int .i64 0)).setCell ⟨w.heap.size + 1, 4, none⟩ (.int .i64 0)).setCell ⟨w.heap.size + 1, 5, none⟩ (.map none)) = WF at *
    have hc := cell_of hb3
    exact bodyPost_ret (v := .tuple #[.agg #[.int .i64 0, .int .i64 0, .slice none 0 0, .int .i64 0, .int .i64 0, .map none], .int .i64 23]) (by simp [results, Try.results44, go_sem, hc]) rfl ⟨rfl, hE⟩
  case true =>
  exact absurd hT (by unfold tornHeadB; rw [h0, h1, h2, h3]; simp)

set_option maxRecDepth 100000 in
set_option maxHeartbeats 8000000 in
theorem newTorn_any (T : TornD) (hT : tornHeadB T = true) (sv : Value) (w : World) (hs : SpansAt w sv T.bars) :
    Cal 44 #[.agg #[.int .i64 T.wide, .int .i64 T.high, sv, .int .i64 T.mesh, .int .i64 T.knot]] w fun e w' => Ext w w' ∧ ((tornB T = false ∧ e = .returned (.tuple #[.agg #[.int .i64 0, .int .i64 0, .slice none 0 0, .int .i64 0, .int .i64 0, .map none], .int .i64 23])) ∨ (tornB T = true ∧ ∃ bm, e = .returned (.tuple #[.agg #[.int .i64 T.wide, .int .i64 T.high, sv, .int .i64 T.mesh, .int .i64 T.knot, .map (some bm)], .int .i64 0]) ∧ MapBlk w' bm (barMapTo T.bars T.bars.length))) := by
  have hTT := hT
  unfold tornHeadB at hTT
  simp only [Bool.and_eq_true] at hTT
  obtain ⟨h0, h1, h2, h3⟩ := hTT
  have hwide := inB_spec h0
  have hhigh := inB_spec h1
  obtain ⟨sa, sc, rfl, hlen, hcs⟩ := hs
  have HC := hid hcs
  clear hcs
  have HI := hid (fun (n lo hi : Int) (u : World) => isIn_self n lo hi u)
  gi_enter Try.func44, Try.ntmps44
  gi_upto_region 1 with fail
  have hW : Ext w ((w.alloc (.cells #[.int .i64 T.wide, .int .i64 T.high, .slice sa T.bars.length sc, .int .i64 T.mesh, .int .i64 T.knot] 24)).alloc (.cells #[.int .i64 0, .int .i64 0, .slice none 0 0, .int .i64 0, .int .i64 0, .map none] 96)) := ((Ext.refl _).alloc _).alloc _
  have hW0 : ((w.alloc (.cells #[.int .i64 T.wide, .int .i64 T.high, .slice sa T.bars.length sc, .int .i64 T.mesh, .int .i64 T.knot] 24)).alloc (.cells #[.int .i64 0, .int .i64 0, .slice none 0 0, .int .i64 0, .int .i64 0, .map none] 96)).heap[w.heap.size]? = some (.cells #[.int .i64 T.wide, .int .i64 T.high, .slice sa T.bars.length sc, .int .i64 T.mesh, .int .i64 T.knot] 24 (0, 0)) := by simp only [alloc_at, World.size_alloc]; (repeat rw [if_neg (by omega)]); first | rfl | rw [if_pos (by omega)] | rw [if_pos trivial]
  have hW1 : ((w.alloc (.cells #[.int .i64 T.wide, .int .i64 T.high, .slice sa T.bars.length sc, .int .i64 T.mesh, .int .i64 T.knot] 24)).alloc (.cells #[.int .i64 0, .int .i64 0, .slice none 0 0, .int .i64 0, .int .i64 0, .map none] 96)).heap[w.heap.size + 1]? = some (.cells #[.int .i64 0, .int .i64 0, .slice none 0 0, .int .i64 0, .int .i64 0, .map none] 96 (0, 0)) := by simp only [alloc_at, World.size_alloc]; (repeat rw [if_neg (by omega)]); first | rfl | rw [if_pos (by omega)] | rw [if_pos trivial]
  generalize (w.alloc (.cells #[.int .i64 T.wide, .int .i64 T.high, .slice sa T.bars.length sc, .int .i64 T.mesh, .int .i64 T.knot] 24)).alloc (.cells #[.int .i64 0, .int .i64 0, .slice none 0 0, .int .i64 0, .int .i64 0, .map none] 96) = W at *
  have HX := hid hW
  have HB0 := hid hW0
  have HB1 := hid hW1
  have hc0 := cell_of hW0
  have hf1 := free_of hW1
  have hd1 := cell_of hW1
  clear hW hW0 hW1

  have H0 := hid (HI.out T.wide 2 6)
  rw [h0] at H0
  have H1 := hid (HI.out T.high 2 6)
  rw [h1] at H1
  have H2 := hid (HI.out T.mesh 1 100)
  rw [h2] at H2
  have H3 := hid (HI.out T.knot 0 100)
  rw [h3] at H3
  have HT := hid hT
  clear hT h0 h1 h2 h3
  gi_upto_region 3 with (gi_at_call 62; first | ((with_reducible refine (H0.out _).mono ?_); rintro e w2 ⟨rfl, rfl⟩) | ((with_reducible refine (H1.out _).mono ?_); rintro e w2 ⟨rfl, rfl⟩) | ((with_reducible refine (H2.out _).mono ?_); rintro e w2 ⟨rfl, rfl⟩) | ((with_reducible refine (H3.out _).mono ?_); rintro e w2 ⟨rfl, rfl⟩))
  clear H0 H1 H2 H3 HI
  have hmm := @run_makeMap Try.prog
  gi_upto_region 4 with fail
  have hxa : Ext W ((W.alloc (.map #[] 0)).alloc (.cells #[.int .i64 T.wide, .int .i64 T.high, .slice sa T.bars.length sc, .int .i64 T.mesh, .int .i64 T.knot, .map (some W.heap.size)] 96)) := ((Ext.refl W).alloc _).alloc _
  have hbm : ((W.alloc (.map #[] 0)).alloc (.cells #[.int .i64 T.wide, .int .i64 T.high, .slice sa T.bars.length sc, .int .i64 T.mesh, .int .i64 T.knot, .map (some W.heap.size)] 96)).heap[W.heap.size]? = some (.map #[] 0) := two_new
  have hbg : ((W.alloc (.map #[] 0)).alloc (.cells #[.int .i64 T.wide, .int .i64 T.high, .slice sa T.bars.length sc, .int .i64 T.mesh, .int .i64 T.knot, .map (some W.heap.size)] 96)).heap[W.heap.size + 1]? = some (.cells #[.int .i64 T.wide, .int .i64 T.high, .slice sa T.bars.length sc, .int .i64 T.mesh, .int .i64 T.knot, .map (some W.heap.size)] 96 (0, 0)) := by
    have := Ext.new (w := W.alloc (.map #[] 0)) (o := .cells #[.int .i64 T.wide, .int .i64 T.high, .slice sa T.bars.length sc, .int .i64 T.mesh, .int .i64 T.knot, .map (some W.heap.size)] 96) (Ext.refl _); rwa [World.size_alloc] at this
  have hlt := lt_of_block HB1.out
  have hc := cell_of (hxa.block HB0.out)
  obtain ⟨bm, hbme⟩ : ∃ bm, bm = W.heap.size := ⟨_, rfl⟩
  obtain ⟨G, hGe⟩ : ∃ G, G = W.heap.size + 1 := ⟨_, rfl⟩
  rw [← hGe] at hbg ⊢
  rw [← hbme] at hbm hbg hlt ⊢
  have HJ : (fun (k : Nat) (wr : World) => Hid (Ext w wr ∧ wr.heap[w.heap.size + 1]? = some (.cells #[.int .i64 0, .int .i64 0, .slice none 0 0, .int .i64 0, .int .i64 0, .map none] 96 (0, 0)) ∧ wr.heap[G]? = some (.cells #[.int .i64 T.wide, .int .i64 T.high, .slice sa T.bars.length sc, .int .i64 T.mesh, .int .i64 T.knot, .map (some bm)] 96 (0, 0)) ∧ MapBlk wr bm (barMapTo T.bars k) ∧ w.heap.size + 1 < bm ∧ w.heap.size + 1 < G ∧ bm ≠ G ∧ ∀ j, j < k → barGood T j = true)) 0 ((W.alloc (.map #[] 0)).alloc (.cells #[.int .i64 T.wide, .int .i64 T.high, .slice sa T.bars.length sc, .int .i64 T.mesh, .int .i64 T.knot, .map (some bm)] 96)) := ⟨HX.out.trans (by rw [hbme]; exact hxa), (by rw [hbme]; exact hxa.block HB1.out), hbg, ⟨#[], 0, hbm, rfl⟩, hlt, by omega, by omega, fun j h => absurd h (by omega)⟩
  have HJ := hid HJ
  clear hbm hbg hlt hc0 hd1 hf1 hmm HB0 HB1 HX
  have hc0 := hc
  rw [← hbme] at hc0
  clear hc hxa
  generalize (W.alloc (.map #[] 0)).alloc (.cells #[.int .i64 T.wide, .int .i64 T.high, .slice sa T.bars.length sc, .int .i64 T.mesh, .int .i64 T.knot, .map (some bm)] 96) = W1 at *
  clear hGe hbme
  gi_wp2_with fail
  gi_loopw [38] (fun i wr => ∃ k : Nat, k ≤ T.bars.length ∧ i = .int .i64 k ∧ Hid (Ext w wr ∧ wr.heap[w.heap.size + 1]? = some (.cells #[.int .i64 0, .int .i64 0, .slice none 0 0, .int .i64 0, .int .i64 0, .map none] 96 (0, 0)) ∧ wr.heap[G]? = some (.cells #[.int .i64 T.wide, .int .i64 T.high, .slice sa T.bars.length sc, .int .i64 T.mesh, .int .i64 T.knot, .map (some bm)] 96 (0, 0)) ∧ MapBlk wr bm (barMapTo T.bars k) ∧ w.heap.size + 1 < bm ∧ w.heap.size + 1 < G ∧ bm ≠ G ∧ ∀ j, j < k → barGood T j = true)) (fun i _ => T.bars.length - (intOf i).toNat)
  case atStart => exact ⟨0, Nat.zero_le _, rfl, HJ.out⟩
  case round =>
    obtain ⟨k, hk, rfl, HI⟩ := hrel
    clear HJ hc0
    by_cases hlt : k < T.bars.length
    · obtain ⟨b, off, rfl, hb, c0, c1⟩ := HC.out k hlt
      rw [← HI.out.1.cell (p := ⟨b, _, none⟩) hb] at c0 c1
      have HS := hid (barMapTo_succ T.bars hlt)
      have HGE := hid (barGood_eq hlt)
      have hki : (k : Int) < T.bars.length := by omega
      have HNO : Hid (barGood T k = false → tornB T = false) := fun h => by unfold tornB; rw [allTo_no hlt h, Bool.and_false]
      generalize T.bars[k] = r at *
      have hx2 : Ext wr (wr.alloc (.cells #[.int .i64 r.lo, .int .i64 r.hi] 86)) := (Ext.refl _).alloc _
      have hb2 : (wr.alloc (.cells #[.int .i64 r.lo, .int .i64 r.hi] 86)).heap[wr.heap.size]? = some (.cells #[.int .i64 r.lo, .int .i64 r.hi] 86 (0, 0)) := Ext.new (Ext.refl _)
      gi_upto_region 7 with fail
      clear c0 c1
      have HX2 := hid (HI.out.1.trans hx2)
      have HZ := hid (hx2.block HI.out.2.1)
      have HG := hid (hx2.block HI.out.2.2.1)
      have HR := hid hb2
      have HM : Hid (MapBlk (wr.alloc (.cells #[.int .i64 r.lo, .int .i64 r.hi] 86)) bm (barMapTo T.bars k)) := by
        obtain ⟨es, cl, e1, e2⟩ := HI.out.2.2.2.1
        exact ⟨es, cl, hx2.block e1, e2⟩
      have HD := hid HI.out.2.2.2.2
      clear hx2 hb2 HI
      generalize wr.alloc (.cells #[.int .i64 r.lo, .int .i64 r.hi] 86) = W2 at *
      generalize wr.heap.size = gr at *
      have hlk := run_lookup_bar HM.out (barKey r)
      rw [show barV (barKey r) = .agg #[.int .i64 r.lo, .int .i64 r.hi] from rfl] at hlk
      have hcg := cell_of HG.out
      have hcr := cell_of HR.out
      cases hfind : (barMapTo T.bars k).find (barKey r) with
      | some c =>
        rw [hfind] at hlk HGE
        have HF : Hid (tornB T = false) := HNO.out (by rw [HGE.out]; rfl)
        simp only [Option.getD_some, Option.isSome_some] at hlk
        clear hfind
        have hd3 := cell_of HZ.out
        have hf3 := free_of HZ.out
        gi_wp2_with fail
        have hx := HX2.out
        have hbk := HZ.out
        clear hcg hcr hlk hd3 hf3
        have hb3 : ((((((W2.setCell ⟨w.heap.size + 1, 0, none⟩ (.int .i64 0)).setCell ⟨w.heap.size + 1, 1, none⟩ (.int .i64 0)).setCell ⟨w.heap.size + 1, 2, none⟩ (.slice none 0 0)).setCell ⟨w.heap.size + 1, 3, none⟩ (.int .i64 0)).setCell ⟨w.heap.size + 1, 4, none⟩ (.int .i64 0)).setCell ⟨w.heap.size + 1, 5, none⟩ (.map none)).heap[w.heap.size + 1]? = some (.cells #[.int .i64 0, .int .i64 0, .slice none 0 0, .int .i64 0, .int .i64 0, .map none] 96 (0, 0)) := by
          have h := set_same (set_same (set_same (set_same (set_same (set_same (hbk) 0 (.int .i64 0)) 1 (.int .i64 0)) 2 (.slice none 0 0)) 3 (.int .i64 0)) 4 (.int .i64 0)) 5 (.map none)
          simpa using h
        have hE : Ext w ((((((W2.setCell ⟨w.heap.size + 1, 0, none⟩ (.int .i64 0)).setCell ⟨w.heap.size + 1, 1, none⟩ (.int .i64 0)).setCell ⟨w.heap.size + 1, 2, none⟩ (.slice none 0 0)).setCell ⟨w.heap.size + 1, 3, none⟩ (.int .i64 0)).setCell ⟨w.heap.size + 1, 4, none⟩ (.int .i64 0)).setCell ⟨w.heap.size + 1, 5, none⟩ (.map none)) := ((((((hx).set (b := w.heap.size + 1) (by omega) _ _).set (b := w.heap.size + 1) (by omega) _ _).set (b := w.heap.size + 1) (by omega) _ _).set (b := w.heap.size + 1) (by omega) _ _).set (b := w.heap.size + 1) (by omega) _ _).set (b := w.heap.size + 1) (by omega) _ _
        generalize ((((((W2.setCell ⟨w.heap.size + 1, 0, none⟩ (.int .i64 0)).setCell ⟨w.heap.size + 1, 1, none⟩ (.int .i64 0)).setCell ⟨w.heap.size + 1, 2, none⟩ (.slice none 0 0)).setCell ⟨w.heap.size + 1, 3, none⟩ (.int .i64 0)).setCell ⟨w.heap.size + 1, 4, none⟩ (.int .i64 0)).setCell ⟨w.heap.size + 1, 5, none⟩ (.map none)) = WF at *
        have hc := cell_of hb3
        exact bodyPost_ret (v := .tuple #[.agg #[.int .i64 0, .int .i64 0, .slice none 0 0, .int .i64 0, .int .i64 0, .map none], .int .i64 23]) (by simp [results, Try.results44, go_sem, hc]) rfl ⟨hE, .inl ⟨HF.out, rfl⟩⟩

      | none =>
        rw [hfind] at hlk HGE
        simp only [Option.getD_none, Option.isSome_none] at hlk
        have HB := hid (fun (u : World) => isBar_any T.wide T.high T.mesh T.knot (.slice (some ⟨b, off, none⟩) T.bars.length sc) (.map (some bm)) r hwide hhigh u)
        cases hbar : isBarB T.wide T.high r
        case false =>
          rw [hbar] at HB HGE
          have HF : Hid (tornB T = false) := HNO.out (by rw [HGE.out]; rfl)
          gi_wp2_with (gi_at_call 65; ((with_reducible refine (HB.out _).mono ?_); rintro e w3 ⟨rfl, hx3⟩; have hd3 := cell_of (hx3.block HZ.out); have hf3 := free_of (hx3.block HZ.out)))
          have hx := HX2.out.trans hx3
          have hbk := hx3.block HZ.out
          clear hcg hcr hlk hd3 hf3
          have hb3 : ((((((w3.setCell ⟨w.heap.size + 1, 0, none⟩ (.int .i64 0)).setCell ⟨w.heap.size + 1, 1, none⟩ (.int .i64 0)).setCell ⟨w.heap.size + 1, 2, none⟩ (.slice none 0 0)).setCell ⟨w.heap.size + 1, 3, none⟩ (.int .i64 0)).setCell ⟨w.heap.size + 1, 4, none⟩ (.int .i64 0)).setCell ⟨w.heap.size + 1, 5, none⟩ (.map none)).heap[w.heap.size + 1]? = some (.cells #[.int .i64 0, .int .i64 0, .slice none 0 0, .int .i64 0, .int .i64 0, .map none] 96 (0, 0)) := by
            have h := set_same (set_same (set_same (set_same (set_same (set_same (hbk) 0 (.int .i64 0)) 1 (.int .i64 0)) 2 (.slice none 0 0)) 3 (.int .i64 0)) 4 (.int .i64 0)) 5 (.map none)
            simpa using h
          have hE : Ext w ((((((w3.setCell ⟨w.heap.size + 1, 0, none⟩ (.int .i64 0)).setCell ⟨w.heap.size + 1, 1, none⟩ (.int .i64 0)).setCell ⟨w.heap.size + 1, 2, none⟩ (.slice none 0 0)).setCell ⟨w.heap.size + 1, 3, none⟩ (.int .i64 0)).setCell ⟨w.heap.size + 1, 4, none⟩ (.int .i64 0)).setCell ⟨w.heap.size + 1, 5, none⟩ (.map none)) := ((((((hx).set (b := w.heap.size + 1) (by omega) _ _).set (b := w.heap.size + 1) (by omega) _ _).set (b := w.heap.size + 1) (by omega) _ _).set (b := w.heap.size + 1) (by omega) _ _).set (b := w.heap.size + 1) (by omega) _ _).set (b := w.heap.size + 1) (by omega) _ _
          generalize ((((((w3.setCell ⟨w.heap.size + 1, 0, none⟩ (.int .i64 0)).setCell ⟨w.heap.size + 1, 1, none⟩ (.int .i64 0)).setCell ⟨w.heap.size + 1, 2, none⟩ (.slice none 0 0)).setCell ⟨w.heap.size + 1, 3, none⟩ (.int .i64 0)).setCell ⟨w.heap.size + 1, 4, none⟩ (.int .i64 0)).setCell ⟨w.heap.size + 1, 5, none⟩ (.map none)) = WF at *
          have hc := cell_of hb3
          exact bodyPost_ret (v := .tuple #[.agg #[.int .i64 0, .int .i64 0, .slice none 0 0, .int .i64 0, .int .i64 0, .map none], .int .i64 23]) (by simp [results, Try.results44, go_sem, hc]) rfl ⟨hE, .inl ⟨HF.out, rfl⟩⟩

        case true =>
          rw [hbar] at HB HGE
          have HGD : Hid (barGood T k = true) := by show barGood T k = true; rw [HGE.out]; rfl
          gi_upto_region 10 with (gi_at_call 65; ((with_reducible refine (HB.out _).mono ?_); rintro e w3 ⟨rfl, hx3⟩))
          have HM3 : Hid (MapBlk w3 bm (barMapTo T.bars k)) := by
            obtain ⟨es, cl, e1, e2⟩ := HM.out
            exact ⟨es, cl, hx3.block e1, e2⟩
          obtain ⟨o, hrun, hm4⟩ := run_update_bar HM3.out (barKey r) (k : Int) hfind
          rw [show barV (barKey r) = .agg #[.int .i64 r.lo, .int .i64 r.hi] from rfl] at hrun
          clear hcg hcr hlk
          have hcg := cell_of (hx3.block HG.out)
          have hcr := cell_of (hx3.block HR.out)
          have HM4 := hid hm4
          clear hm4 hfind
          gi_wp2_with fail
          go_roundw
          case rel =>
            refine ⟨k + 1, by omega, by go_num, below_put (HX2.out.trans hx3) (by have := HD.out.1; omega) o, ?_, ?_, ?_, HD.out.1, HD.out.2.1, HD.out.2.2.1, upTo_succ HD.out.2.2.2 HGD.out⟩
            · rw [World.putObj_heap_other (by have := HD.out.1; omega)]; exact hx3.block HZ.out
            · rw [World.putObj_heap_other HD.out.2.2.1.symm]; exact hx3.block HG.out
            · rw [HS.out]; exact HM4.out
          case measure => simp [intOf]; omega
    · obtain rfl : k = T.bars.length := by omega
      have HF : Hid (tornB T = true) := by show tornB T = true; unfold tornB; rw [HT.out, allTo_yes HI.out.2.2.2.2.2.2.2]; rfl
      have hcg := cell_of HI.out.2.2.1
      have hd1 := cell_of HI.out.2.1
      have hf1 := free_of HI.out.2.1
      gi_wp2_with fail
      clear hcg hd1 hf1
      have hx := HI.out.1
      have hbk := HI.out.2.1
      have hMM := HI.out.2.2.2.1
      have hD5 := HI.out.2.2.2.2.1
      obtain ⟨es, cl, e1, e2⟩ := hMM
      have hMF : MapBlk (((((((wr.setCell ⟨w.heap.size + 1, 0, none⟩ (.int .i64 T.wide)).setCell ⟨w.heap.size + 1, 1, none⟩ (.int .i64 T.high)).setCell ⟨w.heap.size + 1, 2, none⟩ (.slice sa T.bars.length sc)).setCell ⟨w.heap.size + 1, 3, none⟩ (.int .i64 T.mesh)).setCell ⟨w.heap.size + 1, 4, none⟩ (.int .i64 T.knot)).setCell ⟨w.heap.size + 1, 5, none⟩ (.map (some bm)))) bm (barMapTo T.bars T.bars.length) := ⟨es, cl, by (repeat rw [set_other (by omega)]); exact e1, e2⟩
      have hb3 : ((((((wr.setCell ⟨w.heap.size + 1, 0, none⟩ (.int .i64 T.wide)).setCell ⟨w.heap.size + 1, 1, none⟩ (.int .i64 T.high)).setCell ⟨w.heap.size + 1, 2, none⟩ (.slice sa T.bars.length sc)).setCell ⟨w.heap.size + 1, 3, none⟩ (.int .i64 T.mesh)).setCell ⟨w.heap.size + 1, 4, none⟩ (.int .i64 T.knot)).setCell ⟨w.heap.size + 1, 5, none⟩ (.map (some bm))).heap[w.heap.size + 1]? = some (.cells #[.int .i64 T.wide, .int .i64 T.high, .slice sa T.bars.length sc, .int .i64 T.mesh, .int .i64 T.knot, .map (some bm)] 96 (0, 0)) := by
        have h := set_same (set_same (set_same (set_same (set_same (set_same (hbk) 0 (.int .i64 T.wide)) 1 (.int .i64 T.high)) 2 (.slice sa T.bars.length sc)) 3 (.int .i64 T.mesh)) 4 (.int .i64 T.knot)) 5 (.map (some bm))
        simpa using h
      have hE : Ext w ((((((wr.setCell ⟨w.heap.size + 1, 0, none⟩ (.int .i64 T.wide)).setCell ⟨w.heap.size + 1, 1, none⟩ (.int .i64 T.high)).setCell ⟨w.heap.size + 1, 2, none⟩ (.slice sa T.bars.length sc)).setCell ⟨w.heap.size + 1, 3, none⟩ (.int .i64 T.mesh)).setCell ⟨w.heap.size + 1, 4, none⟩ (.int .i64 T.knot)).setCell ⟨w.heap.size + 1, 5, none⟩ (.map (some bm))) := ((((((hx).set (b := w.heap.size + 1) (by omega) _ _).set (b := w.heap.size + 1) (by omega) _ _).set (b := w.heap.size + 1) (by omega) _ _).set (b := w.heap.size + 1) (by omega) _ _).set (b := w.heap.size + 1) (by omega) _ _).set (b := w.heap.size + 1) (by omega) _ _
      generalize ((((((wr.setCell ⟨w.heap.size + 1, 0, none⟩ (.int .i64 T.wide)).setCell ⟨w.heap.size + 1, 1, none⟩ (.int .i64 T.high)).setCell ⟨w.heap.size + 1, 2, none⟩ (.slice sa T.bars.length sc)).setCell ⟨w.heap.size + 1, 3, none⟩ (.int .i64 T.mesh)).setCell ⟨w.heap.size + 1, 4, none⟩ (.int .i64 T.knot)).setCell ⟨w.heap.size + 1, 5, none⟩ (.map (some bm))) = WF at *
      have hc := cell_of hb3
      exact bodyPost_ret (v := .tuple #[.agg #[.int .i64 T.wide, .int .i64 T.high, .slice sa T.bars.length sc, .int .i64 T.mesh, .int .i64 T.knot, .map (some bm)], .int .i64 0]) (by simp [results, Try.results44, go_sem, hc]) rfl ⟨hE, .inr ⟨HF.out, bm, rfl, hMF⟩⟩


end Go.Proofs.Ytmjelgonhpgmbaa
