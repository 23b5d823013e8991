/- The reference of torn nets: run. -/
import Derived.Test.YtmjelgonhpgmbaaUI
import Derived.Test.YtmjelgonhpgmbaaUF
set_option linter.unusedSimpArgs false
set_option linter.unusedVariables false
namespace Go.Proofs.Ytmjelgonhpgmbaa
open Go Go.RowKit Go.Shelf

theorem joins_one {bars : List Spn} (hT : Tw.Told bars) {i j : Nat} (hi : i < bars.length) (hj : j < bars.length) {a b : Int} (h1 : Tw.joins (bars.getD i ⟨0, 0⟩) a b) (h2 : Tw.joins (bars.getD j ⟨0, 0⟩) a b) : i = j := by
  have l1 : (bars.getD i ⟨0, 0⟩).lo < (bars.getD i ⟨0, 0⟩).hi := by rw [getD_of hi]; exact hT.less _ (List.getElem_mem hi)
  have l2 : (bars.getD j ⟨0, 0⟩).lo < (bars.getD j ⟨0, 0⟩).hi := by rw [getD_of hj]; exact hT.less _ (List.getElem_mem hj)
  exact hT.once i j hi hj (((Tw.join_key l1).2 h1).trans ((Tw.join_key l2).2 h2).symm)
theorem way_one {bars : List Spn} (hT : Tw.Told bars) {p : List Int} {is js : List Nat} (h : Tw.Way bars p is) : Tw.Way bars p js → is = js := by
  induction h generalizing js with
  | one k => intro h2; cases h2; rfl
  | cons hi hj _ ih =>
    intro h2
    cases h2 with
    | cons hi2 hj2 h2 => rw [joins_one hT hi hi2 hj hj2, ih h2]
/-- All pieces run along bars. -/
def Goes (bars : List Spn) (ps : List (List Int)) (qs : List (List Int × List Nat)) : Prop := ps = qs.map (·.1) ∧ ∀ q ∈ qs, Tw.Way bars q.1 q.2 ∧ 2 ≤ q.1.length
theorem Goes.one {bars : List Spn} (hT : Tw.Told bars) : ∀ {ps : List (List Int)} {qs rs : List (List Int × List Nat)}, Goes bars ps qs → Goes bars ps rs → qs = rs
  | ps, [], [], _, _ => rfl
  | ps, [], r :: rs, h, k => by rw [h.1] at k; cases k.1
  | ps, q :: qs, [], h, k => by rw [k.1] at h; cases h.1
  | ps, q :: qs, r :: rs, h, k => by
    have e := h.1.symm.trans k.1
    simp only [List.map_cons, List.cons.injEq] at e
    obtain ⟨a, b⟩ := q
    obtain ⟨c, d⟩ := r
    obtain ⟨e1, e2⟩ := e
    simp only at e1
    subst e1
    have h1 := (h.2 _ List.mem_cons_self).1
    have h2 := (k.2 _ List.mem_cons_self).1
    have hbd : b = d := way_one hT h1 h2
    subst hbd
    congr 1
    exact Goes.one hT (ps := qs.map (·.1)) ⟨rfl, fun q hq => h.2 q (List.mem_cons_of_mem _ hq)⟩ ⟨e2, fun q hq => k.2 q (List.mem_cons_of_mem _ hq)⟩
/-- How often each bar is run along. -/
def cntOf (qs : List (List Int × List Nat)) (is : List Nat) (j : Nat) : Nat := (qs.flatMap (·.2) ++ is).count j
theorem cntOf_le (qs : List (List Int × List Nat)) (is : List Nat) (j : Nat) : cntOf qs is j ≤ (qs.flatMap (·.2)).length + is.length := by
  unfold cntOf; rw [← List.length_append]; exact List.count_le_length
theorem ways_len {bars : List Spn} : ∀ {qs : List (List Int × List Nat)}, (∀ q ∈ qs, Tw.Way bars q.1 q.2) → (qs.flatMap (·.2)).length + qs.length = ((qs.map (·.1)).map List.length).sum
  | [], _ => rfl
  | q :: qs, h => by
    have h1 := Tw.way_two (h q List.mem_cons_self)
    have h2 := ways_len (qs := qs) fun r hr => h r (List.mem_cons_of_mem _ hr)
    rw [List.flatMap_cons, List.length_append, List.map_cons, List.map_cons, List.sum_cons, List.length_cons]
    omega
theorem le_sum' : ∀ {l : List Nat} {a : Nat}, a ∈ l → a ≤ l.sum
  | [], _, h => by cases h
  | b :: l, a, h => by
    rw [List.sum_cons]
    rcases List.mem_cons.1 h with rfl | h
    · omega
    · have := le_sum' h; omega
theorem sum_take_le (l : List Nat) : ∀ n, (l.take n).sum ≤ l.sum := fun n => by
  conv => rhs; rw [← List.take_append_drop n l]
  rw [List.sum_append_nat]; omega
theorem mends_goes {T : TornD} (hT : tornB T = true) {ps : List (List Int)} {qs : List (List Int × List Nat)} (h : Goes T.bars ps qs) : isV T ps = true ↔ ∀ j, j < T.bars.length → cntOf qs [] j = 1 := by
  have hTo := (torn_told hT).1
  unfold isV
  rw [hT, Bool.true_and, isMend_iff hT]
  constructor
  · rintro ⟨rs, e, hm⟩ j hj
    have := Goes.one hTo h ⟨e, hm.good⟩
    subst this
    unfold cntOf
    rw [List.append_nil]
    have h1 := List.nodup_iff_count.1 hm.nodup j
    have h2 := List.count_pos_iff.2 (hm.all j hj)
    omega
  · intro hc
    refine ⟨qs, h.1, h.2, ?_, fun j hj => ?_⟩
    · rw [List.nodup_iff_count]
      intro j
      by_cases hj : j < T.bars.length
      · have := hc j hj; unfold cntOf at this; rw [List.append_nil] at this; omega
      · have : (qs.flatMap (·.2)).count j = 0 := by
          rw [List.count_eq_zero]
          intro hm
          obtain ⟨q, hq, hm⟩ := List.mem_flatMap.1 hm
          exact hj ((h.2 q hq).1.lt j hm)
        omega
    · have := hc j hj
      unfold cntOf at this
      rw [List.append_nil] at this
      exact List.count_pos_iff.1 (by omega)
theorem no_goes {T : TornD} (hT : tornB T = true) {ps : List (List Int)} (h : ¬ ∃ qs, Goes T.bars ps qs) : isV T ps = false := by
  cases h2 : isV T ps
  · rfl
  · unfold isV at h2
    rw [hT, Bool.true_and] at h2
    obtain ⟨qs, e, hm⟩ := (isMend_iff hT ps).1 h2
    exact absurd ⟨qs, e, hm.good⟩ h
/-- A piece of a list of pieces that all run along bars. -/
theorem Goes.piece {bars : List Spn} {ps : List (List Int)} {qs : List (List Int × List Nat)} (h : Goes bars ps qs) {i : Nat} (hi : i < ps.length) : 2 ≤ ps[i].length ∧ ∃ is, Tw.Way bars ps[i] is := by
  have hm : ps[i] ∈ qs.map (·.1) := by rw [← h.1]; exact List.getElem_mem hi
  obtain ⟨q, hq, e⟩ := List.mem_map.1 hm
  rw [← e]
  exact ⟨(h.2 q hq).2, q.2, (h.2 q hq).1⟩
theorem way_step {bars : List Spn} {p : List Int} {is : List Nat} (h : Tw.Way bars p is) : ∀ {k : Nat} (hk : k + 1 < p.length), ∃ j, j < bars.length ∧ Tw.joins (bars.getD j ⟨0, 0⟩) (p[k]'(by omega)) p[k + 1] := by
  induction h with
  | one a => intro k hk; simp at hk
  | @cons a b p i is hi hj _ ih =>
    intro k hk
    cases k with
    | zero => exact ⟨i, hi, hj⟩
    | succ k => exact ih (k := k) (by simpa using hk)

theorem eql_bar (p q : Int × Int) (b : Bool) (w : World) (h : (Op.equal 86 (barV p) (barV q)).run Try.prog w = .ok b w) : (binOp .eql 86 (barV p) (barV q)).run Try.prog w = .ok (.bool b) w := by
  unfold barV at h ⊢
  rw [run_eql_struct]
  have h2 : (Op.equalIn 10000 86 (.agg #[.int .i64 p.1, .int .i64 p.2]) (.agg #[.int .i64 q.1, .int .i64 q.2])).run Try.prog w = .ok b w := h
  rw [h2]; rfl
structure RnW (T : TornD) (w wr : World) (sa : Option Addr) (sc : Nat) (f : Nat → Nat) : Prop where
  ext : Ext w wr
  box : wr.heap[w.heap.size]? = some (.cells #[.int .i64 T.wide, .int .i64 T.high, .slice sa T.bars.length sc, .int .i64 T.mesh, .int .i64 T.knot] 24 (0, 0))
  cnts : wr.heap[w.heap.size + 1]? = some (.cells (iArr f T.bars.length) 3 (0, 0))
theorem RnW.mono {T : TornD} {w wr wr' : World} {sa : Option Addr} {sc : Nat} {f : Nat → Nat} (h : RnW T w wr sa sc f) (hx : Ext wr wr') : RnW T w wr' sa sc f := ⟨h.ext.trans hx, hx.block h.box, hx.block h.cnts⟩
theorem RnW.inc {T : TornD} {w wr : World} {sa : Option Addr} {sc : Nat} {f : Nat → Nat} (h : RnW T w wr sa sc f) {k : Nat} (hk : k < T.bars.length) : RnW T w (wr.setCell ⟨w.heap.size + 1, k, none⟩ (.int .i64 ((f k : Int) + 1))) sa sc (fun j => if j = k then f j + 1 else f j) :=
  ⟨h.ext.set (by omega) _ _, by rw [set_other (by omega)]; exact h.box, by rw [set_same h.cnts, iArr_set f hk]⟩
theorem cntOf_snoc (qs : List (List Int × List Nat)) (is : List Nat) (c : Nat) : (fun j => if j = c then cntOf qs is j + 1 else cntOf qs is j) = cntOf qs (is ++ [c]) := by
  funext j
  have h : cntOf qs (is ++ [c]) j = cntOf qs is j + (if c == j then 1 else 0) := by
    unfold cntOf
    rw [← List.append_assoc]
    generalize List.flatMap (fun x => x.2) qs ++ is = l
    rw [List.count_append, List.count_singleton]
  rw [h]
  by_cases e : j = c
  · subst e; simp
  · have : (c == j) = false := by simp; omega
    rw [if_neg e, this]; simp
theorem cntOf_close (qs : List (List Int × List Nat)) (p : List Int) (is : List Nat) : cntOf (qs ++ [(p, is)]) [] = cntOf qs is := by
  funext j; unfold cntOf; rw [List.flatMap_append]; simp
theorem cntOf_nil : cntOf [] [] = fun _ => 0 := by funext j; simp [cntOf]
def RunR (T : TornD) (ps : List (List Int)) (w : World) (e : Ending) (w' : World) : Prop :=
  (∃ qs g, Goes T.bars ps qs ∧ e = .returned (.tuple #[.slice (some ⟨g, 0, none⟩) T.bars.length T.bars.length, .bool true]) ∧ Ext w w' ∧ w'.heap[g]? = some (.cells (iArr (cntOf qs []) T.bars.length) 3 (0, 0))) ∨
  ((¬ ∃ qs, Goes T.bars ps qs) ∧ e = .returned (.tuple #[.slice none 0 0, .bool false]) ∧ Ext w w')
theorem key_min {s : Spn} (hl : s.lo < s.hi) (a b : Int) : (s.lo == min a b && s.hi == max a b) = true ↔ Tw.joins s a b := by
  simp only [Bool.and_eq_true, beq_iff_eq]
  unfold Tw.joins
  omega
/-- Bars that are met, below so many: none, or one, which is counted. -/
def MetJ (T : TornD) (w wr : World) (sa : Option Addr) (sc : Nat) (qs : List (List Int × List Nat)) (is : List Nat) (a b : Int) (j : Nat) (m : Bool) : Prop :=
  (m = false ∧ RnW T w wr sa sc (cntOf qs is) ∧ ∀ c, c < j → ¬ Tw.joins (T.bars.getD c ⟨0, 0⟩) a b) ∨
  (m = true ∧ ∃ c, c < j ∧ c < T.bars.length ∧ Tw.joins (T.bars.getD c ⟨0, 0⟩) a b ∧ RnW T w wr sa sc (cntOf qs (is ++ [c])))
theorem MetJ.rn {T : TornD} {w wr : World} {sa : Option Addr} {sc : Nat} {qs : List (List Int × List Nat)} {is : List Nat} {a b : Int} {j : Nat} {m : Bool} (h : MetJ T w wr sa sc qs is a b j m) : ∃ is', RnW T w wr sa sc (cntOf qs is') := by
  rcases h with ⟨_, h, _⟩ | ⟨_, c, _, _, _, h⟩
  · exact ⟨_, h⟩
  · exact ⟨_, h⟩
theorem MetJ.skip {T : TornD} {w wr : World} {sa : Option Addr} {sc : Nat} {qs : List (List Int × List Nat)} {is : List Nat} {a b : Int} {j : Nat} {m : Bool} (h : MetJ T w wr sa sc qs is a b j m) (hn : ¬ Tw.joins (T.bars.getD j ⟨0, 0⟩) a b) : MetJ T w wr sa sc qs is a b (j + 1) m := by
  rcases h with ⟨h1, h2, h3⟩ | ⟨h1, c, h2, h3, h4, h5⟩
  · refine .inl ⟨h1, h2, fun c hc => ?_⟩
    rcases Nat.lt_or_ge c j with h' | h'
    · exact h3 c h'
    · obtain rfl : c = j := by omega
      exact hn
  · exact .inr ⟨h1, c, by omega, h3, h4, h5⟩
theorem MetJ.hit {T : TornD} (hT : Tw.Told T.bars) {w wr : World} {sa : Option Addr} {sc : Nat} {qs : List (List Int × List Nat)} {is : List Nat} {a b : Int} {j : Nat} {m : Bool} (hj : j < T.bars.length) (h : MetJ T w wr sa sc qs is a b j m) (hy : Tw.joins (T.bars.getD j ⟨0, 0⟩) a b) : m = false ∧ RnW T w wr sa sc (cntOf qs is) := by
  rcases h with ⟨h1, h2, _⟩ | ⟨_, c, h2, h3, h4, _⟩
  · exact ⟨h1, h2⟩
  · have := joins_one hT h3 hj h4 hy
    omega
set_option maxRecDepth 100000 in
set_option maxHeartbeats 16000000 in
theorem run_any (T : TornD) (hT : tornB T = true) (tv pv0 : Value) (ps : List (List Int)) (hsum : (ps.map List.length).sum ≤ 1048576) (hnum : ps.length ≤ 1048576) (w : World) (ht : TnAt w tv T) (hp : PiecesAt w pv0 ps) : Cal 47 #[tv, pv0] w (RunR T ps w) := by
  obtain ⟨sv, rfl, sa, sc, rfl, hsl, hcs⟩ := ht
  obtain ⟨pa0, pc0, rfl, hpl, hpd⟩ := hp
  have HCS := hid hcs
  have HPD := hid hpd
  have HTO := hid (torn_told hT).1
  have hlen := (torn_ok hT).2.2.2.2.1
  have hmk := fun (u : World) => make_ints u (T.bars.length) T.bars.length rfl (by omega)
  clear hcs hpd
  gi_enter Try.func47, Try.ntmps47
  gi_upto_region 2 with fail
  have hW : RnW T w ((w.alloc (.cells #[.int .i64 T.wide, .int .i64 T.high, .slice sa T.bars.length sc, .int .i64 T.mesh, .int .i64 T.knot] 24)).alloc (.cells (iArr (fun _ => 0) T.bars.length) 3)) sa sc (fun _ => 0) :=
    ⟨((Ext.refl _).alloc _).alloc _, by simp only [alloc_at, World.size_alloc]; (repeat rw [if_neg (by omega)]); first | rfl | rw [if_pos (by omega)] | rw [if_pos trivial], by simp only [alloc_at, World.size_alloc]; (repeat rw [if_neg (by omega)]); first | rfl | rw [if_pos (by omega)] | rw [if_pos trivial]⟩
  generalize (w.alloc (.cells #[.int .i64 T.wide, .int .i64 T.high, .slice sa T.bars.length sc, .int .i64 T.mesh, .int .i64 T.knot] 24)).alloc (.cells (iArr (fun _ => 0) T.bars.length) 3) = W at *
  have HJ : Hid (∃ qs, RnW T w W sa sc (cntOf qs []) ∧ Goes T.bars (ps.take 0) qs) := ⟨[], by rw [cntOf_nil]; exact hW, by simp [Goes]⟩
  clear hW hmk
  gi_wp2_with fail
  gi_loopw [7] (fun iv wr => ∃ i : Nat, i ≤ ps.length ∧ iv = .int .i64 i ∧ Hid (∃ qs, RnW T w wr sa sc (cntOf qs []) ∧ Goes T.bars (ps.take i) qs)) (fun iv _ => ps.length - (intOf iv).toNat)
  case atStart => exact ⟨0, Nat.zero_le _, rfl, HJ.out⟩
  case round =>
    obtain ⟨i, hi, rfl, HI⟩ := hrel
    clear HJ
    by_cases hlt : i < ps.length
    case neg =>
      obtain rfl : i = ps.length := by omega
      obtain ⟨qs, hw, hg⟩ := HI.out
      rw [List.take_length] at hg
      have HW := hid hw
      have HG := hid hg
      clear HI hw hg
      gi_wp2_with fail
      refine bodyPost_ret (v := .tuple #[.slice (some ⟨w.heap.size + 1, 0, none⟩) T.bars.length T.bars.length, .bool true]) (by simp [results, Try.results47, go_sem]) rfl (.inl ⟨qs, _, HG.out, rfl, HW.out.ext, HW.out.cnts⟩)
    case pos =>
      obtain ⟨qs, hw, hg⟩ := HI.out
      have hii : (i : Int) < ps.length := by omega
      obtain ⟨rb, ro, pv, rfl, hrb, hrc, pa, pc, rfl, hpl2, hpi⟩ := HPD.out i hlt
      have HRC := hid (And.intro hrb hrc)
      have HPI := hid hpi
      have HW := hid hw
      have HG := hid hg
      have HPC := hid (fun (qs : List (List Int × List Nat)) (h : Goes T.bars ps qs) => h.piece hlt)
      have hsm : ps[i].length ≤ 1048576 := by
        have h1 : ps[i].length ∈ ps.map List.length := List.mem_map.2 ⟨ps[i], List.getElem_mem hlt, rfl⟩
        have := le_sum' h1
        omega
      have HTK : Hid (ps.take (i + 1) = ps.take i ++ [ps[i]]) := List.take_succ_eq_append_getElem hlt
      have hfl : (qs.flatMap (·.2)).length ≤ 1048576 := by
        have h1 := ways_len (qs := qs) (bars := T.bars) fun q hq => (hg.2 q hq).1
        rw [← hg.1] at h1
        have h2 := sum_take_le (ps.map List.length) i
        rw [← List.map_take] at h2
        omega
      clear HI hw hg hrb hrc hpi
      generalize ps[i] = p at *
      have c1 := (HW.out.ext.cell (p := ⟨rb, _, none⟩) HRC.out.1).trans HRC.out.2
      by_cases h2 : p.length < 2
      case pos =>
        have hno : ¬ ∃ qs, Goes T.bars ps qs := fun ⟨qs, h⟩ => by have := (HPC.out qs h).1; omega
        have HNO := hid hno
        have h2i : (p.length : Int) < 2 := by omega
        clear hno HPC
        gi_wp2_with fail
        refine bodyPost_ret (v := .tuple #[.slice none 0 0, .bool false]) (by simp [results, Try.results47, go_sem]) rfl (.inr ⟨HNO.out, rfl, HW.out.ext⟩)
      case neg =>
        have h2i : ¬ (p.length : Int) < 2 := by omega
        have h2n : 2 ≤ p.length := by omega
        have HMJ : Hid (∃ is, RnW T w wr sa sc (cntOf qs is) ∧ Tw.Way T.bars (p.take (0 + 1)) is) := ⟨[], HW.out, by
          rw [List.take_succ_eq_append_getElem (by omega)]; simpa using Tw.Way.one _⟩
        clear h2
        gi_wp2_with fail
        clear c1 HW
        gi_loopw [8] (fun kv wr => ∃ m : Nat, m + 1 ≤ p.length ∧ kv = .int .i64 ((m : Int) + 1) ∧ Hid (∃ is, RnW T w wr sa sc (cntOf qs is) ∧ Tw.Way T.bars (p.take (m + 1)) is)) (fun kv _ => p.length - (intOf kv).toNat)
        case atStart => exact ⟨0, by omega, rfl, HMJ.out⟩
        case round =>
          obtain ⟨m, hm, rfl, HM⟩ := hrel
          clear HMJ
          obtain ⟨is, hw, hway⟩ := HM.out
          have HW := hid hw
          have HY := hid hway
          have hil : is.length ≤ 1048576 := by have h1 := Tw.way_two hway; rw [List.length_take] at h1; omega
          clear HM hw hway
          have c1 := (HW.out.ext.cell (p := ⟨rb, _, none⟩) HRC.out.1).trans HRC.out.2
          by_cases hmk : m + 1 < p.length
          case neg =>
            have hme : p.length = m + 1 := by omega
            have hmi : ¬ ((m : Int) + 1 < p.length) := by omega
            have HGN : Hid (Goes T.bars (ps.take (i + 1)) (qs ++ [(p, is)])) := by
              refine ⟨by rw [HTK.out, HG.out.1, List.map_append]; rfl, fun q hq => ?_⟩
              rcases List.mem_append.1 hq with hq | hq
              · exact HG.out.2 q hq
              · simp at hq; subst hq
                have := HY.out
                rw [List.take_of_length_le (by omega)] at this
                exact ⟨this, h2n⟩
            have HWN : Hid (RnW T w wr sa sc (cntOf (qs ++ [(p, is)]) [])) := by show RnW _ _ _ _ _ _; rw [cntOf_close]; exact HW.out
            clear hme HY HW HG HTK HPC
            gi_wp2_with fail
            clear c1
            go_roundw
            case rel => exact ⟨i + 1, by omega, by go_num, _, HWN.out, HGN.out⟩
            case measure => simp [intOf]; omega
          case pos =>
            have hmi : ((m : Int) + 1 < p.length) := by omega
            obtain ⟨pb, po, rfl, hpb, hp0⟩ := HPI.out m (by omega)
            obtain ⟨pb', po', he', _, hp1⟩ := HPI.out (m + 1) hmk
            cases he'
            have HCE := hid (And.intro hpb (And.intro hp0 hp1))
            have hwp : IntKind.i64.wrap (m : Int) = m := by rw [IntKind.wrap_i64]; omega
            have hwq : (m : Int) < p.length := by omega
            have HST : Hid (∀ qs, Goes T.bars ps qs → ∃ j, j < T.bars.length ∧ Tw.joins (T.bars.getD j ⟨0, 0⟩) (p[m]'(by omega)) p[m + 1]) := fun qs h => by
              obtain ⟨_, js, hjs⟩ := HPC.out qs h
              exact way_step hjs hmk
            have HT2 : Hid (p.take (m + 1 + 1) = p.take (m + 1) ++ [p[m + 1]] ∧ p.take (m + 1) = p.take m ++ [p[m]'(by omega)]) := ⟨List.take_succ_eq_append_getElem hmk, List.take_succ_eq_append_getElem (by omega)⟩
            clear hpb hp0 hp1
            generalize p[m]'(by omega) = a at *
            generalize p[m + 1] = b at *
            gi_wp2_with fail
            clear c1
            have HQ := hid fun e : Later wr => And.intro (((HW.out.ext.trans e.grown).cell (p := ⟨rb, _, none⟩) HRC.out.1).trans HRC.out.2) (And.intro (((HW.out.ext.trans e.grown).cell (p := ⟨pb, _, none⟩) HCE.out.1).trans HCE.out.2.1) (((HW.out.ext.trans e.grown).cell (p := ⟨pb, _, none⟩) HCE.out.1).trans HCE.out.2.2))
            have q0 := HQ.out
            refine quiet_wide 17 (by kernel_rfl) (by kernel_rfl) ?_
            simp only [List.take_succ_cons, List.take_zero, List.drop_succ_cons, List.drop_zero]
            repeat (any_goals (first | go_big_quiet_step (fail) | quiet_step (fail)))
            refine wpQuiet_nil ?_
            rintro w7 ⟨⟨w7q, hx7⟩, hew⟩
            obtain rfl : w7 = w7q := hew
            have hx7 : Ext wr w7 := hx7
            have HMT : Hid (MetJ T w w7 sa sc qs is a b 0 false) := .inl ⟨rfl, HW.out.mono hx7, fun c hc => absurd hc (by omega)⟩
            clear q0 HQ hx7 HW hwp hwq
            gi_wp2_with fail
            gi_loopw [11, 12] (fun mv jv wr => ∃ (j : Nat) (met : Bool), j ≤ T.bars.length ∧ mv = .bool met ∧ jv = .int .i64 j ∧ Hid (MetJ T w wr sa sc qs is a b j met)) (fun _ jv _ => T.bars.length - (intOf jv).toNat)
            case atStart => exact ⟨0, false, Nat.zero_le _, rfl, rfl, HMT.out⟩
            case round =>
              obtain ⟨j, met, hj, rfl, rfl, HM⟩ := hrel
              clear HMT
              obtain ⟨is', hrn⟩ := HM.out.rn
              have c0 := cell_of hrn.box
              have HRN := hid hrn
              clear hrn
              by_cases hjl : j < T.bars.length
              case pos =>
                have hji : (j : Int) < T.bars.length := by omega
                obtain ⟨tb, to, rfl, htb, hq0, hq1⟩ := HCS.out j hjl
                have d0 := ((HRN.out.ext).cell (p := ⟨tb, _, none⟩) htb).trans hq0
                have d1 := ((HRN.out.ext).cell (p := ⟨tb, _, none⟩) htb).trans hq1
                have hls := HTO.out.less _ (List.getElem_mem hjl)
                have HGD : Hid (T.bars.getD j ⟨0, 0⟩ = T.bars[j]) := getD_of hjl
                clear htb hq0 hq1
                generalize T.bars[j] = z at *
                have HKM := hid (key_min hls a b)
                obtain ⟨zl, zh⟩ := z
                simp only at d0 d1 hls
                have heq := fun (u : World) => eq_bar (zl, zh) (min a b, max a b) u
                unfold barV at heq
                simp only at heq
                obtain ⟨bb, hbb⟩ : ∃ bb, bb = (zl == min a b && zh == max a b) := ⟨_, rfl⟩
                have HBB := hid hbb
                rw [← hbb] at heq
                clear hbb hls
                have heq2 := fun (u : World) => eql_bar (zl, zh) (min a b, max a b) bb u (by have := heq u; unfold barV; exact this)
                unfold barV at heq2
                simp only at heq2
                cases bb with
                | false =>
                  have hn : ¬ Tw.joins (T.bars.getD j ⟨0, 0⟩) a b := fun h => by
                    rw [HGD.out] at h
                    have h2 := HKM.out.2 h
                    have h3 := HBB.out
                    simp only at h2
                    rw [h2] at h3; cases h3
                  have HMN := hid (HM.out.skip hn)
                  clear hn HM HKM HBB HGD HRN
                  gi_wp2_with fail
                  clear c0 d0 d1 heq heq2
                  go_roundw
                  case rel => exact ⟨j + 1, met, by omega, rfl, by go_num, HMN.out⟩
                  case measure => simp [intOf]; omega
                | true =>
                  have hy : Tw.joins (T.bars.getD j ⟨0, 0⟩) a b := by rw [HGD.out]; exact HKM.out.1 HBB.out.symm
                  obtain ⟨hmf, hrn⟩ := HM.out.hit HTO.out hjl hy
                  subst hmf
                  have hcl := cntOf_le qs is j
                  have hb1 : (0 : Int) ≤ cntOf qs is j ∧ (cntOf qs is j : Int) ≤ 10000000 := by omega
                  have d2 : wr.cell? ⟨w.heap.size + 1, j, none⟩ = some (.int .i64 (cntOf qs is j)) := by rw [cell_of hrn.cnts, iArr_get hjl]
                  have f2 := free_of hrn.cnts
                  have hin := hrn.inc hjl
                  rw [cntOf_snoc] at hin
                  have HMN : Hid (MetJ T w (wr.setCell ⟨w.heap.size + 1, j, none⟩ (.int .i64 ((cntOf qs is j : Int) + 1))) (some ⟨tb, to, none⟩) sc qs is a b (j + 1) true) := .inr ⟨rfl, j, by omega, hjl, hy, hin⟩
                  clear hcl hrn hin HM HKM HBB HGD HRN hy
                  gi_wp2_with fail
                  clear c0 d0 d1 d2 f2 heq heq2
                  go_roundw
                  case rel => exact ⟨j + 1, true, by omega, rfl, by go_num, HMN.out⟩
                  case measure => simp [intOf]; omega
              case neg =>
                obtain rfl : j = T.bars.length := by omega
                clear HRN
                cases met with
                | false =>
                  rcases HM.out with ⟨_, hrn, hno⟩ | ⟨hf, _⟩
                  · have HNO : Hid (¬ ∃ qs, Goes T.bars ps qs) := fun ⟨qs, h⟩ => by
                      obtain ⟨c, hc, hcj⟩ := HST.out qs h
                      exact hno c hc hcj
                    have HE := hid hrn.ext
                    clear hrn hno
                    gi_wp2_with fail
                    refine bodyPost_ret (v := .tuple #[.slice none 0 0, .bool false]) (by simp [results, Try.results47, go_sem]) rfl (.inr ⟨HNO.out, rfl, HE.out⟩)
                  · cases hf
                | true =>
                  rcases HM.out with ⟨hf, _⟩ | ⟨_, c, _, hcl, hcj, hrn⟩
                  · cases hf
                  · have HRN := hid hrn
                    have HYN : Hid (Tw.Way T.bars (p.take (m + 1 + 1)) (is ++ [c])) := by
                      show Tw.Way _ _ _
                      have h1 := HY.out
                      rw [HT2.out.1]
                      rw [HT2.out.2] at h1 ⊢
                      exact h1.snoc hcl hcj
                    clear hrn hcj
                    gi_wp2_with fail
                    clear c0
                    go_roundw
                    case rel => exact ⟨m + 1, by omega, by go_num, _, HRN.out, HYN.out⟩
                    case measure => simp [intOf]; omega

end Go.Proofs.Ytmjelgonhpgmbaa
