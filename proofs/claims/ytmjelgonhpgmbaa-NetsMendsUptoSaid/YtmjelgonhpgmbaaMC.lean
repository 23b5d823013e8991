/- Nets in memory; what a net must be. -/
import Derived.Test.YtmjelgonhpgmbaaMB
import Derived.Deep.MidRow
set_option linter.unusedSimpArgs false
set_option linter.unusedVariables false
namespace Go.Proofs.Ytmjelgonhpgmbaa
open Go Go.RowKit Go.Shelf

def ShotsAt (w : World) (v : Value) (l : List NetD) : Prop :=
  ∃ a cap, v = .slice a l.length cap ∧ (l.length ≤ cap ∧ l.length ≤ 1000000000000000) ∧ ∀ i (h : i < l.length), ∃ b off, a = some ⟨b, off, none⟩ ∧ b < w.heap.size ∧
    w.cell? ⟨b, off + i * 10, none⟩ = some (.int .i64 l[i].east) ∧
    w.cell? ⟨b, off + i * 10 + 1, none⟩ = some (.int .i64 l[i].north) ∧
    w.cell? ⟨b, off + i * 10 + 2, none⟩ = some (.int .i64 l[i].long) ∧
    w.cell? ⟨b, off + i * 10 + 3, none⟩ = some (.int .i64 l[i].along) ∧
    w.cell? ⟨b, off + i * 10 + 4, none⟩ = some (.int .i64 l[i].shot) ∧
    w.cell? ⟨b, off + i * 10 + 5, none⟩ = some (.int .i64 l[i].haul) ∧
    w.cell? ⟨b, off + i * 10 + 6, none⟩ = some (.int .i64 l[i].se.lo) ∧
    w.cell? ⟨b, off + i * 10 + 7, none⟩ = some (.int .i64 l[i].se.hi) ∧
    w.cell? ⟨b, off + i * 10 + 8, none⟩ = some (.int .i64 l[i].sn.lo) ∧
    w.cell? ⟨b, off + i * 10 + 9, none⟩ = some (.int .i64 l[i].sn.hi)
theorem ShotsAt.mono {w w' : World} {v : Value} {l : List NetD} (h : ShotsAt w v l) (hx : Ext w w') : ShotsAt w' v l := by
  obtain ⟨a, cap, hv, hl, hc⟩ := h
  refine ⟨a, cap, hv, hl, fun i hi => ?_⟩
  obtain ⟨b, off, ha, hb, c0, c1, c2, c3, c4, c5, c6, c7, c8, c9⟩ := hc i hi
  exact ⟨b, off, ha, Nat.lt_of_lt_of_le hb hx.size, by rw [hx.cell (p := ⟨b, _, none⟩) hb]; exact c0, by rw [hx.cell (p := ⟨b, _, none⟩) hb]; exact c1, by rw [hx.cell (p := ⟨b, _, none⟩) hb]; exact c2, by rw [hx.cell (p := ⟨b, _, none⟩) hb]; exact c3, by rw [hx.cell (p := ⟨b, _, none⟩) hb]; exact c4, by rw [hx.cell (p := ⟨b, _, none⟩) hb]; exact c5, by rw [hx.cell (p := ⟨b, _, none⟩) hb]; exact c6, by rw [hx.cell (p := ⟨b, _, none⟩) hb]; exact c7, by rw [hx.cell (p := ⟨b, _, none⟩) hb]; exact c8, by rw [hx.cell (p := ⟨b, _, none⟩) hb]; exact c9⟩

def NetsAt (w : World) (v : Value) (l : List NetD) : Prop :=
  ∃ a cap, v = .slice a l.length cap ∧ (l.length ≤ cap ∧ l.length ≤ 1000000000000000) ∧ ∀ i (h : i < l.length), ∃ b off, a = some ⟨b, off, none⟩ ∧ b < w.heap.size ∧
    w.cell? ⟨b, off + i * 11, none⟩ = some (.int .i64 l[i].east) ∧
    w.cell? ⟨b, off + i * 11 + 1, none⟩ = some (.int .i64 l[i].north) ∧
    w.cell? ⟨b, off + i * 11 + 2, none⟩ = some (.int .i64 l[i].long) ∧
    w.cell? ⟨b, off + i * 11 + 3, none⟩ = some (.int .i64 l[i].along) ∧
    w.cell? ⟨b, off + i * 11 + 4, none⟩ = some (.int .i64 l[i].shot) ∧
    w.cell? ⟨b, off + i * 11 + 5, none⟩ = some (.int .i64 l[i].haul) ∧
    w.cell? ⟨b, off + i * 11 + 6, none⟩ = some (.int .i64 l[i].se.lo) ∧
    w.cell? ⟨b, off + i * 11 + 7, none⟩ = some (.int .i64 l[i].se.hi) ∧
    w.cell? ⟨b, off + i * 11 + 8, none⟩ = some (.int .i64 l[i].sn.lo) ∧
    w.cell? ⟨b, off + i * 11 + 9, none⟩ = some (.int .i64 l[i].sn.hi) ∧
    w.cell? ⟨b, off + i * 11 + 10, none⟩ = some (.int .i64 i)
theorem NetsAt.mono {w w' : World} {v : Value} {l : List NetD} (h : NetsAt w v l) (hx : Ext w w') : NetsAt w' v l := by
  obtain ⟨a, cap, hv, hl, hc⟩ := h
  refine ⟨a, cap, hv, hl, fun i hi => ?_⟩
  obtain ⟨b, off, ha, hb, c0, c1, c2, c3, c4, c5, c6, c7, c8, c9, c10⟩ := hc i hi
  exact ⟨b, off, ha, Nat.lt_of_lt_of_le hb hx.size, by rw [hx.cell (p := ⟨b, _, none⟩) hb]; exact c0, by rw [hx.cell (p := ⟨b, _, none⟩) hb]; exact c1, by rw [hx.cell (p := ⟨b, _, none⟩) hb]; exact c2, by rw [hx.cell (p := ⟨b, _, none⟩) hb]; exact c3, by rw [hx.cell (p := ⟨b, _, none⟩) hb]; exact c4, by rw [hx.cell (p := ⟨b, _, none⟩) hb]; exact c5, by rw [hx.cell (p := ⟨b, _, none⟩) hb]; exact c6, by rw [hx.cell (p := ⟨b, _, none⟩) hb]; exact c7, by rw [hx.cell (p := ⟨b, _, none⟩) hb]; exact c8, by rw [hx.cell (p := ⟨b, _, none⟩) hb]; exact c9, by rw [hx.cell (p := ⟨b, _, none⟩) hb]; exact c10⟩

def netZ : NetD := ⟨0, 0, 0, 0, 0, 0, ⟨0, 0⟩, ⟨0, 0⟩⟩
def netB (n : NetD) (H : Int) : Bool := inB n.east (-10000) 10000 && (inB n.north (-10000) 10000 && (inB n.long 0 2000 && ((n.along == 0 || n.along == 1) && (inB n.shot 0 (H - 1) && (inB n.haul n.shot H && spansB 50 [n.se, n.sn])))))
theorem spanB_spec {M : Int} {s : Spn} (h : spanB M s = true) : spIn M s ∧ s.lo ≤ s.hi := by
  unfold spanB at h
  simp at h
  unfold spIn
  omega
theorem spansB_spec {M : Int} {l : List Spn} (h : spansB M l = true) : ∀ s ∈ l, spanB M s = true := by
  intro s hs
  obtain ⟨i, hi, rfl⟩ := List.getElem_of_mem hs
  unfold spansB allTo at h
  have := List.all_eq_true.1 h i (List.mem_range.2 hi)
  rwa [spanGood_eq hi] at this
theorem netB_ok {n : NetD} {H : Nat} (h : netB n H = true) : NetOk n H := by
  unfold netB at h
  simp only [Bool.and_eq_true] at h
  obtain ⟨h1, h2, h3, h4, h5, h6, h7⟩ := h
  have s1 := spanB_spec (spansB_spec h7 n.se (by simp))
  have s2 := spanB_spec (spansB_spec h7 n.sn (by simp))
  have h1 := inB_spec h1
  have h2 := inB_spec h2
  have h3 := inB_spec h3
  have h5 := inB_spec h5
  have h6 := inB_spec h6
  exact ⟨h1, h2, h3, by simpa using h4, h5, h6, s1.1, s2.1, s1.2, s2.2⟩

set_option maxRecDepth 100000 in
set_option maxHeartbeats 2000000 in
theorem isNet_any (n : NetD) (H : Int) (hH : 0 ≤ H ∧ H ≤ 1000) (w : World) : Cal 100 #[.agg #[.int .i64 n.east, .int .i64 n.north, .int .i64 n.long, .int .i64 n.along, .int .i64 n.shot, .int .i64 n.haul, .int .i64 n.se.lo, .int .i64 n.se.hi, .int .i64 n.sn.lo, .int .i64 n.sn.hi], .int .i64 H] w fun e w' => e = .returned (.bool (netB n H)) ∧ Ext w w' := by
  obtain ⟨ne, nn, nl, na, ns, nh, nse, nsn⟩ := n
  have hb0 : (w.alloc (.cells #[.int .i64 ne, .int .i64 nn, .int .i64 nl, .int .i64 na, .int .i64 ns, .int .i64 nh, .int .i64 nse.lo, .int .i64 nse.hi, .int .i64 nsn.lo, .int .i64 nsn.hi] 58)).heap[w.heap.size]? = some (.cells #[.int .i64 ne, .int .i64 nn, .int .i64 nl, .int .i64 na, .int .i64 ns, .int .i64 nh, .int .i64 nse.lo, .int .i64 nse.hi, .int .i64 nsn.lo, .int .i64 nsn.hi] 58 (0, 0)) := Ext.new (Ext.refl _)
  have hx : Ext w (w.alloc (.cells #[.int .i64 ne, .int .i64 nn, .int .i64 nl, .int .i64 na, .int .i64 ns, .int .i64 nh, .int .i64 nse.lo, .int .i64 nse.hi, .int .i64 nsn.lo, .int .i64 nsn.hi] 58)) := (Ext.refl w).alloc _
  gi_enter Try.func100, Try.ntmps100
  gi_upto_region 1 with fail
  generalize w.alloc (.cells #[.int .i64 ne, .int .i64 nn, .int .i64 nl, .int .i64 na, .int .i64 ns, .int .i64 nh, .int .i64 nse.lo, .int .i64 nse.hi, .int .i64 nsn.lo, .int .i64 nsn.hi] 58) = W at *
  have hc := cell_of hb0
  clear hb0
  have HX := hid hx
  clear hx
  have HQ : wrap64 (H - 1) = H - 1 := by unfold wrap64; omega
  cases h1 : inB ne (-10000) 10000
  case false =>
    gi_wp2_with (first | (gi_at_call 62; ((with_reducible refine (isIn_b _ _ _ _ _ (by first | assumption | exact h1 | exact h2)).mono ?_); rintro e w1 ⟨rfl, rfl⟩)) | (gi_at_call 99; ((with_reducible refine (areSpans_any 50 (by omega) _ [nse, nsn] _ (spans_two nse nsn (Ext.refl _))).mono ?_); rintro e w9 ⟨rfl, hx9⟩)))
    go_ret
    exact ⟨by simp only [netB, h1]; rfl, HX.out⟩
  cases h2 : inB nn (-10000) 10000
  case false =>
    gi_wp2_with (first | (gi_at_call 62; ((with_reducible refine (isIn_b _ _ _ _ _ (by first | assumption | exact h1 | exact h2)).mono ?_); rintro e w1 ⟨rfl, rfl⟩)) | (gi_at_call 99; ((with_reducible refine (areSpans_any 50 (by omega) _ [nse, nsn] _ (spans_two nse nsn (Ext.refl _))).mono ?_); rintro e w9 ⟨rfl, hx9⟩)))
    go_ret
    exact ⟨by simp only [netB, h1, h2]; rfl, HX.out⟩
  cases h3 : inB nl 0 2000
  case false =>
    gi_wp2_with (first | (gi_at_call 62; ((with_reducible refine (isIn_b _ _ _ _ _ (by first | assumption | exact h1 | exact h2)).mono ?_); rintro e w1 ⟨rfl, rfl⟩)) | (gi_at_call 99; ((with_reducible refine (areSpans_any 50 (by omega) _ [nse, nsn] _ (spans_two nse nsn (Ext.refl _))).mono ?_); rintro e w9 ⟨rfl, hx9⟩)))
    go_ret
    exact ⟨by simp only [netB, h1, h2, h3]; rfl, HX.out⟩
  by_cases ha : na = 0 ∨ na = 1
  case neg =>
    have ha0 : (na == 0) = false := by cases hh : na == 0 with | false => rfl | true => exact absurd (.inl (eq_of_beq hh)) ha
    have ha1 : (na == 1) = false := by cases hh : na == 1 with | false => rfl | true => exact absurd (.inr (eq_of_beq hh)) ha
    clear ha
    gi_wp2_with (first | (gi_at_call 62; ((with_reducible refine (isIn_b _ _ _ _ _ (by first | assumption | exact h1 | exact h2)).mono ?_); rintro e w1 ⟨rfl, rfl⟩)) | (gi_at_call 99; ((with_reducible refine (areSpans_any 50 (by omega) _ [nse, nsn] _ (spans_two nse nsn (Ext.refl _))).mono ?_); rintro e w9 ⟨rfl, hx9⟩)))
    go_ret
    exact ⟨by simp only [netB, h1, h2, h3, ha0, ha1]; rfl, HX.out⟩
  have ha2 : (na == 0 || na == 1) = true := by rcases ha with rfl | rfl <;> rfl
  have ha3 : na = 0 ∨ ((na == 0) = false ∧ na = 1) := by rcases ha with rfl | rfl; exact .inl rfl; exact .inr ⟨rfl, rfl⟩
  clear ha
  cases h5 : inB ns 0 (H - 1)
  case false =>
    rcases ha3 with rfl | ⟨ha0, rfl⟩
    all_goals
      gi_wp2_with (first | (gi_at_call 62; ((with_reducible refine (isIn_b _ _ _ _ _ (by first | assumption | exact h1 | exact h2)).mono ?_); rintro e w1 ⟨rfl, rfl⟩)) | (gi_at_call 99; ((with_reducible refine (areSpans_any 50 (by omega) _ [nse, nsn] _ (spans_two nse nsn (Ext.refl _))).mono ?_); rintro e w9 ⟨rfl, hx9⟩)))
      go_ret
      exact ⟨by simp only [netB, h1, h2, h3, ha2, h5]; rfl, HX.out⟩
  cases h6 : inB nh ns H
  case false =>
    rcases ha3 with rfl | ⟨ha0, rfl⟩
    all_goals
      gi_wp2_with (first | (gi_at_call 62; ((with_reducible refine (isIn_b _ _ _ _ _ (by first | assumption | exact h1 | exact h2)).mono ?_); rintro e w1 ⟨rfl, rfl⟩)) | (gi_at_call 99; ((with_reducible refine (areSpans_any 50 (by omega) _ [nse, nsn] _ (spans_two nse nsn (Ext.refl _))).mono ?_); rintro e w9 ⟨rfl, hx9⟩)))
      go_ret
      exact ⟨by simp only [netB, h1, h2, h3, ha2, h5, h6]; rfl, HX.out⟩
  cases h7 : spansB 50 [nse, nsn]
  case false =>
    rcases ha3 with rfl | ⟨ha0, rfl⟩
    all_goals
      gi_wp2_with (first | (gi_at_call 62; ((with_reducible refine (isIn_b _ _ _ _ _ (by first | assumption | exact h1 | exact h2)).mono ?_); rintro e w1 ⟨rfl, rfl⟩)) | (gi_at_call 99; ((with_reducible refine (areSpans_any 50 (by omega) _ [nse, nsn] _ (spans_two nse nsn (Ext.refl _))).mono ?_); rintro e w9 ⟨rfl, hx9⟩)))
      go_ret
      exact ⟨by simp only [netB, h1, h2, h3, ha2, h5, h6, h7]; rfl, HX.out.trans (((Ext.refl _).alloc _).trans hx9)⟩
  rcases ha3 with rfl | ⟨ha0, rfl⟩
  all_goals
    gi_wp2_with (first | (gi_at_call 62; ((with_reducible refine (isIn_b _ _ _ _ _ (by first | assumption | exact h1 | exact h2)).mono ?_); rintro e w1 ⟨rfl, rfl⟩)) | (gi_at_call 99; ((with_reducible refine (areSpans_any 50 (by omega) _ [nse, nsn] _ (spans_two nse nsn (Ext.refl _))).mono ?_); rintro e w9 ⟨rfl, hx9⟩)))
    go_ret
    exact ⟨by simp only [netB, h1, h2, h3, ha2, h5, h6, h7]; rfl, HX.out.trans (((Ext.refl _).alloc _).trans hx9)⟩

def lieB (n : NetD) (h : Int) : Bool := inB h n.shot n.haul
set_option maxRecDepth 100000 in
theorem lies_any (n : NetD) (i h : Int) (w : World) : Cal 83 #[.agg #[.int .i64 n.east, .int .i64 n.north, .int .i64 n.long, .int .i64 n.along, .int .i64 n.shot, .int .i64 n.haul, .int .i64 n.se.lo, .int .i64 n.se.hi, .int .i64 n.sn.lo, .int .i64 n.sn.hi, .int .i64 i], .int .i64 h] w fun e w' => e = .returned (.bool (lieB n h)) ∧ Ext w w' := by
  gi_enter Try.func83, Try.ntmps83
  gi_wp2_with (gi_at_call 62; ((with_reducible refine (isIn_b _ _ _ _ _ rfl).mono ?_); rintro e w1 ⟨rfl, rfl⟩))
  go_ret
  exact ⟨rfl, (Ext.refl _).alloc _⟩
theorem has_any (F : FleetD) (ev nv sv : Value) (ma : Option Addr) (mc : Nat) (hl : F.nets.length ≤ 1000) (n : Int) (w : World) : Cal 61 #[.agg #[ev, nv, .int .i64 F.gap, sv, .slice ma F.nets.length mc], .int .i64 n] w fun e w' => e = .returned (.bool (inB n 0 ((F.nets.length : Int) - 1))) ∧ Ext w w' := by
  have HQ : wrap64 ((F.nets.length : Int) - 1) = (F.nets.length : Int) - 1 := by unfold wrap64; omega
  gi_enter Try.func61, Try.ntmps61
  gi_wp2_with (gi_at_call 62; ((with_reducible refine (isIn_b _ _ _ _ _ rfl).mono ?_); rintro e w1 ⟨rfl, rfl⟩))
  go_ret
  exact ⟨rfl, (Ext.refl _).alloc _⟩
def hasB (F : FleetD) (n h : Int) : Bool := inB n 0 ((F.nets.length : Int) - 1) && lieB (F.nets.getD n.toNat netZ) h
set_option maxRecDepth 100000 in
set_option maxHeartbeats 1000000 in
theorem hasLying_any (F : FleetD) (ev nv sv mv : Value) (hl : F.nets.length ≤ 1000) (n h : Int) (w : World) (hm : NetsAt w mv F.nets) : Cal 58 #[.agg #[ev, nv, .int .i64 F.gap, sv, mv], .int .i64 n, .int .i64 h] w fun e w' => e = .returned (.bool (hasB F n h)) ∧ Ext w w' := by
  have HNET := hid hm
  obtain ⟨ma, mc, rfl, _, hcs⟩ := hm
  have HC := hid hcs
  clear hcs
  have hb0 : (w.alloc (.cells #[ev, nv, .int .i64 F.gap, sv, .slice ma F.nets.length mc] 108)).heap[w.heap.size]? = some (.cells #[ev, nv, .int .i64 F.gap, sv, .slice ma F.nets.length mc] 108 (0, 0)) := Ext.new (Ext.refl _)
  have HB := hid hb0
  have HW : Hid (Ext w (w.alloc (.cells #[ev, nv, .int .i64 F.gap, sv, .slice ma F.nets.length mc] 108))) := (Ext.refl w).alloc _
  have HHAS := hid (fun (u : World) => has_any F ev nv sv ma mc hl n u)
  gi_enter Try.func58, Try.ntmps58
  gi_upto_region 1 with fail
  generalize w.alloc (.cells #[ev, nv, .int .i64 F.gap, sv, .slice ma F.nets.length mc] 108) = W at *
  have hc := cell_of hb0
  clear hb0
  cases hn : inB n 0 ((F.nets.length : Int) - 1)
  case false =>
    rw [hn] at HHAS
    gi_wp2_with (gi_at_call 61; ((with_reducible refine (HHAS.out _).mono ?_); rintro e w1 ⟨rfl, hx1⟩))
    go_ret
    exact ⟨by simp only [hasB, hn]; rfl, HW.out.trans hx1⟩
  rw [hn] at HHAS
  have hn' := inB_spec hn
  obtain ⟨k, rfl⟩ : ∃ k : Nat, n = k := ⟨n.toNat, by omega⟩
  have hk : k < F.nets.length := by omega
  obtain ⟨b, off, rfl, hb, hcc⟩ := HC.out k hk
  have HV : Hid (hasB F (k : Int) h = lieB F.nets[k] h) := by show hasB _ _ _ = _; unfold hasB; rw [hn, Int.toNat_natCast, getD_of hk]; rfl
  have HCC := hid hcc
  clear hcc hn hn' HC
  have HL := hid (fun (u : World) => lies_any F.nets[k] k h u)
  generalize F.nets[k] = m at *
  clear HNET
  have hki : (k : Int) < F.nets.length := by omega
  gi_wp2_with (first | (gi_at_call 61; ((with_reducible refine (HHAS.out _).mono ?_); rintro e w1 ⟨rfl, hx1⟩; have hX1 := hid (HW.out.trans hx1); have hc := cell_of (hx1.block HB.out); obtain ⟨d0, d1, d2, d3, d4, d5, d6, d7, d8, d9, d10⟩ := HCC.out; rw [← hX1.out.cell (p := ⟨b, _, none⟩) hb] at d0 d1 d2 d3 d4 d5 d6 d7 d8 d9 d10)) | (gi_at_call 83; ((with_reducible refine (HL.out _).mono ?_); rintro e w2 ⟨rfl, hx2⟩)))
  go_ret
  exact ⟨by rw [HV.out]; cases lieB m h <;> rfl, hX1.out.trans hx2⟩



def netGood (F : FleetD) (i : Nat) : Bool := netB (F.nets.getD i netZ) F.east.length
def fleetB (F : FleetD) : Bool := inB F.east.length 1 24 && ((F.north.length == F.east.length) && (spansB 200 F.east && (spansB 200 F.north && (inB F.gap 0 500 && (inB F.nets.length 1 6 && allTo (netGood F) F.nets.length)))))
theorem netGood_eq {F : FleetD} {k : Nat} (h : k < F.nets.length) : netGood F k = netB F.nets[k] F.east.length := by unfold netGood; rw [getD_of h]
theorem fleetB_ok {F : FleetD} (h : fleetB F = true) : FleetOk F := by
  unfold fleetB at h
  simp only [Bool.and_eq_true] at h
  obtain ⟨h1, h2, h3, h4, h5, h6, h7⟩ := h
  have h1 := inB_spec h1
  have h5 := inB_spec h5
  have h6 := inB_spec h6
  refine ⟨by omega, by simpa using h2, fun s hs => (spanB_spec (spansB_spec h3 s hs)).1, fun s hs => (spanB_spec (spansB_spec h4 s hs)).1, fun s hs => (spanB_spec (spansB_spec h3 s hs)).2, fun s hs => (spanB_spec (spansB_spec h4 s hs)).2, h5, by omega, fun n hn => ?_⟩
  obtain ⟨i, hi, rfl⟩ := List.getElem_of_mem hn
  unfold allTo at h7
  have := List.all_eq_true.1 h7 i (List.mem_range.2 hi)
  rw [netGood_eq hi] at this
  exact netB_ok this
theorem ne_of_bne_false_l {a b : Int} (h : (a != b) = false) : a = b := by simpa using h
set_option maxRecDepth 100000 in
set_option maxHeartbeats 2000000 in
theorem isFleet_any (F : FleetD) (ev nv sv : Value) (w : World) (he : SpansAt w ev F.east) (hn : SpansAt w nv F.north) (hs : ShotsAt w sv F.nets) :
    Cal 72 #[.agg #[ev, nv, .int .i64 F.gap, sv]] w fun e w' => e = .returned (.bool (fleetB F)) ∧ Ext w w' := by
  have HE := hid he
  have HN := hid hn
  obtain ⟨ea, ec, rfl, ⟨hec, hel⟩, _⟩ := he
  obtain ⟨na, nc, rfl, ⟨hnc, hnl⟩, _⟩ := hn
  obtain ⟨sa, sc, rfl, ⟨hsc, hsl⟩, hcs⟩ := hs
  have HC := hid hcs
  clear hcs
  have hb0 : (w.alloc (.cells #[.slice ea F.east.length ec, .slice na F.north.length nc, .int .i64 F.gap, .slice sa F.nets.length sc] 40)).heap[w.heap.size]? = some (.cells #[.slice ea F.east.length ec, .slice na F.north.length nc, .int .i64 F.gap, .slice sa F.nets.length sc] 40 (0, 0)) := Ext.new (Ext.refl _)
  have HB := hid hb0
  have HW : Hid (Ext w (w.alloc (.cells #[.slice ea F.east.length ec, .slice na F.north.length nc, .int .i64 F.gap, .slice sa F.nets.length sc] 40))) := (Ext.refl w).alloc _
  gi_enter Try.func72, Try.ntmps72
  gi_upto_region 1 with fail
  generalize w.alloc (.cells #[.slice ea F.east.length ec, .slice na F.north.length nc, .int .i64 F.gap, .slice sa F.nets.length sc] 40) = W at *
  have hc := cell_of hb0
  clear hb0
  cases h1 : inB F.east.length 1 24
  case false =>
    have HG : Hid (fleetB F = false) := by show fleetB F = false; simp only [fleetB, h1]; rfl
    gi_wp2_with (first | (gi_at_call 62; ((with_reducible refine (isIn_b _ _ _ _ _ (by assumption)).mono ?_); rintro e w1 ⟨rfl, rfl⟩)) | (have _ := hx8; gi_at_call 99; ((with_reducible refine (areSpans_any 200 (by omega) _ F.north w8 (HN.out.mono (HW.out.trans hx8))).mono ?_); rintro e w9 ⟨rfl, hx9⟩; have hc := cell_of (hx9.block (hx8.block HB.out)); have HX := hid (HW.out.trans (hx8.trans hx9)))) | (gi_at_call 99; ((with_reducible refine (areSpans_any 200 (by omega) _ F.east W (HE.out.mono HW.out)).mono ?_); rintro e w8 ⟨rfl, hx8⟩; have hc := cell_of (hx8.block HB.out); have HX := hid (HW.out.trans hx8))))
    go_ret
    exact ⟨by rw [HG.out]; rfl, HW.out⟩
  cases h2 : ((F.north.length : Int) != (F.east.length : Int))
  case true =>
    have h2n : (F.north.length == F.east.length) = false := by cases hh : F.north.length == F.east.length with | false => rfl | true => have hq := eq_of_beq hh; rw [hq] at h2; simp at h2
    have HG : Hid (fleetB F = false) := by show fleetB F = false; simp only [fleetB, h1, h2n]; rfl
    clear h2n
    gi_wp2_with (first | (gi_at_call 62; ((with_reducible refine (isIn_b _ _ _ _ _ (by assumption)).mono ?_); rintro e w1 ⟨rfl, rfl⟩)) | (have _ := hx8; gi_at_call 99; ((with_reducible refine (areSpans_any 200 (by omega) _ F.north w8 (HN.out.mono (HW.out.trans hx8))).mono ?_); rintro e w9 ⟨rfl, hx9⟩; have hc := cell_of (hx9.block (hx8.block HB.out)); have HX := hid (HW.out.trans (hx8.trans hx9)))) | (gi_at_call 99; ((with_reducible refine (areSpans_any 200 (by omega) _ F.east W (HE.out.mono HW.out)).mono ?_); rintro e w8 ⟨rfl, hx8⟩; have hc := cell_of (hx8.block HB.out); have HX := hid (HW.out.trans hx8))))
    go_ret
    exact ⟨by rw [HG.out]; rfl, HW.out⟩
  have h2n : (F.north.length == F.east.length) = true := by have := ne_of_bne_false_l h2; simp; omega
  cases h3 : spansB 200 F.east
  case false =>
    have HG : Hid (fleetB F = false) := by show fleetB F = false; simp only [fleetB, h1, h2n, h3]; rfl
    clear h2n
    gi_wp2_with (first | (gi_at_call 62; ((with_reducible refine (isIn_b _ _ _ _ _ (by assumption)).mono ?_); rintro e w1 ⟨rfl, rfl⟩)) | (have _ := hx8; gi_at_call 99; ((with_reducible refine (areSpans_any 200 (by omega) _ F.north w8 (HN.out.mono (HW.out.trans hx8))).mono ?_); rintro e w9 ⟨rfl, hx9⟩; have hc := cell_of (hx9.block (hx8.block HB.out)); have HX := hid (HW.out.trans (hx8.trans hx9)))) | (gi_at_call 99; ((with_reducible refine (areSpans_any 200 (by omega) _ F.east W (HE.out.mono HW.out)).mono ?_); rintro e w8 ⟨rfl, hx8⟩; have hc := cell_of (hx8.block HB.out); have HX := hid (HW.out.trans hx8))))
    go_ret
    exact ⟨by rw [HG.out]; rfl, HX.out⟩
  cases h4 : spansB 200 F.north
  case false =>
    have HG : Hid (fleetB F = false) := by show fleetB F = false; simp only [fleetB, h1, h2n, h3, h4]; rfl
    clear h2n
    gi_wp2_with (first | (gi_at_call 62; ((with_reducible refine (isIn_b _ _ _ _ _ (by assumption)).mono ?_); rintro e w1 ⟨rfl, rfl⟩)) | (have _ := hx8; gi_at_call 99; ((with_reducible refine (areSpans_any 200 (by omega) _ F.north w8 (HN.out.mono (HW.out.trans hx8))).mono ?_); rintro e w9 ⟨rfl, hx9⟩; have hc := cell_of (hx9.block (hx8.block HB.out)); have HX := hid (HW.out.trans (hx8.trans hx9)))) | (gi_at_call 99; ((with_reducible refine (areSpans_any 200 (by omega) _ F.east W (HE.out.mono HW.out)).mono ?_); rintro e w8 ⟨rfl, hx8⟩; have hc := cell_of (hx8.block HB.out); have HX := hid (HW.out.trans hx8))))
    go_ret
    exact ⟨by rw [HG.out]; rfl, HX.out⟩
  cases h5 : inB F.gap 0 500
  case false =>
    have HG : Hid (fleetB F = false) := by show fleetB F = false; simp only [fleetB, h1, h2n, h3, h4, h5]; rfl
    clear h2n
    gi_wp2_with (first | (gi_at_call 62; ((with_reducible refine (isIn_b _ _ _ _ _ (by assumption)).mono ?_); rintro e w1 ⟨rfl, rfl⟩)) | (have _ := hx8; gi_at_call 99; ((with_reducible refine (areSpans_any 200 (by omega) _ F.north w8 (HN.out.mono (HW.out.trans hx8))).mono ?_); rintro e w9 ⟨rfl, hx9⟩; have hc := cell_of (hx9.block (hx8.block HB.out)); have HX := hid (HW.out.trans (hx8.trans hx9)))) | (gi_at_call 99; ((with_reducible refine (areSpans_any 200 (by omega) _ F.east W (HE.out.mono HW.out)).mono ?_); rintro e w8 ⟨rfl, hx8⟩; have hc := cell_of (hx8.block HB.out); have HX := hid (HW.out.trans hx8))))
    go_ret
    exact ⟨by rw [HG.out]; rfl, HX.out⟩
  cases h6 : inB (F.nets.length : Int) 1 6
  case false =>
    have HG : Hid (fleetB F = false) := by show fleetB F = false; simp only [fleetB, h1, h2n, h3, h4, h5, h6]; rfl
    clear h2n
    gi_wp2_with (first | (gi_at_call 62; ((with_reducible refine (isIn_b _ _ _ _ _ (by assumption)).mono ?_); rintro e w1 ⟨rfl, rfl⟩)) | (have _ := hx8; gi_at_call 99; ((with_reducible refine (areSpans_any 200 (by omega) _ F.north w8 (HN.out.mono (HW.out.trans hx8))).mono ?_); rintro e w9 ⟨rfl, hx9⟩; have hc := cell_of (hx9.block (hx8.block HB.out)); have HX := hid (HW.out.trans (hx8.trans hx9)))) | (gi_at_call 99; ((with_reducible refine (areSpans_any 200 (by omega) _ F.east W (HE.out.mono HW.out)).mono ?_); rintro e w8 ⟨rfl, hx8⟩; have hc := cell_of (hx8.block HB.out); have HX := hid (HW.out.trans hx8))))
    go_ret
    exact ⟨by rw [HG.out]; rfl, HX.out⟩
  have HG : Hid (fleetB F = allTo (netGood F) F.nets.length) := by show fleetB F = _; simp only [fleetB, h1, h2n, h3, h4, h5, h6]; rfl
  have HH : Hid (0 ≤ (F.east.length : Int) ∧ (F.east.length : Int) ≤ 1000) := by have := inB_spec h1; show _ ∧ _; omega
  clear h2n
  gi_wp2_with (first | (gi_at_call 62; ((with_reducible refine (isIn_b _ _ _ _ _ (by assumption)).mono ?_); rintro e w1 ⟨rfl, rfl⟩)) | (have _ := hx8; gi_at_call 99; ((with_reducible refine (areSpans_any 200 (by omega) _ F.north w8 (HN.out.mono (HW.out.trans hx8))).mono ?_); rintro e w9 ⟨rfl, hx9⟩; have hc := cell_of (hx9.block (hx8.block HB.out)); have HX := hid (HW.out.trans (hx8.trans hx9)))) | (gi_at_call 99; ((with_reducible refine (areSpans_any 200 (by omega) _ F.east W (HE.out.mono HW.out)).mono ?_); rintro e w8 ⟨rfl, hx8⟩; have hc := cell_of (hx8.block HB.out); have HX := hid (HW.out.trans hx8))))
  clear h1 h2 h3 h4 h5 h6 hx8 hx9
  gi_loopw [47] (fun i wr => ∃ k : Nat, k ≤ F.nets.length ∧ i = .int .i64 k ∧ Hid (∀ j, j < k → netGood F j = true) ∧ Ext w wr) (fun i _ => F.nets.length - (intOf i).toNat)
  case atStart => exact ⟨0, Nat.zero_le _, rfl, fun _ h => absurd h (by omega), HX.out⟩
  case round =>
    obtain ⟨k, hk, rfl, hgood, hx⟩ := hrel
    clear hc
    by_cases hlt : k < F.nets.length
    · obtain ⟨b, off, rfl, hb, c0, c1, c2, c3, c4, c5, c6, c7, c8, c9⟩ := HC.out k hlt
      rw [← hx.cell (p := ⟨b, _, none⟩) hb] at c0 c1 c2 c3 c4 c5 c6 c7 c8 c9
      have HS := hid (netGood_eq hlt)
      have hki : (k : Int) < F.nets.length := by omega
      have HNE := hid (fun (u : World) => isNet_any F.nets[k] F.east.length HH.out u)
      generalize F.nets[k] = m at *
      cases g1 : netB m F.east.length
      case true =>
        have HU := hid (upTo_succ hgood.out (by rw [HS.out]; exact g1))
        rw [g1] at HNE
        clear hgood HS g1
        gi_wp2_with (gi_at_call 100; ((with_reducible refine (HNE.out _).mono ?_); rintro e w2 ⟨rfl, hx2⟩))
        go_roundw
        case rel => exact ⟨k + 1, by omega, by go_num, HU, (hx.alloc _).trans hx2⟩
        case measure => simp [intOf]; omega
      case false =>
        have HG2 : Hid (fleetB F = false) := by show fleetB F = false; rw [HG.out, allTo_no hlt (by rw [HS.out]; exact g1)]
        rw [g1] at HNE
        clear hgood HS g1
        gi_wp2_with (gi_at_call 100; ((with_reducible refine (HNE.out _).mono ?_); rintro e w2 ⟨rfl, hx2⟩))
        go_ret
        exact ⟨by rw [HG2.out]; rfl, (hx.alloc _).trans hx2⟩
    · obtain rfl : k = F.nets.length := by omega
      have HG2 : Hid (fleetB F = true) := by show fleetB F = true; rw [HG.out, allTo_yes hgood.out]
      clear hgood
      gi_wp2
      go_ret
      exact ⟨by rw [HG2.out]; rfl, hx⟩



theorem grownBy_block {u v : World} {ob : Option Nat} (h : u.grownBy v ob) {k : Nat} {o : Obj} (ho : u.heap[k]? = some o) (hne : some k ≠ ob) : v.heap[k]? = some o := by
  rw [h.block k (lt_of_block ho) hne]; exact ho
theorem gives_append {F : Fence} {n : Nat} {P : Program} {R : World → World → Prop} {o : Oper} {a : Act} {w w' : World} {V : Value → World → Prop} {v xv v' : Value} (s x : Operand) (t : TypeId)
    (ho : o.op = .call { callee := .builtin .append, args := #[s, x], argTypes := #[t, t] }) (hs : a.eval s = v) (hx : a.eval x = xv)
    (hr : (Builtin.append_ #[t, t] o.type #[v, xv]).run P w = .ok v' w') (h : V v' w' ∧ R w w') : gives F n P R o a w V := by
  unfold gives
  rw [Oper.semAt_eq _ _ _ (by rw [ho]; intro c h; cases h)]
  unfold execOp
  simp only [ho, resolve, invoke, builtin, Sem.run_bind, Sem.run_pure, Result.andThen_ok, List.map_toArray, List.map_cons, List.map_nil, hs, hx, hr]
  exact h
theorem below_put {n bm : Nat} {w W : World} (h : Below n w W) (hb : n ≤ bm) (o : Obj) : Below n w (W.putObj bm o) :=
  ⟨h.os, h.tape, h.output, by simpa using h.size, fun k hk => by rw [World.putObj_heap_other (by omega)]; exact h.block k hk⟩
theorem Row.isSlice {w : World} {T : TypeId} {sz : Nat} {v : Value} {n : Nat} {xs : List Value} (h : Row w T sz v n xs) : ∃ a m c, v = .slice a m c := by
  rcases h.2 with ⟨rfl, _⟩ | ⟨g, cap, cur, rfl, _⟩
  · exact ⟨_, _, _, rfl⟩
  · exact ⟨_, _, _, rfl⟩
theorem Row.isSliceN {w : World} {T : TypeId} {sz : Nat} {v : Value} {n : Nat} {xs : List Value} (h : Row w T sz v n xs) : ∃ a c, v = .slice a n c := by
  rcases h.2 with ⟨rfl, rfl⟩ | ⟨g, cap, cur, rfl, _⟩
  · exact ⟨_, _, rfl⟩
  · exact ⟨_, _, rfl⟩
theorem Row.isCells {w : World} {T : TypeId} {sz : Nat} {v : Value} {n : Nat} {xs : List Value} (h : Row w T sz v n xs) {j : Nat} {o : Obj} (hj : v.ownBlock = some j) (ho : w.heap[j]? = some o) : o.isCells = true := by
  rcases h.2 with ⟨rfl, _⟩ | ⟨g, cap, cur, rfl, hg, _⟩
  · simp [Value.ownBlock] at hj
  · simp [Value.ownBlock] at hj; subst hj; rw [hg] at ho; cases ho; rfl
theorem Row.set {w : World} {T : TypeId} {sz : Nat} {v : Value} {n : Nat} {xs : List Value} (h : Row w T sz v n xs) {g : Nat} (hne : v.ownBlock ≠ some g) (o : Nat) (x : Value) : Row (w.setCell ⟨g, o, none⟩ x) T sz v n xs :=
  h.kept fun k ob hk ho => by rw [set_other (fun e => hne (by rw [hk, e]))]; exact ho
theorem wpIn_append_row {F : Fence} {n0 : Nat} (hF : ∀ f, F.fn f) (hn : F.depth = none) {o : Oper} {act : Act} {w : World} {K : Act → World → Prop} {Q : Exit → Act → World → Prop} (s x : Operand) {t T : TypeId} {sz bytes : Nat} {i : TypeInfo} {z : Value}
    (ho : o.op = .call { callee := .builtin .append, args := #[s, x], argTypes := #[t, t] })
    (ht : Try.prog.underlying t = some (.slice T)) (hi : Try.prog.info? T = some i) (hz : i.zero = some z) (hs : i.size = sz) (hby : i.bytes = bytes) (hzs : z.cells.size = sz) (hsz : 0 < sz)
    {v : Value} {n : Nat} {xs : List Value} (hv : act.eval s = v) (h : Row w T sz v n xs) (a : Addr) (c : Nat) (hx : act.eval x = .slice (some a) 1 c) (news : List Value) (hl : news.length = sz) (hnews : ∀ j u, news[j]? = some u → w.cell? (a.add j) = some u) (h1 : ∀ u ∈ news, u.oneCell' = true)
    (h63 : n + 1 ≤ 1000000000) (hbytes : bytes ≤ 1000)
    (hK : ∀ v' w', Row w' T sz v' (n + 1) (xs ++ news) → w.grownBy w' v.ownBlock → (v'.ownBlock = v.ownBlock ∨ v'.ownBlock = some w.heap.size) → K (act.put o.dst v') w') : o.wpIn F n0 Try.prog act w K Q := by
  obtain ⟨v', w', hrun, hrow, hgr, how, _⟩ := append_row (ty := o.type) ht hi hz hs hby hzs hsz h a c news hl hnews h1 h63 hbytes
  exact wpIn_of_gives (R := fun u u' => u = w → u' = w' ) (V := fun u u' => u = v' ∧ u' = w') hF hn (gives_append s x t ho hv hx hrun ⟨⟨rfl, rfl⟩, fun _ => rfl⟩) fun u u' hu _ => by
    rw [hu.1, hu.2]; exact hK v' w' hrow hgr how
theorem flat_get {sz : Nat} (f : Nat → List Value) (hf : ∀ i, (f i).length = sz) : ∀ k, ((List.range k).flatMap f).length = k * sz ∧ ∀ i j, i < k → j < sz → ((List.range k).flatMap f)[i * sz + j]? = (f i)[j]? := by
  intro k
  induction k with
  | zero => exact ⟨by simp, fun i j h => absurd h (by omega)⟩
  | succ k ih =>
    rw [List.range_succ, List.flatMap_append]
    refine ⟨by rw [List.length_append, ih.1]; simp [hf, Nat.add_mul], fun i j hi hj => ?_⟩
    rcases Nat.lt_or_ge i k with h | h
    · have hm : (i + 1) * sz ≤ k * sz := Nat.mul_le_mul_right _ h
      rw [Nat.add_mul, Nat.one_mul] at hm
      rw [List.getElem?_append_left (by rw [ih.1]; omega)]
      exact ih.2 i j h hj
    · obtain rfl : i = k := by omega
      rw [List.getElem?_append_right (by rw [ih.1]; omega), ih.1]
      simp
def netCells (n : NetD) (i : Nat) : List Value := [.int .i64 n.east, .int .i64 n.north, .int .i64 n.long, .int .i64 n.along, .int .i64 n.shot, .int .i64 n.haul, .int .i64 n.se.lo, .int .i64 n.se.hi, .int .i64 n.sn.lo, .int .i64 n.sn.hi, .int .i64 (i : Int)]
def netTo (l : List NetD) (k : Nat) : List Value := (List.range k).flatMap fun i => netCells (l.getD i netZ) i
theorem netTo_succ (l : List NetD) {k : Nat} (h : k < l.length) : netTo l (k + 1) = netTo l k ++ netCells l[k] k := by
  unfold netTo
  rw [List.range_succ, List.flatMap_append]
  simp [h]
theorem netTo_get (l : List NetD) {k : Nat} (hk : k ≤ l.length) {i : Nat} (h : i < k) (j : Nat) (hj : j < 11) : (netTo l k)[i * 11 + j]? = (netCells (l[i]'(by omega)) i)[j]? := by
  have := (flat_get (sz := 11) (fun i => netCells (l.getD i netZ) i) (fun _ => rfl) k).2 i j h hj
  unfold netTo
  rw [this, getD_of (by omega)]
theorem NetsAt.of_row {w : World} {v : Value} {l : List NetD} (h : Row w 125 11 v l.length (netTo l l.length)) (hl : l.length ≤ 1000) : NetsAt w v l := by
  obtain ⟨_, h⟩ := h
  rcases h with ⟨rfl, h0⟩ | ⟨g, cap, cur, rfl, hg, h1, h2, h3, h4⟩
  · exact ⟨none, 0, by rw [h0], ⟨by omega, by omega⟩, fun i hi => by omega⟩
  · refine ⟨_, cap, rfl, ⟨h1, by omega⟩, fun i hi => ⟨g, 0, rfl, lt_of_block hg, ?_⟩⟩
    have key : ∀ j, j < 11 → w.cell? ⟨g, 0 + i * 11 + j, none⟩ = (netCells l[i] i)[j]? := fun j hj => by
      rw [cell_of hg, Nat.zero_add, ← netTo_get l (Nat.le_refl _) hi j hj, ← h4, List.getElem?_take, if_pos (by omega), Array.getElem?_toList]
    exact ⟨key 0 (by omega), key 1 (by omega), key 2 (by omega), key 3 (by omega), key 4 (by omega), key 5 (by omega), key 6 (by omega), key 7 (by omega), key 8 (by omega), key 9 (by omega), key 10 (by omega)⟩
theorem info125 : (Try.prog.info? 125).map (fun i => (i.zero, i.size, i.bytes)) = some (some (.agg #[.int .i64 0, .int .i64 0, .int .i64 0, .int .i64 0, .int .i64 0, .int .i64 0, .int .i64 0, .int .i64 0, .int .i64 0, .int .i64 0, .int .i64 0]), 11, 88) := by kernel_rfl
/-- A fleet in memory. -/
def FleetAt (w : World) (fv : Value) (F : FleetD) : Prop := ∃ eb eo ec nb no nc sa sc ma mc, fv = .agg #[.slice (some ⟨eb, eo, none⟩) F.east.length ec, .slice (some ⟨nb, no, none⟩) F.north.length nc, .int .i64 F.gap, .slice sa F.nets.length sc, .slice ma F.nets.length mc] ∧ SpansAt w (.slice (some ⟨eb, eo, none⟩) F.east.length ec) F.east ∧ SpansAt w (.slice (some ⟨nb, no, none⟩) F.north.length nc) F.north ∧ NetsAt w (.slice ma F.nets.length mc) F.nets
theorem FleetAt.mono {w w' : World} {fv : Value} {F : FleetD} (h : FleetAt w fv F) (hx : Ext w w') : FleetAt w' fv F := by
  obtain ⟨eb, eo, ec, nb, no, nc, sa, sc, ma, mc, h0, h1, h2, h3⟩ := h
  exact ⟨eb, eo, ec, nb, no, nc, sa, sc, ma, mc, h0, h1.mono hx, h2.mono hx, h3.mono hx⟩
theorem SpansAt.slice {w : World} {v : Value} {l : List Spn} (h : SpansAt w v l) (hl : 1 ≤ l.length) : ∃ b o c, v = .slice (some ⟨b, o, none⟩) l.length c := by
  obtain ⟨a, cap, rfl, _, hc⟩ := h
  obtain ⟨b, o, rfl, _⟩ := hc 0 (by omega)
  exact ⟨b, o, cap, rfl⟩

set_option maxRecDepth 100000 in
set_option maxHeartbeats 2000000 in
theorem newFleet_no (F : FleetD) (hF : fleetB F = false) (ev nv sv : Value) (w : World) (he : SpansAt w ev F.east) (hn : SpansAt w nv F.north) (hs : ShotsAt w sv F.nets) :
    Cal 51 #[.agg #[ev, nv, .int .i64 F.gap, sv]] w fun e w' => e = .returned (.tuple #[.agg #[.slice none 0 0, .slice none 0 0, .int .i64 0, .slice none 0 0, .slice none 0 0], .int .i64 20]) ∧ Ext w w' := by
  have HFL := hid (fun (u : World) (hu : Ext w u) => isFleet_any F ev nv sv u (he.mono hu) (hn.mono hu) (hs.mono hu))
  rw [hF] at HFL
  obtain ⟨ea, ec, rfl, _, _⟩ := he
  obtain ⟨na, nc, rfl, _, _⟩ := hn
  obtain ⟨sa, sc, rfl, _, _⟩ := hs
  gi_enter Try.func51, Try.ntmps51
  gi_upto_region 1 with fail
  have hW : Ext w ((w.alloc (.cells #[.slice ea F.east.length ec, .slice na F.north.length nc, .int .i64 F.gap, .slice sa F.nets.length sc] 40)).alloc (.cells #[.slice none 0 0, .slice none 0 0, .int .i64 0, .slice none 0 0, .slice none 0 0] 108)) := ((Ext.refl _).alloc _).alloc _
  have hW0 : ((w.alloc (.cells #[.slice ea F.east.length ec, .slice na F.north.length nc, .int .i64 F.gap, .slice sa F.nets.length sc] 40)).alloc (.cells #[.slice none 0 0, .slice none 0 0, .int .i64 0, .slice none 0 0, .slice none 0 0] 108)).heap[w.heap.size]? = some (.cells #[.slice ea F.east.length ec, .slice na F.north.length nc, .int .i64 F.gap, .slice sa F.nets.length sc] 40 (0, 0)) := by simp only [alloc_at, World.size_alloc]; (repeat rw [if_neg (by omega)]); first | rfl | rw [if_pos (by omega)] | rw [if_pos trivial]
  have hW1 : ((w.alloc (.cells #[.slice ea F.east.length ec, .slice na F.north.length nc, .int .i64 F.gap, .slice sa F.nets.length sc] 40)).alloc (.cells #[.slice none 0 0, .slice none 0 0, .int .i64 0, .slice none 0 0, .slice none 0 0] 108)).heap[w.heap.size + 1]? = some (.cells #[.slice none 0 0, .slice none 0 0, .int .i64 0, .slice none 0 0, .slice none 0 0] 108 (0, 0)) := by simp only [alloc_at, World.size_alloc]; (repeat rw [if_neg (by omega)]); first | rfl | rw [if_pos (by omega)] | rw [if_pos trivial]
  generalize (w.alloc (.cells #[.slice ea F.east.length ec, .slice na F.north.length nc, .int .i64 F.gap, .slice sa F.nets.length sc] 40)).alloc (.cells #[.slice none 0 0, .slice none 0 0, .int .i64 0, .slice none 0 0, .slice none 0 0] 108) = W at *
  have HW := hid hW
  have HB1 := hid hW1
  have hc := cell_of hW0
  clear hW hW0 hW1
  gi_wp2_with (gi_at_call 72; ((with_reducible refine (HFL.out _ HW.out).mono ?_); rintro e w1 ⟨rfl, hx1⟩; have hc := cell_of (hx1.block HB1.out); have hf := free_of (hx1.block HB1.out)))
  have hbk : ((((((w1.setCell ⟨w.heap.size + 1, 0, none⟩ (.slice none 0 0)).setCell ⟨w.heap.size + 1, 1, none⟩ (.slice none 0 0)).setCell ⟨w.heap.size + 1, 2, none⟩ (.int .i64 0)).setCell ⟨w.heap.size + 1, 3, none⟩ (.slice none 0 0)).setCell ⟨w.heap.size + 1, 4, none⟩ (.slice none 0 0))).heap[w.heap.size + 1]? = some (.cells #[.slice none 0 0, .slice none 0 0, .int .i64 0, .slice none 0 0, .slice none 0 0] 108 (0, 0)) := by
    have := set_same (set_same (set_same (set_same (set_same (hx1.block HB1.out) 0 (.slice none 0 0)) 1 (.slice none 0 0)) 2 (.int .i64 0)) 3 (.slice none 0 0)) 4 (.slice none 0 0)
    simpa using this
  have hEx : Ext w (((((w1.setCell ⟨w.heap.size + 1, 0, none⟩ (.slice none 0 0)).setCell ⟨w.heap.size + 1, 1, none⟩ (.slice none 0 0)).setCell ⟨w.heap.size + 1, 2, none⟩ (.int .i64 0)).setCell ⟨w.heap.size + 1, 3, none⟩ (.slice none 0 0)).setCell ⟨w.heap.size + 1, 4, none⟩ (.slice none 0 0)) :=
    (((((HW.out.trans hx1).set (by omega) _ _).set (by omega) _ _).set (by omega) _ _).set (by omega) _ _).set (by omega) _ _
  generalize (((((w1.setCell ⟨w.heap.size + 1, 0, none⟩ (.slice none 0 0)).setCell ⟨w.heap.size + 1, 1, none⟩ (.slice none 0 0)).setCell ⟨w.heap.size + 1, 2, none⟩ (.int .i64 0)).setCell ⟨w.heap.size + 1, 3, none⟩ (.slice none 0 0)).setCell ⟨w.heap.size + 1, 4, none⟩ (.slice none 0 0)) = WF at *
  clear hc hf
  have hc := cell_of hbk
  exact bodyPost_ret (v := .tuple #[.agg #[.slice none 0 0, .slice none 0 0, .int .i64 0, .slice none 0 0, .slice none 0 0], .int .i64 20]) (by simp [results, Try.results51, go_sem, hc]) rfl ⟨rfl, hEx⟩
set_option maxRecDepth 100000 in
set_option maxHeartbeats 4000000 in
theorem newFleet_yes (F : FleetD) (hF : fleetB F = true) (ev nv sv : Value) (w : World) (he : SpansAt w ev F.east) (hn : SpansAt w nv F.north) (hs : ShotsAt w sv F.nets) :
    Cal 51 #[.agg #[ev, nv, .int .i64 F.gap, sv]] w fun e w' => ∃ fv, e = .returned (.tuple #[fv, .int .i64 0]) ∧ Ext w w' ∧ Hid (FleetAt w' fv F) := by
  have HFL := hid (fun (u : World) (hu : Ext w u) => isFleet_any F ev nv sv u (he.mono hu) (hn.mono hu) (hs.mono hu))
  rw [hF] at HFL
  have hok := fleetB_ok hF
  obtain ⟨eb, eo, ec, rfl⟩ := he.slice hok.hours.1
  obtain ⟨nb, no, nc, rfl⟩ := hn.slice (by rw [hok.same]; exact hok.hours.1)
  have HE := hid he
  have HN := hid hn
  obtain ⟨sa, sc, rfl, hsl, hcs⟩ := hs
  have HC := hid hcs
  have hcount := hok.count.2
  clear hcs he hn hF hok
  gi_enter Try.func51, Try.ntmps51
  gi_upto_region 1 with fail
  have hW : Ext w ((w.alloc (.cells #[.slice (some ⟨eb, eo, none⟩) F.east.length ec, .slice (some ⟨nb, no, none⟩) F.north.length nc, .int .i64 F.gap, .slice sa F.nets.length sc] 40)).alloc (.cells #[.slice none 0 0, .slice none 0 0, .int .i64 0, .slice none 0 0, .slice none 0 0] 108)) := ((Ext.refl _).alloc _).alloc _
  have hW0 : ((w.alloc (.cells #[.slice (some ⟨eb, eo, none⟩) F.east.length ec, .slice (some ⟨nb, no, none⟩) F.north.length nc, .int .i64 F.gap, .slice sa F.nets.length sc] 40)).alloc (.cells #[.slice none 0 0, .slice none 0 0, .int .i64 0, .slice none 0 0, .slice none 0 0] 108)).heap[w.heap.size]? = some (.cells #[.slice (some ⟨eb, eo, none⟩) F.east.length ec, .slice (some ⟨nb, no, none⟩) F.north.length nc, .int .i64 F.gap, .slice sa F.nets.length sc] 40 (0, 0)) := by simp only [alloc_at, World.size_alloc]; (repeat rw [if_neg (by omega)]); first | rfl | rw [if_pos (by omega)] | rw [if_pos trivial]
  have hW1 : ((w.alloc (.cells #[.slice (some ⟨eb, eo, none⟩) F.east.length ec, .slice (some ⟨nb, no, none⟩) F.north.length nc, .int .i64 F.gap, .slice sa F.nets.length sc] 40)).alloc (.cells #[.slice none 0 0, .slice none 0 0, .int .i64 0, .slice none 0 0, .slice none 0 0] 108)).heap[w.heap.size + 1]? = some (.cells #[.slice none 0 0, .slice none 0 0, .int .i64 0, .slice none 0 0, .slice none 0 0] 108 (0, 0)) := by simp only [alloc_at, World.size_alloc]; (repeat rw [if_neg (by omega)]); first | rfl | rw [if_pos (by omega)] | rw [if_pos trivial]
  generalize (w.alloc (.cells #[.slice (some ⟨eb, eo, none⟩) F.east.length ec, .slice (some ⟨nb, no, none⟩) F.north.length nc, .int .i64 F.gap, .slice sa F.nets.length sc] 40)).alloc (.cells #[.slice none 0 0, .slice none 0 0, .int .i64 0, .slice none 0 0, .slice none 0 0] 108) = W at *
  have HW := hid hW
  have HB0 := hid hW0
  have HB1 := hid hW1
  have hc := cell_of hW0
  clear hW hW0 hW1
  gi_upto_region 3 with (gi_at_call 72; ((with_reducible refine (HFL.out _ HW.out).mono ?_); rintro e w1 ⟨rfl, hx1⟩; have hc := cell_of (hx1.block HB0.out)))
  have HX1 := hid (HW.out.trans hx1)
  have HB0 := hid (hx1.block HB0.out)
  have HB1 := hid (hx1.block HB1.out)
  clear HFL hx1 HW
  gi_upto_region 4 with fail
  have hxa : Ext w1 (w1.alloc (.cells #[.slice (some ⟨eb, eo, none⟩) F.east.length ec, .slice (some ⟨nb, no, none⟩) F.north.length nc, .int .i64 F.gap, .slice sa F.nets.length sc, .slice none 0 0] 108)) := (Ext.refl _).alloc _
  have hG : (w1.alloc (.cells #[.slice (some ⟨eb, eo, none⟩) F.east.length ec, .slice (some ⟨nb, no, none⟩) F.north.length nc, .int .i64 F.gap, .slice sa F.nets.length sc, .slice none 0 0] 108)).heap[w1.heap.size]? = some (.cells #[.slice (some ⟨eb, eo, none⟩) F.east.length ec, .slice (some ⟨nb, no, none⟩) F.north.length nc, .int .i64 F.gap, .slice sa F.nets.length sc, .slice none 0 0] 108 (0, 0)) := Ext.new (Ext.refl _)
  have hlt := lt_of_block HB1.out
  clear hc
  have hc := cell_of (hxa.block HB0.out)
  obtain ⟨G, hGe⟩ : ∃ G, G = w1.heap.size := ⟨_, rfl⟩
  rw [← hGe] at hG hlt ⊢
  have HJ : (fun (k : Nat) (wr : World) => Hid (Ext w wr ∧ wr.heap[w.heap.size + 1]? = some (.cells #[.slice none 0 0, .slice none 0 0, .int .i64 0, .slice none 0 0, .slice none 0 0] 108 (0, 0)) ∧ w.heap.size + 1 < G ∧ ∃ v, wr.heap[G]? = some (.cells #[.slice (some ⟨eb, eo, none⟩) F.east.length ec, .slice (some ⟨nb, no, none⟩) F.north.length nc, .int .i64 F.gap, .slice sa F.nets.length sc, v] 108 (0, 0)) ∧ Row wr 125 11 v k (netTo F.nets k) ∧ ∀ g, v.ownBlock = some g → G < g)) 0 (w1.alloc (.cells #[.slice (some ⟨eb, eo, none⟩) F.east.length ec, .slice (some ⟨nb, no, none⟩) F.north.length nc, .int .i64 F.gap, .slice sa F.nets.length sc, .slice none 0 0] 108)) := ⟨HX1.out.trans hxa, hxa.block HB1.out, hlt, _, hG, Row.nil _ _ _, fun g hg => by simp [Value.ownBlock] at hg⟩
  have HJ := hid HJ
  clear hG hlt HB0 HB1 HX1
  generalize w1.alloc (.cells #[.slice (some ⟨eb, eo, none⟩) F.east.length ec, .slice (some ⟨nb, no, none⟩) F.north.length nc, .int .i64 F.gap, .slice sa F.nets.length sc, .slice none 0 0] 108) = W1 at *
  clear hGe hxa
  gi_wp2_with fail
  gi_loopw [16] (fun i wr => ∃ k : Nat, k ≤ F.nets.length ∧ i = .int .i64 k ∧ Hid (Ext w wr ∧ wr.heap[w.heap.size + 1]? = some (.cells #[.slice none 0 0, .slice none 0 0, .int .i64 0, .slice none 0 0, .slice none 0 0] 108 (0, 0)) ∧ w.heap.size + 1 < G ∧ ∃ v, wr.heap[G]? = some (.cells #[.slice (some ⟨eb, eo, none⟩) F.east.length ec, .slice (some ⟨nb, no, none⟩) F.north.length nc, .int .i64 F.gap, .slice sa F.nets.length sc, v] 108 (0, 0)) ∧ Row wr 125 11 v k (netTo F.nets k) ∧ ∀ g, v.ownBlock = some g → G < g)) (fun i _ => F.nets.length - (intOf i).toNat)
  case atStart => exact ⟨0, Nat.zero_le _, rfl, HJ.out⟩
  case round =>
    obtain ⟨k, hk, rfl, hI⟩ := hrel
    clear HJ hc
    obtain ⟨hx, hb1, hlG, v, hbG, hrow, hown⟩ := hI.out
    clear hI
    by_cases hlt : k < F.nets.length
    · obtain ⟨b, off, rfl, hb, c0, c1, c2, c3, c4, c5, c6, c7, c8, c9⟩ := HC.out k hlt
      rw [← hx.cell (p := ⟨b, _, none⟩) hb] at c0 c1 c2 c3 c4 c5 c6 c7 c8 c9
      have hki : (k : Int) < F.nets.length := by omega
      have HT := hid (netTo_succ F.nets hlt)
      generalize F.nets[k] = m at *
      have HB1 := hid hb1
      have HBG := hid hbG
      have HROW := hid hrow
      have HOWN := hid hown
      clear hb1 hbG hrow hown
      gi_upto_region 7 with fail
      have hx2 : Ext wr (wr.alloc (.cells #[.int .i64 m.east, .int .i64 m.north, .int .i64 m.long, .int .i64 m.along, .int .i64 m.shot, .int .i64 m.haul, .int .i64 m.se.lo, .int .i64 m.se.hi, .int .i64 m.sn.lo, .int .i64 m.sn.hi] 58)) := (Ext.refl _).alloc _
      have hb2 : (wr.alloc (.cells #[.int .i64 m.east, .int .i64 m.north, .int .i64 m.long, .int .i64 m.along, .int .i64 m.shot, .int .i64 m.haul, .int .i64 m.se.lo, .int .i64 m.se.hi, .int .i64 m.sn.lo, .int .i64 m.sn.hi] 58)).heap[wr.heap.size]? = some (.cells #[.int .i64 m.east, .int .i64 m.north, .int .i64 m.long, .int .i64 m.along, .int .i64 m.shot, .int .i64 m.haul, .int .i64 m.se.lo, .int .i64 m.se.hi, .int .i64 m.sn.lo, .int .i64 m.sn.hi] 58 (0, 0)) := Ext.new (Ext.refl _)
      clear c0 c1 c2 c3 c4 c5 c6 c7 c8 c9
      have HX := hid (hx.trans hx2)
      have HB1 := hid (hx2.block HB1.out)
      have HBG := hid (hx2.block HBG.out)
      have HROW := hid (HROW.out.mono hx2)
      have hcb := cell_of hb2
      have hcg := cell_of HBG.out
      clear hb2 hx2 hx
      generalize wr.alloc (.cells #[.int .i64 m.east, .int .i64 m.north, .int .i64 m.long, .int .i64 m.along, .int .i64 m.shot, .int .i64 m.haul, .int .i64 m.se.lo, .int .i64 m.se.hi, .int .i64 m.sn.lo, .int .i64 m.sn.hi] 58) = W2 at *
      obtain ⟨i0, hi0, hz0, hz1, hz2⟩ := info_parts info125
      have HZ := hid (And.intro hi0 (And.intro hz0 (And.intro hz1 hz2)))
      clear hi0 hz0 hz1 hz2
      have HRW := hid (HROW.out.mono ((Ext.refl W2).alloc (.cells #[.int .i64 m.east, .int .i64 m.north, .int .i64 m.long, .int .i64 m.along, .int .i64 m.shot, .int .i64 m.haul, .int .i64 m.se.lo, .int .i64 m.se.hi, .int .i64 m.sn.lo, .int .i64 m.sn.hi, .int .i64 k] 125)))
      have HBG2 := hid (((Ext.refl W2).alloc (.cells #[.int .i64 m.east, .int .i64 m.north, .int .i64 m.long, .int .i64 m.along, .int .i64 m.shot, .int .i64 m.haul, .int .i64 m.se.lo, .int .i64 m.se.hi, .int .i64 m.sn.lo, .int .i64 m.sn.hi, .int .i64 k] 125)).block HBG.out)
      have HNW : Hid (∀ j u, (netCells m k)[j]? = some u → (W2.alloc (.cells #[.int .i64 m.east, .int .i64 m.north, .int .i64 m.long, .int .i64 m.along, .int .i64 m.shot, .int .i64 m.haul, .int .i64 m.se.lo, .int .i64 m.se.hi, .int .i64 m.sn.lo, .int .i64 m.sn.hi, .int .i64 k] 125)).cell? ((⟨W2.heap.size, 0, none⟩ : Addr).add j) = some u) := fun j u hj => by rw [Addr.add_mid, Nat.zero_add, new_cell _ _ rfl]; simpa [netCells] using hj
      have hmax : k + 1 ≤ 1000000000 := by omega
      gi_wp2_with (refine wpIn_append_row (fun _ => trivial) rfl (.tmp 22) (.tmp 26) rfl Try.underlying106 HZ.out.1 HZ.out.2.1 HZ.out.2.2.1 HZ.out.2.2.2 (by simp [Value.cells]) (by omega) (v := v) rfl HRW.out ⟨W2.heap.size, 0, none⟩ 1 rfl (netCells m k) rfl HNW.out (fun u hu => by simp [netCells] at hu; rcases hu with rfl | rfl | rfl | rfl | rfl | rfl | rfl | rfl | rfl | rfl | rfl <;> rfl) hmax (by omega) ?_; intro v' w' hrow' hgr' how'; obtain ⟨sa', sn', sc', rfl⟩ := hrow'.isSlice; have hbv' := grownBy_block hgr' HBG2.out (fun e => by have := HOWN.out _ e.symm; omega); have hcv' := cell_of hbv'; have hfv' := free_of hbv')
      have hlG2 := lt_of_block HBG.out
      have hsz : w.heap.size ≤ W2.heap.size := HX.out.size
      have hbel : Ext w w' := Below.trans (HX.out.alloc _) ⟨hgr'.os, hgr'.tape, hgr'.output, hgr'.size, fun j hj => hgr'.block j (by simp; omega) (fun e => by have := HOWN.out j e.symm; omega)⟩
      have hb1' := grownBy_block hgr' (((Ext.refl W2).alloc _).block HB1.out) (fun e => by have := HOWN.out _ e.symm; omega)
      have hown' : ∀ g, (Value.slice sa' sn' sc').ownBlock = some g → G < g := fun g hg => by
        rcases how' with e | e
        · exact HOWN.out g (by rw [← e]; exact hg)
        · rw [hg] at e; cases e; simp; omega
      go_roundw
      case rel =>
        refine ⟨k + 1, by omega, by go_num, hbel.set (by omega) _ _, by rw [set_other (by omega)]; exact hb1', hlG, _, set_same hbv' 4 _, ?_, hown'⟩
        rw [HT.out]
        exact hrow'.set (fun e => by have := hown' _ e; omega) _ _
      case measure => simp [intOf]; omega
    · obtain rfl : k = F.nets.length := by omega
      obtain ⟨ma, mc, rfl⟩ := hrow.isSliceN
      have HROW := hid hrow
      have HOWN := hid hown
      have HB1 := hid hb1
      have hcg := cell_of hbG
      have hcr := cell_of hb1
      have hfr := free_of hb1
      have HX := hid hx
      clear hrow hown hb1 hx
      gi_wp2_with fail
      have hbk := set_same (set_same (set_same (set_same (set_same HB1.out 0 (.slice (some ⟨eb, eo, none⟩) F.east.length ec)) 1 (.slice (some ⟨nb, no, none⟩) F.north.length nc)) 2 (.int .i64 F.gap)) 3 (.slice sa F.nets.length sc)) 4 (.slice ma F.nets.length mc)
      have hne : (Value.slice ma F.nets.length mc).ownBlock ≠ some (w.heap.size + 1) := fun e => by have := HOWN.out _ e; omega
      have hrow := ((((HROW.out.set hne 0 (.slice (some ⟨eb, eo, none⟩) F.east.length ec)).set hne 1 (.slice (some ⟨nb, no, none⟩) F.north.length nc)).set hne 2 (.int .i64 F.gap)).set hne 3 (.slice sa F.nets.length sc)).set hne 4 (.slice ma F.nets.length mc)
      have hEx := ((((HX.out.set (b := w.heap.size + 1) (by omega) 0 (.slice (some ⟨eb, eo, none⟩) F.east.length ec)).set (b := w.heap.size + 1) (by omega) 1 (.slice (some ⟨nb, no, none⟩) F.north.length nc)).set (b := w.heap.size + 1) (by omega) 2 (.int .i64 F.gap)).set (b := w.heap.size + 1) (by omega) 3 (.slice sa F.nets.length sc)).set (b := w.heap.size + 1) (by omega) 4 (.slice ma F.nets.length mc)
      simp only [List.setIfInBounds_toArray, List.set_cons_succ, List.set_cons_zero] at hbk
      clear hcg hcr hfr HX HROW HB1 hbG
      generalize (((((wr.setCell ⟨w.heap.size + 1, 0, none⟩ (.slice (some ⟨eb, eo, none⟩) F.east.length ec)).setCell ⟨w.heap.size + 1, 1, none⟩ (.slice (some ⟨nb, no, none⟩) F.north.length nc)).setCell ⟨w.heap.size + 1, 2, none⟩ (.int .i64 F.gap)).setCell ⟨w.heap.size + 1, 3, none⟩ (.slice sa F.nets.length sc)).setCell ⟨w.heap.size + 1, 4, none⟩ (.slice ma F.nets.length mc)) = WF at *
      have hc := cell_of hbk
      refine bodyPost_ret (v := .tuple #[.agg #[.slice (some ⟨eb, eo, none⟩) F.east.length ec, .slice (some ⟨nb, no, none⟩) F.north.length nc, .int .i64 F.gap, .slice sa F.nets.length sc, .slice ma F.nets.length mc], .int .i64 0]) (by simp [results, Try.results51, go_sem, hc]) rfl ⟨_, rfl, hEx, ?_⟩
      exact ⟨eb, eo, ec, nb, no, nc, _, _, _, _, rfl, HE.out.mono hEx, HN.out.mono hEx, NetsAt.of_row hrow (by omega)⟩

end Go.Proofs.Ytmjelgonhpgmbaa
