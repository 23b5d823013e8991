/- The reference: whether a net fouls none. -/
import Derived.Test.YtmjelgonhpgmbaaGreatSM
import Derived.Test.YtmjelgonhpgmbaaGreatZJ
set_option linter.unusedSimpArgs false
set_option linter.unusedVariables false
namespace Go.Proofs.YtmjelgonhpgmbaaGreat
open Go Go.RowKit Go.Shelf

def clearI (F : FleetD) (n h i : Nat) : Bool := i == n || !canB F i n h
def clearH (F : FleetD) (n h : Nat) : Bool := allTo (clearI F n h) F.nets.length
def clearB (F : FleetD) (n : Nat) : Bool := allTo (clearH F n) (F.east.length + 1)
set_option maxRecDepth 100000 in
set_option maxHeartbeats 8000000 in
theorem clear_z (F : FleetD) (hF : FleetW F) (n : Nat) (hn' : n < F.nets.length) (ev nv sv : Value) (w : World) (he : SpansAt w ev F.east) (hn : SpansAt w nv F.north) (hs : ShotsAt w sv F.nets) :
    Cal 50 #[.agg #[ev, nv, .int .i64 F.gap, sv], .int .i64 (n : Int)] w fun e w' => e = .returned (.bool (clearB F n)) ∧ Ext w w' := by
  have HCA := hid (fun (i k h : Nat) (hi : i < F.nets.length) (hk : k < F.nets.length) (hh : h ≤ F.east.length) (u : World) (hu : Ext w u) => can_z F hF _ _ _ i k h hi hk hh u (he.mono hu) (hn.mono hu) (hs.mono hu))
  obtain ⟨ea, ec, rfl, ⟨hec, hel⟩, _⟩ := he
  obtain ⟨na, nc, rfl, ⟨hnc, hnl⟩, _⟩ := hn
  obtain ⟨sa, sc, rfl, ⟨hsc, hsl⟩, hcs⟩ := hs
  clear hcs
  gi_enter Tryz.func50, Tryz.ntmps50
  gi_upto_region 1 with fail
  have hW : Ext w (w.alloc (.cells #[.slice ea F.east.length ec, .slice na F.north.length nc, .int .i64 F.gap, .slice sa F.nets.length sc] 25)) := (Ext.refl _).alloc _
  have hB0 : (w.alloc (.cells #[.slice ea F.east.length ec, .slice na F.north.length nc, .int .i64 F.gap, .slice sa F.nets.length sc] 25)).heap[w.heap.size]? = some (.cells #[.slice ea F.east.length ec, .slice na F.north.length nc, .int .i64 F.gap, .slice sa F.nets.length sc] 25 (0, 0)) := by
    have h := Ext.new (w := w) (o := .cells #[.slice ea F.east.length ec, .slice na F.north.length nc, .int .i64 F.gap, .slice sa F.nets.length sc] 25) (Ext.refl _)
    try simp only [World.size_alloc] at h
    exact (Ext.refl _).block h
  have hZ : (w.alloc (.cells #[.slice ea F.east.length ec, .slice na F.north.length nc, .int .i64 F.gap, .slice sa F.nets.length sc] 25)).heap.size = w.heap.size + 1 := by simp only [World.size_alloc]
  generalize (w.alloc (.cells #[.slice ea F.east.length ec, .slice na F.north.length nc, .int .i64 F.gap, .slice sa F.nets.length sc] 25)) = W at *
  have HX := hid hW
  have HZ := hid hZ
  have HB0 := hid hB0
  have c0 := cell_of hB0
  clear hW hZ hB0
  have hh24 := hF.hours
  have hn6 := hF.count
  clear hF
  gi_wp2_with fail
  clear c0
  gi_loopw [5] (fun a wr => ∃ h : Nat, h ≤ F.east.length + 1 ∧ a = .int .i64 h ∧ Hid ((∀ j, j < h → clearH F n j = true) ∧ Ext W wr)) (fun a _ => F.east.length + 1 - (intOf a).toNat)
  case atStart => exact ⟨0, Nat.zero_le _, rfl, fun _ h => absurd h (by omega), Ext.refl _⟩
  case round =>
    obtain ⟨h, hh, rfl, HH⟩ := hrel
    have c0 := cell_of (HH.out.2.block HB0.out)
    by_cases hlt : h ≤ F.east.length
    · have hki : (h : Int) ≤ F.east.length := by omega
      gi_wp2_with fail
      clear c0
      gi_loopw [6] (fun a wr => ∃ i : Nat, i ≤ F.nets.length ∧ a = .int .i64 i ∧ Hid ((∀ j, j < i → clearI F n h j = true) ∧ Ext W wr)) (fun a _ => F.nets.length - (intOf a).toNat)
      case atStart => exact ⟨0, Nat.zero_le _, rfl, fun _ h => absurd h (by omega), HH.out.2⟩
      case round =>
        obtain ⟨i, hi, rfl, HI⟩ := hrel
        have c0 := cell_of (HI.out.2.block HB0.out)
        by_cases hlti : i < F.nets.length
        · have hkj : (i : Int) < F.nets.length := by omega
          cases hne : ((i : Int) != (n : Int))
          case false =>
            have hin : i = n := by have : (i : Int) = n := by simpa using hne
                                   omega
            have HU := hid (upTo_succ HI.out.1 (show clearI F n h i = true by unfold clearI; rw [hin]; simp))
            clear hin
            gi_wp2_with fail
            go_roundw
            case rel => exact ⟨i + 1, by omega, by go_num, HU.out, HI.out.2⟩
            case measure => simp [intOf]; omega
          case true =>
            have hin : (i == n) = false := by
              have : (i : Int) ≠ n := by simpa using hne
              simp; omega
            have HCI : Hid (clearI F n h i = !canB F i n h) := by show clearI F n h i = _; unfold clearI; rw [hin]; rfl
            have HCC := hid (fun (u : World) (hu : Ext w u) => HCA.out i n h hlti hn' hlt u hu)
            clear hin
            cases hc : canB F i n h
            case true =>
              rw [hc] at HCC HCI
              have HG : Hid (clearB F n = false) := by
                show clearB F n = false
                refine allTo_no (Nat.lt_succ_of_le hlt) ?_
                exact allTo_no hlti HCI.out
              clear hc
              gi_wp2_with (gi_at_call 45; ((with_reducible refine (HCC.out _ (HX.out.trans HI.out.2)).mono ?_); rintro e w8 ⟨rfl, hx8⟩))
              go_ret
              exact ⟨by rw [HG.out]; first | done | rfl, (HX.out.trans HI.out.2).trans hx8⟩
            case false =>
              rw [hc] at HCC HCI
              have HU := hid (upTo_succ HI.out.1 HCI.out)
              clear hc
              gi_wp2_with (gi_at_call 45; ((with_reducible refine (HCC.out _ (HX.out.trans HI.out.2)).mono ?_); rintro e w8 ⟨rfl, hx8⟩))
              go_roundw
              case rel => exact ⟨i + 1, by omega, by go_num, HU.out, HI.out.2.trans hx8⟩
              case measure => simp [intOf]; omega
        · obtain rfl : i = F.nets.length := by omega
          have hkj : ¬ (F.nets.length : Int) < F.nets.length := by omega
          have HU := hid (upTo_succ HH.out.1 (show clearH F n h = true from allTo_yes HI.out.1))
          gi_wp2_with fail
          go_roundw
          case rel => exact ⟨h + 1, by omega, by go_num, HU.out, HI.out.2⟩
          case measure => simp [intOf]; omega
    · obtain rfl : h = F.east.length + 1 := by omega
      have hki : ¬ ((F.east.length + 1 : Nat) : Int) ≤ F.east.length := by omega
      have HG : Hid (clearB F n = true) := allTo_yes HH.out.1
      gi_wp2_with fail
      go_ret
      exact ⟨by rw [HG.out]; first | done | rfl, HX.out.trans HH.out.2⟩

/-- A fleet with one net shot so much farther. -/
def movN (x : NetD) (d : Int) : NetD := { x with east := x.east + d }
def movF (F : FleetD) (n : Nat) (d : Int) : FleetD := { F with nets := F.nets.set n (movN (F.nets.getD n netZ) d) }
theorem mov_len (F : FleetD) (n : Nat) (d : Int) : (movF F n d).nets.length = F.nets.length := by simp [movF]
theorem mov_self {F : FleetD} {n : Nat} (h : n < F.nets.length) (d : Int) : (movF F n d).nets.getD n netZ = movN (F.nets.getD n netZ) d := by simp [movF, h]
theorem mov_other {F : FleetD} {n k : Nat} (h : k ≠ n) (d : Int) : (movF F n d).nets.getD k netZ = F.nets.getD k netZ := by simp [movF, List.getElem?_set, Ne.symm h]
theorem mov_ok {F : FleetD} (hF : FleetOk F) {n : Nat} (hn : n < F.nets.length) {d : Int} (hd : 0 ≤ d ∧ d ≤ 5000) : FleetW (movF F n d) := by
  have o := hF.nets _ (List.getElem_mem hn)
  refine ⟨hF.hours, hF.same, hF.east, hF.north, hF.gap, by rw [mov_len]; exact hF.count, fun m hm => ?_⟩
  rcases List.mem_or_eq_of_mem_set hm with h | rfl
  · exact NetW.of (hF.nets m h)
  · rw [getD_of hn]
    unfold movN
    exact ⟨by simp only; have := o.east; omega, by simp only; have := o.north; omega, o.long, o.along, o.shot.1, o.se, o.sn⟩
theorem mov_can {F : FleetD} (hF : FleetOk F) {n k h : Nat} (hn : n < F.nets.length) (hk : k < F.nets.length) (hne : k ≠ n) (hh : h ≤ F.east.length) (d : Int) : canB (movF F n d) k n h = true ↔ barsAt F (F.nets.getD n netZ) (F.nets.getD k netZ) d h := by
  unfold canB barsAt
  rw [mov_self hn, mov_other hne]
  have o1 := hF.nets _ (List.getElem_mem hn)
  have o2 := hF.nets _ (List.getElem_mem hk)
  rw [getD_of hn, getD_of hk]
  generalize F.nets[n] = x at *
  generalize F.nets[k] = a at *
  have e1 : lieB (movN x d) h = lieB x h := rfl
  rw [e1]
  constructor
  · intro q
    simp only [Bool.and_eq_true] at q
    obtain ⟨l2, l1, q1, q2⟩ := q
    have i1 := inB_spec l1
    have i2 := inB_spec l2
    have m1 : mx x.shot a.shot ≤ (h : Int) := by unfold mx; split <;> omega
    rw [show apRe (movF F n d) a (movN x d) h = apart_eF F a (movN x d) h from apRe_eq (F := F) o2.shot.1 o1.shot.1 i2.1 i1.1 hh, apart_eG] at q1
    rw [show apRn (movF F n d) a (movN x d) h = apart_nF F a (movN x d) h from apRn_eq (F := F) hF.same o2.shot.1 o1.shot.1 i2.1 i1.1 hh, apart_nG] at q2
    refine ⟨hh, l1, l2, ?_, ?_⟩
    · rw [apart_nG]
      have hb := apart_back F.north x.north a.north x.shot a.shot x.sn a.sn h
      have ho := apart_ord hF.northo x.north a.north o1.shot.1 o2.shot.1 m1 o1.sno o2.sno
      rw [show apartG F.north a.north (movN x d).north a.shot (movN x d).shot a.sn (movN x d).sn h = apartG F.north a.north x.north a.shot x.shot a.sn x.sn h from rfl, hb] at q2
      generalize apartG F.north x.north a.north x.shot a.shot x.sn a.sn h = G at *
      rw [show (movF F n d).gap = F.gap from rfl, show long_nF (movN x d) = long_nF x from rfl] at q2
      have l1 := long_n_ok o1.long
      have l2 := long_n_ok o2.long
      have hg := hF.gap
      unfold nearB spNeg at q2
      simp only [Bool.and_eq_true, decide_eq_true_eq] at q2
      unfold meetS near_nF
      refine (meet_iff _ _ _ _).2 ⟨ho, by simp only; omega, by simp only; omega, by simp only; omega⟩
    · rw [apart_eG]
      have hb := apart_back F.east x.east a.east x.shot a.shot x.se a.se h
      have hm : apartG F.east a.east (movN x d).east a.shot (movN x d).shot a.se (movN x d).se h = spAdd ⟨-d, -d⟩ (apartG F.east a.east x.east a.shot x.shot a.se x.se h) := by
        unfold apartG movN spAdd spNeg
        simp only [Spn.mk.injEq]
        omega
      rw [hm, hb] at q1
      generalize apartG F.east x.east a.east x.shot a.shot x.se a.se h = G at *
      rw [show (movF F n d).gap = F.gap from rfl, show long_eF (movN x d) = long_eF x from rfl] at q1
      unfold nearB spNeg spAdd at q1
      simp only [Bool.and_eq_true, decide_eq_true_eq] at q1
      unfold spAdd spNeg near_eF
      simp only
      omega
  · rintro ⟨_, l1, l2, q2, q1⟩
    have i1 := inB_spec l1
    have i2 := inB_spec l2
    simp only [Bool.and_eq_true]
    refine ⟨l2, l1, ?_, ?_⟩
    · rw [show apRe (movF F n d) a (movN x d) h = apart_eF F a (movN x d) h from apRe_eq (F := F) o2.shot.1 o1.shot.1 i2.1 i1.1 hh, apart_eG]
      rw [apart_eG] at q1
      have hb := apart_back F.east x.east a.east x.shot a.shot x.se a.se h
      have hm : apartG F.east a.east (movN x d).east a.shot (movN x d).shot a.se (movN x d).se h = spAdd ⟨-d, -d⟩ (apartG F.east a.east x.east a.shot x.shot a.se x.se h) := by
        unfold apartG movN spAdd spNeg
        simp only [Spn.mk.injEq]
        omega
      rw [hm, hb]
      generalize apartG F.east x.east a.east x.shot a.shot x.se a.se h = G at *
      rw [show (movF F n d).gap = F.gap from rfl, show long_eF (movN x d) = long_eF x from rfl]
      unfold spAdd spNeg near_eF at q1
      simp only at q1
      unfold nearB spNeg spAdd
      simp only [Bool.and_eq_true, decide_eq_true_eq]
      omega
    · rw [show apRn (movF F n d) a (movN x d) h = apart_nF F a (movN x d) h from apRn_eq (F := F) hF.same o2.shot.1 o1.shot.1 i2.1 i1.1 hh, apart_nG]
      rw [apart_nG] at q2
      have hb := apart_back F.north x.north a.north x.shot a.shot x.sn a.sn h
      rw [show apartG F.north a.north (movN x d).north a.shot (movN x d).shot a.sn (movN x d).sn h = apartG F.north a.north x.north a.shot x.shot a.sn x.sn h from rfl, hb]
      generalize apartG F.north x.north a.north x.shot a.shot x.sn a.sn h = G at *
      rw [show (movF F n d).gap = F.gap from rfl, show long_nF (movN x d) = long_nF x from rfl]
      unfold meetS near_nF at q2
      have q2 := (meet_iff _ _ _ _).1 q2
      simp only at q2
      unfold nearB spNeg
      simp only [Bool.and_eq_true, decide_eq_true_eq]
      omega
theorem mov_clear {F : FleetD} (hF : FleetOk F) {n : Nat} (hn : n < F.nets.length) (d : Int) : clearB (movF F n d) n = true ↔ ¬ ∃ s ∈ barAll F n, s.lo ≤ d ∧ d ≤ s.hi := by
  rw [bar_iff hn]
  constructor
  · rintro hc ⟨k, hk, hne, h, hb⟩
    have hh : h ≤ F.east.length := hb.1
    have hcan := (mov_can hF hn hk hne hh d).2 hb
    have h1 : clearI (movF F n d) n h k = false := by
      unfold clearI
      rw [hcan, show (k == n) = false by simpa using hne]; rfl
    have h2 : clearH (movF F n d) n h = false := allTo_no (by rw [mov_len]; exact hk) h1
    have h3 : clearB (movF F n d) n = false := allTo_no (show h < F.east.length + 1 by omega) h2
    rw [h3] at hc; cases hc
  · intro hno
    refine allTo_yes fun h hh => allTo_yes fun k hk => ?_
    rw [mov_len] at hk
    unfold clearI
    by_cases hne : k = n
    · rw [hne]; simp
    · have hhe : h ≤ F.east.length := by
        have : h < F.east.length + 1 := hh
        omega
      cases hc : canB (movF F n d) k n h
      · simp
      · exact absurd ⟨k, hk, hne, h, (mov_can hF hn hk hne hhe d).1 hc⟩ hno

end Go.Proofs.YtmjelgonhpgmbaaGreat
