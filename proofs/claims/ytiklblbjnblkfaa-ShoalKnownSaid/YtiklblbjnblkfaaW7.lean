/- The next contracts of the walk. -/
import Derived.Test.YtiklblbjnblkfaaRange
set_option linter.unusedSimpArgs false
set_option linter.unusedVariables false
namespace Go.Proofs.Ytiklblbjnblkfaa
open Go Go.RowKit Go.Shelf

theorem IntsAt.get {w : World} {a : Option Addr} {n cap : Nat} {xs : List Int} (h : IntsAt w (.slice a n cap) xs) : n = xs.length ∧ xs.length ≤ 1000000000000000 ∧
    ∀ i (h : i < xs.length), ∃ b off, a = some ⟨b, off, none⟩ ∧ b < w.heap.size ∧ w.cell? ⟨b, off + i, none⟩ = some (.int .i64 xs[i]) := by
  obtain ⟨a', cap', hv, hl, hc⟩ := h
  cases hv
  exact ⟨rfl, hl, hc⟩

/-- The cells that are not land, of the first n. -/
def isOpen (land : List Int) (c : Nat) : Bool := !land.contains (c : Int)
def opens (land : List Int) (n : Nat) : List Nat := (List.range n).filter (isOpen land)
theorem opens_yes {land : List Int} {k : Nat} (h : isOpen land k = true) : opens land (k + 1) = opens land k ++ [k] := by
  unfold opens; rw [List.range_succ, List.filter_append]; simp [h]
theorem opens_no {land : List Int} {k : Nat} (h : isOpen land k = false) : opens land (k + 1) = opens land k := by
  unfold opens; rw [List.range_succ, List.filter_append]; simp [h]
theorem opens_prefix (land : List Int) (k : Nat) : ∀ n, k ≤ n → ∃ r, opens land n = opens land k ++ r := by
  intro n
  induction n with
  | zero => intro h; obtain rfl : k = 0 := by omega
            exact ⟨[], by simp⟩
  | succ n ih =>
    intro h
    rcases Nat.lt_or_ge n k with h' | h'
    · obtain rfl : k = n + 1 := by omega
      exact ⟨[], by simp⟩
    · obtain ⟨r, hr⟩ := ih h'
      cases ho : isOpen land n with
      | true => exact ⟨r ++ [n], by rw [opens_yes ho, hr, List.append_assoc]⟩
      | false => exact ⟨r, by rw [opens_no ho, hr]⟩
theorem opens_get {land : List Int} {k n : Nat} (hk : k < n) (h : isOpen land k = true) : ∃ hl : (opens land k).length < (opens land n).length, (opens land n)[(opens land k).length] = k := by
  obtain ⟨r, hr⟩ := opens_prefix land (k + 1) n hk
  rw [opens_yes h] at hr
  have hl : (opens land k).length < (opens land n).length := by rw [hr]; simp
  refine ⟨hl, ?_⟩
  simp only [hr, List.append_assoc]
  simp

def cellElem (S : SeaV) (c : Nat) : Array Value := #[.int .i64 c, .agg #[.int .i64 (col S c), .int .i64 (row S c)]]
def openElems (S : SeaV) (land : List Int) : List (Array Value) := (opens land (S.wide * S.high).toNat).map (cellElem S)
theorem openElems_get {S : SeaV} {land : List Int} {k : Nat} (hk : k < (S.wide * S.high).toNat) (h : isOpen land k = true) :
    ∃ hl : (opens land k).length < (openElems S land).length, (openElems S land)[(opens land k).length] = cellElem S k := by
  obtain ⟨hl, hg⟩ := opens_get hk h
  exact ⟨by unfold openElems; simpa using hl, by unfold openElems; simp [hg]⟩

theorem noGoto_ret {Q : Exit → Act → World → Prop} {a : Act} {w : World} (h : Q .ret a w) : Exit.noGoto Q .ret a w := by unfold Exit.noGoto; exact h
theorem noGoto_end {Q : Exit → Act → World → Prop} {a : Act} {w : World} (h : Q .normal a w) : Exit.noGoto Q .normal a w := by unfold Exit.noGoto; exact h

set_option maxHeartbeats 2000000 in
theorem open_iter (b : Nat) (S : SeaV) (hS : S.Ok) (land : List Int) : Iter 76 #[.pointer (some ⟨b, 0, none⟩)] #[] (openElems S land) (fun W => SeaAt W b S ∧ IntsAt W S.land land) := by
  intro l J Jx W hF hJ hJx hY h0
  have hw := hS.wide
  have hh := hS.high
  have hm := mul_bounds hw hh
  obtain ⟨hs0, hl0⟩ := hF 0 W h0
  have hc := hs0.cells
  obtain ⟨N, hN⟩ : ∃ N : Nat, S.wide * S.high = N := ⟨(S.wide * S.high).toNat, by omega⟩
  show CallsIn Fence.wide 0 Try.prog 76 #[.pointer (some ⟨b, 0, none⟩), .func (.yield l) #[] #[]] W _
  refine callsIn_of_wp Try.func76 rfl trivial ?_
  simp only [Try.ntmps76, List.size_toArray, List.length_cons, List.length_nil, Nat.reduceAdd, Nat.reduceSub, Array.replicate_succ, Array.replicate_zero, List.push_toArray, List.append_toArray, List.nil_append, List.cons_append]
  rw [wpIn_wide]
  refine wp_scope_straight ?_
  rw [← wpIn_wide (n := 0)]
  gi_wp2_with fail
  rw [wpIn_wide]
  refine wp_label ?_
  gi_wp2_with fail
  have HC := hid fun e : Later W => (hs0.mono e.grown).cells
  refine quiet_wide 12 (by kernel_rfl) (by kernel_rfl) ?_
  simp only [List.take_succ_cons, List.take_zero, List.drop_succ_cons, List.drop_zero]
  have hq := HC.out
  clear hc
  repeat (any_goals (first | go_big_quiet_step (fail) | quiet_step (fail)))
  refine wpQuiet_nil ?_
  rintro w0 ⟨⟨w0', hx0⟩, he⟩
  obtain rfl : w0 = w0' := he
  have hJ0 := hJ 0 W w0 h0 hx0
  clear hq HC hs0 hl0 h0 hx0
  gi_wp2_with fail
  gi_loopw [18] (fun i wr => ∃ k : Nat, k ≤ N ∧ i = .int .i64 k ∧ J (opens land k).length wr) (fun i _ => N - (intOf i).toNat)
  case atStart => exact ⟨0, Nat.zero_le _, rfl, hJ0⟩
  case round =>
    obtain ⟨k, hk, rfl, hJk⟩ := hrel
    obtain ⟨hs, hl⟩ := hF _ _ hJk
    have HF := hid hF
    have HJ := hid hJ
    have HY := hid hY
    have HJx := hid hJx
    clear hF hJ hY hJx hJ0
    by_cases hlt : k < N
    · have hc := hs.cells
      obtain ⟨a, cap, hv, hlen, hcell⟩ := hl
      have HCell := hid hcell
      clear hcell
      gi_wp2_with fail
      clear hc hs
      gi_loop [27] (fun i => ∃ m : Nat, m ≤ land.length ∧ i = .int .i64 m ∧ Hid (∀ j (h : j < land.length), j < m → land[j] ≠ (k : Int))) (fun i => land.length - (intOf i).toNat)
      case atStart => exact ⟨0, Nat.zero_le _, rfl, fun _ _ h => absurd h (by omega)⟩
      case round =>
        obtain ⟨m, hm', rfl, hne⟩ := hrel
        by_cases hlm : m < land.length
        · obtain ⟨b', off, rfl, hb', hcm⟩ := HCell.out m hlm
          by_cases heq : land[m] = (k : Int)
          · have hno : isOpen land k = false := by
              unfold isOpen
              have : land.contains (k : Int) = true := List.contains_iff_mem.2 (heq ▸ List.getElem_mem hlm)
              rw [this]; rfl
            have HR := hid (show J (opens land (k + 1)).length wr by rw [opens_no hno]; exact hJk)
            have hb1 : (land[m] == (k : Int)) = true := by rw [heq]; simp
            clear heq hno hv hJk
            gi_wp2
            go_roundw
            case rel => exact ⟨k + 1, by omega, by go_num, HR.out⟩
            case measure => simp [intOf]; omega
          · have hb1 : (land[m] == (k : Int)) = false := by simpa using heq
            have HN : Hid (∀ j (h : j < land.length), j < m + 1 → land[j] ≠ (k : Int)) := by
              intro j hj hjm
              rcases Nat.lt_or_ge j m with h' | h'
              · exact hne.out j hj h'
              · obtain rfl : j = m := by omega
                exact heq
            clear heq hne hv
            gi_wp2
            go_round
            case rel => exact ⟨m + 1, by omega, by go_num, HN⟩
            case measure => simp [intOf]; omega
        · obtain rfl : m = land.length := by omega
          have hyes : isOpen land k = true := by
            unfold isOpen
            have : land.contains (k : Int) = false := by
              cases hcn : land.contains (k : Int) with
              | false => rfl
              | true =>
                obtain ⟨j, hj, hjk⟩ := List.getElem_of_mem (List.contains_iff_mem.1 hcn)
                exact absurd hjk (hne.out j hj hj)
            rw [this]; rfl
          have HO := hid hyes
          obtain ⟨hs, _⟩ := HF.out _ _ hJk
          have HS := hid hs
          have HK := hid hJk
          clear hyes hne hv hJk hs
          gi_wp2_with (gi_at_call 50; ((with_reducible refine (place_b b S hS k (by omega) (by omega) _ HS.out).mono ?_); rintro e w1 ⟨rfl, hx1⟩))
          obtain ⟨hl', hget⟩ := openElems_get (S := S) (land := land) (k := k) (by rw [hN]; simpa using hlt) HO.out
          obtain ⟨fn, tm, asg, bd, hy, hR⟩ := HY.out _ hl' w1 (HJ.out _ _ _ HK.out hx1)
          rw [hget] at hy
          unfold cellElem at hy
          have HR := hid hR
          have HL := hid hl'
          have HX := hid hx1
          clear hR hl' hget hx1
          rw [hy, Oper.uponIn_round]
          clear hy
          refine ⟨fun h => (by cases h), HR.out.mono ?_⟩
          rintro e W' (⟨rfl, hJ'⟩ | ⟨rfl, hJx'⟩)
          · have HJ' := hid (show J (opens land (k + 1)).length W' by rw [opens_yes HO.out, List.length_append]; exact hJ')
            clear hJ'
            gi_wp2
            go_roundw
            case rel => exact ⟨k + 1, by omega, by go_num, HJ'.out⟩
            case measure => simp [intOf]; omega
          · have HJx' := hid hJx'
            clear hJx'
            gi_wp2
            refine noGoto_ret ?_
            exact bodyPost_ret (results_none rfl _ _ _) rfl ⟨⟨_, rfl⟩, .inr ⟨_, HL.out, HJx'.out⟩⟩
    · obtain rfl : k = N := by omega
      have HE := hid (show J (openElems S land).length wr by unfold openElems; rw [List.length_map, hN, Int.toNat_natCast]; exact hJk)
      clear hJk hl hs
      gi_wp2
      refine noGoto_end ?_
      exact bodyPost_end (results_none rfl _ _ _) rfl ⟨⟨_, rfl⟩, .inl HE.out⟩
end Go.Proofs.Ytiklblbjnblkfaa

namespace Go.Proofs.Ytiklblbjnblkfaa
open Go Go.RowKit Go.Shelf

/-- The places that are reached. -/
def reachAt (s : Nat) (fc fr se sn : Int) (i : Nat) : Int × Int := (fc + se + ((i % (2 * s + 1) : Nat) - (s : Int)), fr + sn + ((i / (2 * s + 1) : Nat) - (s : Int)))
def reachList (s : Nat) (fc fr se sn : Int) : List (Int × Int) := (List.range ((2 * s + 1) * (2 * s + 1))).map (reachAt s fc fr se sn)
def plcElem (p : Int × Int) : Array Value := #[.agg #[.int .i64 p.1, .int .i64 p.2]]
theorem reach_get {s : Nat} {fc fr se sn : Int} {a b : Nat} (ha : a < 2 * s + 1) (hb : b < 2 * s + 1) :
    ∃ hl : a * (2 * s + 1) + b < ((reachList s fc fr se sn).map plcElem).length, ((reachList s fc fr se sn).map plcElem)[a * (2 * s + 1) + b] = #[.agg #[.int .i64 (fc + se + (b - s)), .int .i64 (fr + sn + (a - s))]] := by
  have h1 : a * (2 * s + 1) + b < (2 * s + 1) * (2 * s + 1) := by
    have : (a + 1) * (2 * s + 1) ≤ (2 * s + 1) * (2 * s + 1) := Nat.mul_le_mul_right _ (by omega)
    rw [Nat.add_mul] at this; omega
  have h2 : (a * (2 * s + 1) + b) % (2 * s + 1) = b := by rw [Nat.mul_comm, Nat.mul_add_mod]; exact Nat.mod_eq_of_lt hb
  have h3 : (a * (2 * s + 1) + b) / (2 * s + 1) = a := by rw [Nat.mul_comm, Nat.mul_add_div (by omega), Nat.div_eq_of_lt hb]; rfl
  refine ⟨by simpa [reachList] using h1, ?_⟩
  simp [reachList, reachAt, plcElem, h2, h3]

set_option maxHeartbeats 2000000 in
theorem reach_iter (b : Nat) (S : SeaV) (hS : S.Ok) (s : Nat) (hsp : S.speed = s) (Bs Bf Bt : Nat) (fc fr se sn : Int) (h1 : -1000 ≤ fc ∧ fc ≤ 1000) (h2 : -1000 ≤ fr ∧ fr ≤ 1000) (h3 : -100 ≤ se ∧ se ≤ 100) (h4 : -100 ≤ sn ∧ sn ≤ 100) :
    Iter 106 #[] #[.pointer (some ⟨Bs, 0, none⟩), .pointer (some ⟨Bf, 0, none⟩), .pointer (some ⟨Bt, 0, none⟩)] ((reachList s fc fr se sn).map plcElem)
      (fun W => SeaAt W b S ∧ W.heap[Bs]? = some (.cells #[.pointer (some ⟨b, 0, none⟩)] 75) ∧ W.heap[Bf]? = some (.cells #[.int .i64 fc, .int .i64 fr] 81) ∧ W.heap[Bt]? = some (.cells #[.int .i64 se, .int .i64 sn] 70)) := by
  intro l J Jx W hF hJ hJx hY h0
  have hs2 : s ≤ 2 := by have := hS.speed; omega
  show CallsIn Fence.wide 0 Try.prog 106 #[.func (.yield l) #[] #[], .pointer (some ⟨Bs, 0, none⟩), .pointer (some ⟨Bf, 0, none⟩), .pointer (some ⟨Bt, 0, none⟩)] W _
  have HF := hid hF
  have HJ := hid hJ
  have HY := hid hY
  have HJx := hid hJx
  clear hF hJ hY hJx
  obtain ⟨hs, hb1, hb2, hb3⟩ := HF.out _ _ h0
  have hc := hs.cells
  have hc1 := cell_of hb1
  have HZ := hid (show J (0 * (2 * s + 1)) W by rw [Nat.zero_mul]; exact h0)
  clear h0 hs hb1 hb2 hb3
  gi_enter Try.func106, Try.ntmps106
  gi_wp2_with fail
  clear hc hc1
  gi_loopw [5] (fun i wr => ∃ k : Nat, k ≤ 2 * s + 1 ∧ i = .int .i64 (k - s) ∧ J (k * (2 * s + 1)) wr) (fun i _ => (2 * s + 1) - (intOf i + s).toNat)
  case atStart => exact ⟨0, Nat.zero_le _, by go_num, HZ.out⟩
  case round =>
    obtain ⟨k, hk, rfl, hJk⟩ := hrel
    clear HZ
    obtain ⟨hs, hb1, hb2, hb3⟩ := HF.out _ _ hJk
    have hc := hs.cells
    have hc1 := cell_of hb1
    have HK := hid hJk
    clear hJk hs hb1 hb2 hb3
    by_cases hlt : k < 2 * s + 1
    · have hd1 : decide ((k : Int) - (s : Int) ≤ (s : Int)) = true := decide_eq_true (by omega)
      gi_wp2_with fail
      clear hc hc1
      have HZ := hid (show J (k * (2 * s + 1) + 0) wr from HK.out)
      gi_loopw [6] (fun i wr => ∃ m : Nat, m ≤ 2 * s + 1 ∧ i = .int .i64 (m - s) ∧ J (k * (2 * s + 1) + m) wr) (fun i _ => (2 * s + 1) - (intOf i + s).toNat)
      case atStart => exact ⟨0, Nat.zero_le _, by go_num, HZ.out⟩
      case round =>
        obtain ⟨m, hm, rfl, hJm⟩ := hrel
        clear HZ HK
        obtain ⟨hs, hb1, hb2, hb3⟩ := HF.out _ _ hJm
        have hc := hs.cells
        have hc1 := cell_of hb1
        have hc2 := cell_of hb2
        have hc3 := cell_of hb3
        have HK := hid hJm
        clear hJm hs hb1 hb2 hb3
        by_cases hltm : m < 2 * s + 1
        · have hd2 : decide ((m : Int) - (s : Int) ≤ (s : Int)) = true := decide_eq_true (by omega)
          gi_wp2_with fail
          clear hc hc1 hc2 hc3
          obtain ⟨hl', hget⟩ := reach_get (s := s) (fc := fc) (fr := fr) (se := se) (sn := sn) hlt hltm
          obtain ⟨fn, tm, asg, bd, hy, hR⟩ := HY.out _ hl' wr HK.out
          rw [hget] at hy
          have HR := hid hR
          have HL := hid hl'
          clear hR hl' hget
          rw [hy, Oper.uponIn_round]
          clear hy
          refine ⟨fun h => (by cases h), HR.out.mono ?_⟩
          rintro e W' (⟨rfl, hJ'⟩ | ⟨rfl, hJx'⟩)
          · have HJ' := hid (show J (k * (2 * s + 1) + (m + 1)) W' from hJ')
            clear hJ'
            gi_wp2
            go_roundw
            case rel => exact ⟨m + 1, by omega, by go_num, HJ'.out⟩
            case measure => simp [intOf]; omega
          · have HJx' := hid hJx'
            clear hJx'
            gi_wp2
            exact bodyPost_ret (results_none rfl _ _ _) rfl ⟨⟨_, rfl⟩, .inr ⟨_, HL.out, HJx'.out⟩⟩
        · obtain rfl : m = 2 * s + 1 := by omega
          have HE := hid (show J ((k + 1) * (2 * s + 1)) wr by rw [Nat.add_mul, Nat.one_mul]; exact HK.out)
          clear HK
          gi_wp2
          go_roundw
          case rel => exact ⟨k + 1, by omega, by go_num, HE.out⟩
          case measure => simp [intOf]; omega
    · obtain rfl : k = 2 * s + 1 := by omega
      have HE := hid (show J ((reachList s fc fr se sn).map plcElem).length wr by unfold reachList; rw [List.length_map, List.length_map, List.length_range]; exact HK.out)
      clear HK
      gi_wp2
      exact bodyPost_end (results_none rfl _ _ _) rfl ⟨⟨_, rfl⟩, .inl HE.out⟩
end Go.Proofs.Ytiklblbjnblkfaa

namespace Go.Proofs.Ytiklblbjnblkfaa
open Go Go.RowKit Go.Shelf

theorem three_new {w : World} {o1 o2 o3 : Obj} : (((w.alloc o1).alloc o2).alloc o3).heap[w.heap.size]? = some o1 := (Below.heap_alloc _ _ _ (by simp; omega)).trans two_new
theorem three_mid {w : World} {o1 o2 o3 : Obj} : (((w.alloc o1).alloc o2).alloc o3).heap[w.heap.size + 1]? = some o2 := by
  have := two_new (w := w.alloc o1) (o1 := o2) (o2 := o3); rwa [World.size_alloc] at this
theorem three_top {w : World} {o1 o2 o3 : Obj} : (((w.alloc o1).alloc o2).alloc o3).heap[w.heap.size + 2]? = some o3 := by
  have := Ext.new (w := (w.alloc o1).alloc o2) (o := o3) (Ext.refl _); rwa [World.size_alloc, World.size_alloc] at this

def reachVal (Bs Bf Bt : Nat) : Value := .func (.func 106) #[] #[.pointer (some ⟨Bs, 0, none⟩), .pointer (some ⟨Bf, 0, none⟩), .pointer (some ⟨Bt, 0, none⟩)]
/-- What reach hands back: a closure over three boxes. -/
def ReachIn (w w' : World) (b : Nat) (fc fr se sn : Int) (v : Value) : Prop :=
  ∃ Bs Bf Bt, v = reachVal Bs Bf Bt ∧ w.heap.size ≤ Bs ∧ w.heap.size ≤ Bf ∧ w.heap.size ≤ Bt ∧ w'.heap[Bs]? = some (.cells #[.pointer (some ⟨b, 0, none⟩)] 75) ∧ w'.heap[Bf]? = some (.cells #[.int .i64 fc, .int .i64 fr] 81) ∧ w'.heap[Bt]? = some (.cells #[.int .i64 se, .int .i64 sn] 70)

set_option maxHeartbeats 400000 in
theorem reach_any (b : Nat) (fc fr se sn : Int) (w : World) :
    Cal 98 #[.pointer (some ⟨b, 0, none⟩), .agg #[.int .i64 fc, .int .i64 fr], .agg #[.int .i64 se, .int .i64 sn]] w fun e w' => ∃ v, e = .returned v ∧ Ext w w' ∧ Hid (ReachIn w w' b fc fr se sn v) := by
  gi_enter Try.func98, Try.ntmps98
  gi_wp2
  refine bodyPost_ret (v := reachVal w.heap.size (w.heap.size + 1) (w.heap.size + 2)) (by simp [results, Try.results97, go_sem, reachVal]) rfl ⟨_, rfl, ((((Ext.refl w).alloc _).alloc _).alloc _), _, _, _, rfl, Nat.le_refl _, Nat.le_succ _, by omega, three_new, three_mid, three_top⟩

set_option maxHeartbeats 400000 in
theorem against_any (e n : Int) (w : World) (he : -100 ≤ e ∧ e ≤ 100) (hn : -100 ≤ n ∧ n ≤ 100) :
    Cal 102 #[.agg #[.int .i64 e, .int .i64 n]] w fun x w' => x = .returned (.agg #[.int .i64 (-e), .int .i64 (-n)]) ∧ Ext w w' := by
  gi_enter Try.func102, Try.ntmps102
  gi_wp2
  refine bodyPost_ret (v := .agg #[.int .i64 (-e), .int .i64 (-n)]) (by simp [results, Try.results101, go_sem]) rfl ⟨rfl, ?_⟩
  exact ((Ext.refl w).alloc _).alloc _

def swimsB (s : Nat) (fc fr se sn tc tr : Int) : Bool := decide ((tc, tr) ∈ reachList s fc fr se sn)

set_option maxHeartbeats 1000000 in
theorem swims_any (b : Nat) (S : SeaV) (hS : S.Ok) (s : Nat) (hsp : S.speed = s) (fc fr se sn tc tr : Int) (h1 : -1000 ≤ fc ∧ fc ≤ 1000) (h2 : -1000 ≤ fr ∧ fr ≤ 1000) (h3 : -100 ≤ se ∧ se ≤ 100) (h4 : -100 ≤ sn ∧ sn ≤ 100) (w : World) (hs : SeaAt w b S) :
    Cal 79 #[.pointer (some ⟨b, 0, none⟩), .agg #[.int .i64 fc, .int .i64 fr], .agg #[.int .i64 tc, .int .i64 tr], .agg #[.int .i64 se, .int .i64 sn]] w fun x w' => x = .returned (.bool (swimsB s fc fr se sn tc tr)) ∧ Ext w w' := by
  refine callsIn_of_wp_marks Try.func79 rfl trivial ?_
  simp only [Try.ntmps79, List.size_toArray, List.length_cons, List.length_nil, Nat.reduceAdd, Nat.reduceSub, Array.replicate_succ, Array.replicate_zero, List.push_toArray, List.append_toArray, List.nil_append, List.cons_append]
  gi_wp2_with (gi_at_call 98; refine (reach_any b fc fr se sn _).mono ?_; rintro e w1 ⟨v, rfl, hx1, hr⟩)
  obtain ⟨Bs, Bf, Bt, rfl, hn1, hn2, hn3, hbs, hbf, hbt⟩ := hr.out
  clear hr
  have hbel : Below w.heap.size w w1 := Ext.after (Ext.after (Ext.after (Ext.after hx1)))
  have hs1 : SeaAt w1 b S := hs.mono hbel
  have hto : w1.heap[w.heap.size + 1]? = some (.cells #[.int .i64 tc, .int .i64 tr] 81) := (Ext.after hx1).block three_mid
  have hres : w1.heap[w.heap.size + 1 + 1 + 1]? = some (.cells #[.bool false] 4) := by
    have := Ext.new hx1; simpa using this
  have hbelb := lt_of_block hs1
  have l1 := lt_of_block hbs
  have l2 := lt_of_block hbf
  have l3 := lt_of_block hbt
  have l4 := lt_of_block hto
  have l5 := lt_of_block hres
  have hlenL : ((reachList s fc fr se sn).map plcElem).length = (reachList s fc fr se sn).length := by simp
  unfold reachVal
  refine range_boxed rfl (enters_of Try.func106 (by kernel_rfl) rfl) (reach_iter b S hS s hsp Bs Bf Bt fc fr se sn h1 h2 h3 h4)
    (fun i W => Hid (∀ j, j < i → (reachList s fc fr se sn).getD j (0, 0) ≠ (tc, tr)) ∧ Below w.heap.size w W ∧ (SeaAt W b S ∧ W.heap[Bs]? = some (.cells #[.pointer (some ⟨b, 0, none⟩)] 75) ∧ W.heap[Bf]? = some (.cells #[.int .i64 fc, .int .i64 fr] 81) ∧ W.heap[Bt]? = some (.cells #[.int .i64 se, .int .i64 sn] 70)) ∧
      W.heap[w.heap.size + 1]? = some (.cells #[.int .i64 tc, .int .i64 tr] 81) ∧ W.heap[w.heap.size + 1 + 1 + 1]? = some (.cells #[.bool false] 4))
    (fun c i W => c = .ret ∧ Hid ((tc, tr) ∈ reachList s fc fr se sn) ∧ Below w.heap.size w W ∧ W.heap[w.heap.size + 1 + 1 + 1]? = some (.cells #[.bool true] 4))
    (fun i W W' h hp => ⟨h.1, hp.below h.2.1 hbel.size (Nat.le_refl _), ⟨hp.block _ _ hbelb h.2.2.1.1, hp.block _ _ l1 h.2.2.1.2.1, hp.block _ _ l2 h.2.2.1.2.2.1, hp.block _ _ l3 h.2.2.1.2.2.2⟩, hp.block _ _ l4 h.2.2.2.1, hp.block _ _ l5 h.2.2.2.2⟩)
    (fun c i W W' h hp => ⟨h.1, h.2.1, hp.below h.2.2.1 hbel.size (Nat.le_refl _), hp.block _ _ l5 h.2.2.2⟩)
    (fun i W h => h.2.2.1) (fun i h => by simp [plcElem]) ⟨fun j h => absurd h (by omega), hbel, ⟨hs1, hbs, hbf, hbt⟩, hto, hres⟩
    (fun i Bx => { tmps := #[.pointer (some ⟨b, 0, none⟩), .agg #[.int .i64 fc, .int .i64 fr], .agg #[.int .i64 tc, .int .i64 tr], .agg #[.int .i64 se, .int .i64 sn], undef, .pointer (some ⟨w.heap.size, 0, none⟩), .pointer (some ⟨w.heap.size + 1, 0, none⟩),
      .pointer (some ⟨w.heap.size + 1 + 1, 0, none⟩), .pointer (some ⟨w.heap.size + 1 + 1 + 1, 0, none⟩), .pointer (some ⟨Bx, 0, none⟩), .pointer (some ⟨b, 0, none⟩), .agg #[.int .i64 fc, .int .i64 fr], .agg #[.int .i64 se, .int .i64 sn],
      .func (.func 106) #[] #[.pointer (some ⟨Bs, 0, none⟩), .pointer (some ⟨Bf, 0, none⟩), .pointer (some ⟨Bt, 0, none⟩)], .agg #[.int .i64 ((reachList s fc fr se sn).getD i (0, 0)).1, .int .i64 ((reachList s fc fr se sn).getD i (0, 0)).2], undef, undef, undef], defers := [] })
    (fun i => #[.int .i64 ((reachList s fc fr se sn).getD i (0, 0)).1, .int .i64 ((reachList s fc fr se sn).getD i (0, 0)).2]) 81 ?assign ?body ?done ?stop
  case assign =>
    intro l i h W K' hK
    have he : ((reachList s fc fr se sn).map plcElem)[i] = #[.agg #[.int .i64 ((reachList s fc fr se sn).getD i (0, 0)).1, .int .i64 ((reachList s fc fr se sn).getD i (0, 0)).2]] := by
      rw [List.getElem_map, getD_of (by rw [← hlenL]; exact h)]; rfl
    rw [he]
    generalize (reachList s fc fr se sn).getD i (0, 0) = p at *
    gi_wp2
    exact hK
  case body =>
    rintro l i Bx W hi hl hr ⟨hne, hbelW, hfoot, htoW, hresW⟩ hBx hbx
    have hc1 := cell_of hbx
    have hc2 := cell_of htoW
    have hc3 := cell_of hresW
    have hf3 := free_of hresW
    have HL := hid (show i < (reachList s fc fr se sn).length by rw [← hlenL]; exact hi)
    have hB3 : w.heap.size ≤ w.heap.size + 1 + 1 + 1 := by omega
    by_cases hp : (reachList s fc fr se sn).getD i (0, 0) = (tc, tr)
    · have HM := hid (show (tc, tr) ∈ reachList s fc fr se sn by rw [← hp, getD_of HL.out]; exact List.getElem_mem _)
      rw [hp] at hc1 ⊢
      simp only at hc1 ⊢
      clear hne hfoot htoW hbx hp
      gi_wp2
      exact ⟨(KeepsOthers.setCell _ _ _).from _, rfl, HM, hbelW.setCell (p := ⟨_, 0, none⟩) hB3 _, one_setCell hresW⟩
    · have HN := hid (show ∀ j, j < i + 1 → (reachList s fc fr se sn).getD j (0, 0) ≠ (tc, tr) from fun j hj => by
        rcases Nat.lt_or_ge j i with h' | h'
        · exact hne.out j h'
        · obtain rfl : j = i := by omega
          exact hp)
      have HW := hid (And.intro hfoot (And.intro htoW hresW))
      generalize (reachList s fc fr se sn).getD i (0, 0) = p at hp hc1 ⊢
      obtain ⟨x, y⟩ := p
      simp only at hc1 ⊢
      clear hne hbx hfoot htoW hresW
      by_cases hxx : x = tc
      · subst hxx
        have hyy : (y == tr) = false := by
          cases hyy : y == tr with
          | false => rfl
          | true => exact absurd (by rw [eq_of_beq hyy]) hp
        clear hp
        gi_wp2
        exact ⟨KeepsFrom.refl _ _, HN, hbelW, HW.out.1, HW.out.2⟩
      · have hxx' : (x == tc) = false := by simpa using hxx
        clear hp hxx
        gi_wp2
        exact ⟨KeepsFrom.refl _ _, HN, hbelW, HW.out.1, HW.out.2⟩
  case done =>
    rintro D W hD ⟨hne, hbelW, _, _, hresW⟩ hK
    have hNo : Hid (swimsB s fc fr se sn tc tr = false) := by
      show swimsB s fc fr se sn tc tr = false
      unfold swimsB
      refine decide_eq_false fun hmem => ?_
      obtain ⟨j, hj, hje⟩ := List.getElem_of_mem hmem
      exact hne.out j (by rw [hlenL]; exact hj) (by rw [getD_of hj, hje])
    have hc3 := cell_of hresW
    have hf3 := free_of hresW
    have hD' : D ≠ w.heap.size + 1 + 1 + 1 := by omega
    have hKs : (W.setCell ⟨w.heap.size + 1 + 1 + 1, 0, none⟩ (.bool false)).heap[D]? = some (.deferred (some [])) := by rw [Below.heap_setCell _ _ _ _ hD']; exact hK
    clear hne
    gi_wp2
    refine leave_mark hKs (v := .bool false) (by simp [results, Try.results78, go_sem, put_cell (one_setCell hresW) (Ne.symm hD')]) ⟨by rw [hNo.out], ?_⟩
    exact (put_past (B := w.heap.size) _ _ (by omega)).below (hbelW.setCell (p := ⟨w.heap.size + 1 + 1 + 1, 0, none⟩) (by show w.heap.size ≤ w.heap.size + 1 + 1 + 1; omega) _) (Nat.le_refl _) (Nat.le_refl _)
  case stop =>
    rintro D i c W hD hi ⟨rfl, hM, hbelW, hresW⟩ hK
    have hYes : Hid (swimsB s fc fr se sn tc tr = true) := decide_eq_true hM.out
    have hc3 := cell_of hresW
    have hD' : D ≠ w.heap.size + 1 + 1 + 1 := by omega
    clear hM
    gi_wp2
    refine leave_mark hK (v := .bool true) (by simp [results, Try.results78, go_sem, put_cell hresW (Ne.symm hD')]) ⟨by rw [hYes.out], ?_⟩
    exact (put_past (B := w.heap.size) _ _ (by omega)).below hbelW (Nat.le_refl _) (Nat.le_refl _)
end Go.Proofs.Ytiklblbjnblkfaa
