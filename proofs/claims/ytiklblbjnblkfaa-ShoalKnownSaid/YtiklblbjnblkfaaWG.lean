/- The two ways from hour to hour, and what their functions answer. -/
import Derived.Test.YtiklblbjnblkfaaWF
import Derived.Laws.EntriesVeiled
set_option linter.unusedSimpArgs false
set_option linter.unusedVariables false
namespace Go.Proofs.Ytiklblbjnblkfaa
open Go Go.RowKit Go.Shelf

def forthVal (Bs : Nat) : Value := .agg #[.func (.func 100) #[] #[], .func (.func 101) #[] #[.pointer (some ⟨Bs, 0, none⟩)]]
def backVal (Bs Bl : Nat) : Value := .agg #[.func (.func 103) #[] #[.pointer (some ⟨Bl, 0, none⟩)], .func (.func 104) #[] #[.pointer (some ⟨Bs, 0, none⟩), .pointer (some ⟨Bl, 0, none⟩)]]

set_option maxHeartbeats 400000 in
theorem forth_any (b : Nat) (w : World) :
    Cal 85 #[.pointer (some ⟨b, 0, none⟩)] w fun e w' => e = .returned (forthVal w.heap.size) ∧ Ext w w' ∧ w'.heap[w.heap.size]? = some (.cells #[.pointer (some ⟨b, 0, none⟩)] 75 (0, 0)) := by
  gi_enter Try.func85, Try.ntmps85
  gi_wp2
  refine bodyPost_ret (v := forthVal w.heap.size) (by simp [results, Try.results84, go_sem, forthVal]) rfl ⟨rfl, ((Ext.refl w).alloc _).alloc _, two_new⟩

set_option maxHeartbeats 400000 in
theorem back_any (b : Nat) (S : SeaV) (hS : S.Ok) (w : World) (hs : SeaAt w b S) :
    Cal 86 #[.pointer (some ⟨b, 0, none⟩)] w fun e w' => ∃ Bl, e = .returned (backVal w.heap.size Bl) ∧ Ext w w' ∧ w'.heap[w.heap.size]? = some (.cells #[.pointer (some ⟨b, 0, none⟩)] 75 (0, 0)) ∧ w'.heap[Bl]? = some (.cells #[.int .i64 (S.hours - 1)] 3 (0, 0)) ∧ w.heap.size ≤ Bl := by
  gi_enter Try.func86, Try.ntmps86
  have hh := hS.hours
  have hc := (hs.mono (((Ext.refl w).alloc (.cells #[.pointer (some ⟨b, 0, none⟩)] 75)).alloc (.cells #[.nilFunc, .nilFunc] 129))).cells
  clear hs
  gi_wp2
  have hl : ((((w.alloc (.cells #[.pointer (some ⟨b, 0, none⟩)] 75)).alloc (.cells #[.func (.func 103) #[] #[.pointer (some ⟨w.heap.size + 1 + 1, 0, none⟩)], .func (.func 104) #[] #[.pointer (some ⟨w.heap.size, 0, none⟩), .pointer (some ⟨w.heap.size + 1 + 1, 0, none⟩)]] 129)).alloc (.cells #[.int .i64 (S.hours - 1)] 3))).heap[w.heap.size + 1 + 1]? = some (.cells #[.int .i64 (S.hours - 1)] 3 (0, 0)) := three_top
  have hm : ((((w.alloc (.cells #[.pointer (some ⟨b, 0, none⟩)] 75)).alloc (.cells #[.func (.func 103) #[] #[.pointer (some ⟨w.heap.size + 1 + 1, 0, none⟩)], .func (.func 104) #[] #[.pointer (some ⟨w.heap.size, 0, none⟩), .pointer (some ⟨w.heap.size + 1 + 1, 0, none⟩)]] 129)).alloc (.cells #[.int .i64 (S.hours - 1)] 3))).heap[w.heap.size + 1]? = some (.cells #[.func (.func 103) #[] #[.pointer (some ⟨w.heap.size + 1 + 1, 0, none⟩)], .func (.func 104) #[] #[.pointer (some ⟨w.heap.size, 0, none⟩), .pointer (some ⟨w.heap.size + 1 + 1, 0, none⟩)]] 129 (0, 0)) := three_mid
  have hcm := cell_of hm
  refine bodyPost_ret (v := backVal w.heap.size (w.heap.size + 1 + 1)) (by simp [results, Try.results85, go_sem, backVal, hcm]) rfl ⟨_, rfl, (((Ext.refl w).alloc _).alloc _).alloc _, three_new, hl, by omega⟩

set_option maxHeartbeats 400000 in
theorem forthHour_any (i : Int) (w : World) : Cal 100 #[.int .i64 i] w fun e w' => e = .returned (.int .i64 i) ∧ Ext w w' := by
  gi_enter Try.func100, Try.ntmps100
  gi_wp2
  go_ret
  exact ⟨rfl, Ext.refl _⟩

set_option maxHeartbeats 400000 in
theorem backHour_any (i last : Nat) (Bl : Nat) (w : World) (hl : w.heap[Bl]? = some (.cells #[.int .i64 last] 3 (0, 0))) (hi : i ≤ last) (h100 : last ≤ 100) : Cal 103 #[.int .i64 i, .pointer (some ⟨Bl, 0, none⟩)] w fun e w' => e = .returned (.int .i64 ((last - i : Nat) : Int)) ∧ Ext w w' := by
  gi_enter Try.func103, Try.ntmps103
  have hc := cell_of hl
  have he : (last : Int) - (i : Int) = ((last - i : Nat) : Int) := by omega
  clear hl
  gi_wp2
  go_ret
  exact ⟨rfl, Ext.refl _⟩
/-- What the steps of the drift are. -/
def stepE (steps : List Step) (k : Nat) : Int := (steps.getD k ⟨0, 0⟩).east
def stepN (steps : List Step) (k : Nat) : Int := (steps.getD k ⟨0, 0⟩).north

set_option maxHeartbeats 400000 in
theorem forthStep_any (b Bs : Nat) (S : SeaV) (steps : List Step) (k : Nat) (hk : k < steps.length) (h12 : steps.length ≤ 100) (w : World) (hs : SeaAt w b S) (hd : StepsAt w S.drift steps) (hB : w.heap[Bs]? = some (.cells #[.pointer (some ⟨b, 0, none⟩)] 75 (0, 0)))
    (h2 : (-2 ≤ stepE steps k ∧ stepE steps k ≤ 2) ∧ (-2 ≤ stepN steps k ∧ stepN steps k ≤ 2)) :
    Cal 101 #[.int .i64 ((k + 1 : Nat) : Int), .pointer (some ⟨Bs, 0, none⟩)] w fun e w' => e = .returned (.agg #[.int .i64 (-stepE steps k), .int .i64 (-stepN steps k)]) ∧ Ext w w' := by
  obtain ⟨a, cap, hv, hl, hc⟩ := hd
  obtain ⟨db, doff, rfl, hdb, hc0, hc1⟩ := hc k hk
  have hx : Ext w (w.alloc (.cells #[.int .i64 0, .int .i64 0] 70)) := (Ext.refl w).alloc _
  have hcs := (hs.mono hx).cells
  rw [hv] at hcs
  have hcb := cell_of (hx.block hB)
  rw [← hx.cell (p := ⟨db, _, none⟩) hdb] at hc0 hc1
  have he : steps[k].east = stepE steps k := by unfold stepE; rw [getD_of hk]
  have hn : steps[k].north = stepN steps k := by unfold stepN; rw [getD_of hk]
  rw [he] at hc0
  rw [hn] at hc1
  have hik : ((k + 1 : Nat) : Int) - 1 = k := by omega
  clear he hn hc hs hB hv
  generalize stepE steps k = se at *
  generalize stepN steps k = sn at *
  have HA := hid (against_any se sn (w.alloc (.cells #[.int .i64 0, .int .i64 0] 70)) (by omega) (by omega))
  gi_enter Try.func101, Try.ntmps101
  gi_wp2_with (gi_at_call 102; ((with_reducible refine HA.out.mono ?_); rintro e w1 ⟨rfl, hx1⟩; have hcn := cell_of (Ext.new hx1); have hfn := free_of (Ext.new hx1)))
  exact bodyPost_ret (v := .agg #[.int .i64 (-se), .int .i64 (-sn)]) (by simp [results, Try.results100, go_sem, hcn]) rfl ⟨rfl, ((Ext.after hx1).set (Nat.le_refl _) _ _).set (Nat.le_refl _) _ _⟩

set_option maxHeartbeats 400000 in
theorem backStep_any (b Bs Bl : Nat) (S : SeaV) (steps : List Step) (i last : Nat) (hi : i ≤ last) (hk : last - i < steps.length) (h12 : steps.length ≤ 100) (hl100 : last ≤ 100) (w : World) (hs : SeaAt w b S) (hd : StepsAt w S.drift steps) (hB : w.heap[Bs]? = some (.cells #[.pointer (some ⟨b, 0, none⟩)] 75 (0, 0)))
    (hL : w.heap[Bl]? = some (.cells #[.int .i64 last] 3 (0, 0))) :
    Cal 104 #[.int .i64 i, .pointer (some ⟨Bs, 0, none⟩), .pointer (some ⟨Bl, 0, none⟩)] w fun e w' => e = .returned (.agg #[.int .i64 (stepE steps (last - i)), .int .i64 (stepN steps (last - i))]) ∧ Ext w w' := by
  obtain ⟨a, cap, hv, hl, hc⟩ := hd
  obtain ⟨db, doff, rfl, hdb, hc0, hc1⟩ := hc (last - i) hk
  have hx : Ext w (w.alloc (.cells #[.int .i64 0, .int .i64 0] 70)) := (Ext.refl w).alloc _
  have HC := hid fun e : Later (w.alloc (.cells #[.int .i64 0, .int .i64 0] 70)) => And.intro (hs.mono (hx.trans e.grown)).cells (And.intro (cell_of ((hx.trans e.grown).block hB)) (And.intro (cell_of ((hx.trans e.grown).block hL)) (And.intro ((hx.trans e.grown).cell (p := ⟨db, _, none⟩) hdb |>.trans hc0) ((hx.trans e.grown).cell (p := ⟨db, _, none⟩) hdb |>.trans hc1))))
  rw [hv] at HC
  have he : steps[last - i].east = stepE steps (last - i) := by unfold stepE; rw [getD_of hk]
  have hn : steps[last - i].north = stepN steps (last - i) := by unfold stepN; rw [getD_of hk]
  rw [he, hn] at HC
  have hik : (last : Int) - (i : Int) = ((last - i : Nat) : Int) := by omega
  clear he hn hc hs hB hv hL hc0 hc1
  generalize stepE steps (last - i) = se at *
  generalize stepN steps (last - i) = sn at *
  generalize last - i = k at *
  gi_enter Try.func104, Try.ntmps104
  gi_wp2_with fail
  refine quiet_wide 10 (by kernel_rfl) (by kernel_rfl) ?_
  simp only [List.take_succ_cons, List.take_zero, List.drop_succ_cons, List.drop_zero]
  have h1 := HC.out
  repeat (any_goals (first | go_big_quiet_step (fail) | quiet_step (fail)))
  refine wpQuiet_nil ?_
  rintro w5 ⟨⟨_, hx5⟩, rfl⟩
  clear h1 HC
  have hnb := Ext.new hx5
  have hcn := cell_of hnb
  have hfn := free_of hnb
  gi_wp2
  exact bodyPost_ret (v := .agg #[.int .i64 se, .int .i64 sn]) (by simp [results, Try.results103, go_sem, hcn]) rfl ⟨rfl, ((Ext.after hx5).set (Nat.le_refl _) _ _).set (Nat.le_refl _) _ _⟩
end Go.Proofs.Ytiklblbjnblkfaa
