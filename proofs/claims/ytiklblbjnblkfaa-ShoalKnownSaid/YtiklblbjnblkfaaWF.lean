/- The counts of an hour from those of the hour before. -/
import Derived.Test.YtiklblbjnblkfaaWE
set_option linter.unusedSimpArgs false
set_option linter.unusedVariables false
namespace Go.Proofs.Ytiklblbjnblkfaa
open Go Go.RowKit Go.Shelf

/-- A region that draws its order, in a round of a range over a function. -/
theorem lex_round {r : Nat} {id : Nat} {Q : Exit → Act → World → Prop} {a : Act} {w : World} {l : List Oper} (m : Nat) (ps : Preds) (hB : headB l.toArray m = true) (hT : tailB l.toArray m = true)
    (hstab : ∀ i p, psAt ps i = some p → ∀ v u u', p v u → Ext u u' → p v u')
    (h : lexOk (Fence.wide.inRound r) 0 Try.prog l.toArray (fun _ => Ext) (fun _ w' => Ext w w') (Ext w) ps (fun a' w' => wpListIn (Fence.wide.inRound r) 0 Try.prog l.toArray Q (l.drop m) a' w') 0 (l.take m) (fun _ => a)) :
    (Code.region id l.toArray true).wpIn (Fence.wide.inRound r) 0 Try.prog Q a w := by
  refine wpIn_region_lex ps _ _ _ (fun _ => trivial) rfl mixed hB hT (fun _ => Ext.drawn _) (Ext.drawn _) (fun _ _ _ _ _ h k => h.trans k) (fun _ _ _ h k => h.trans k) (fun i _ p _ hp => hstab i p hp) ?_
  have hdl : (l.drop m).length = l.length - m := by simp
  have := wpOpsIn_drop (P := Try.prog) (F := Fence.wide.inRound r) (Q := Q) (ops := l) (l.drop m) m (fun j => by simp [List.getElem?_drop])
  rw [hdl] at this
  rw [this]
  exact h

theorem find_some {S : SeaV} {land : List Int} {p : Int × Int} {f : Int} (h : PMap.find (seaMap S land) p = some f) : ∃ c : Nat, f = c ∧ c < (S.wide * S.high).toNat := by
  unfold PMap.find at h
  rw [Option.map_eq_some_iff] at h
  obtain ⟨e, he, rfl⟩ := h
  obtain ⟨c, hc, rfl⟩ := List.mem_map.1 (List.mem_of_find?_eq_some he)
  exact ⟨c, rfl, opens_lt hc⟩
/-- The least of what the cells have that are reached, of the first places. -/
def minOne (m : PMap) (before : Nat → Int) (n : Int) (p : Int × Int) : Int := match m.find p with | some f => minL n [before f.toNat] | none => n
def minTo (m : PMap) (before : Nat → Int) (ps : List (Int × Int)) : Int := ps.foldl (minOne m before) 25
theorem minTo_snoc (m : PMap) (before : Nat → Int) (ps : List (Int × Int)) (k : Nat) (h : k < ps.length) : minTo m before (ps.take (k + 1)) = minOne m before (minTo m before (ps.take k)) ps[k] := by
  rw [List.take_succ_eq_append_getElem h]; unfold minTo; rw [List.foldl_append]; rfl
theorem minL_one (n b : Int) : minL n [b] = if b < n then b else n := rfl
theorem minTo_bounds (m : PMap) (before : Nat → Int) (hb : ∀ c, 0 ≤ before c ∧ before c ≤ 1000) : ∀ (ps : List (Int × Int)), 0 ≤ minTo m before ps ∧ minTo m before ps ≤ 1000 := by
  have key : ∀ (ps : List (Int × Int)) (n : Int), 0 ≤ n ∧ n ≤ 1000 → 0 ≤ ps.foldl (minOne m before) n ∧ ps.foldl (minOne m before) n ≤ 1000 := by
    intro ps
    induction ps with
    | nil => intro n h; exact h
    | cons p ps ih =>
      intro n h
      refine ih _ ?_
      unfold minOne
      split
      · rename_i f _
        have := hb f.toNat
        rw [minL_one]; split <;> omega
      · exact h
  exact fun ps => key ps 25 (by omega)
/-- The counts of an hour, of the first i open cells those on the best track. -/
def nextF (D : SeaD) (before own : Nat → Int) (se sn : Int) (i c : Nat) : Int :=
  if c ∈ (opens D.land (D.wide * D.high).toNat).take i then minL 25 [minTo (seaMap (seaOf D) D.land) before (reachList D.speed.toNat (col (seaOf D) c) (row (seaOf D) c) se sn) + own c] else own c
theorem seaMap_of {S : SeaV} {D : SeaD} (h1 : S.wide = D.wide) (h2 : S.high = D.high) (land : List Int) : seaMap S land = seaMap (seaOf D) land := by
  unfold seaMap
  rw [h1, h2]
  apply List.map_congr_left
  intro c _
  rw [col_of h1, row_of h1]
theorem nextF_zero (D : SeaD) (before own : Nat → Int) (se sn : Int) : nextF D before own se sn 0 = own := by funext c; simp [nextF]

/-- The boxes of the function's own. -/
structure NxtBox (w W : World) (b : Nat) (before f g : Nat → Int) (se sn : Int) : Prop where
  below : Ext w W
  size : w.heap.size + 5 ≤ W.heap.size
  sea : W.heap[w.heap.size]? = some (.cells #[.pointer (some ⟨b, 0, none⟩)] 75 (0, 0))
  before : W.heap[w.heap.size + 1]? = some (.cells (cntArr before) 124 (0, 0))
  own : W.heap[w.heap.size + 1 + 1]? = some (.cells (cntArr f) 124 (0, 0))
  step : W.heap[w.heap.size + 1 + 1 + 1]? = some (.cells #[.int .i64 se, .int .i64 sn] 70 (0, 0))
  out : W.heap[w.heap.size + 1 + 1 + 1 + 1]? = some (.cells (cntArr g) 124 (0, 0))
theorem NxtBox.past {w W W' : World} {b : Nat} {before f g : Nat → Int} {se sn : Int} {B : Nat} (hB : NxtBox w W b before f g se sn) (hp : Past B W W') (hb : w.heap.size + 5 ≤ B) : NxtBox w W' b before f g se sn :=
  ⟨hp.below hB.below (by omega) (Nat.le_refl _), Nat.le_trans hB.size hp.size, hp.block _ _ (by omega) hB.sea, hp.block _ _ (by omega) hB.before, hp.block _ _ (by omega) hB.own, hp.block _ _ (by omega) hB.step, hp.block _ _ (by omega) hB.out⟩
theorem NxtBox.ext {w W W' : World} {b : Nat} {before f g : Nat → Int} {se sn : Int} (hB : NxtBox w W b before f g se sn) (hx : Ext W W') : NxtBox w W' b before f g se sn :=
  ⟨hB.below.trans hx, Nat.le_trans hB.size hx.size, hx.block hB.sea, hx.block hB.before, hx.block hB.own, hx.block hB.step, hx.block hB.out⟩
/-- A cell of a block that the function has made later is set. -/
theorem NxtBox.other {w W : World} {b : Nat} {before f g : Nat → Int} {se sn : Int} (hB : NxtBox w W b before f g se sn) {k : Nat} (hk : w.heap.size + 5 ≤ k) (o : Nat) (v : Value) : NxtBox w (W.setCell ⟨k, o, none⟩ v) b before f g se sn := by
  have key : ∀ j obj, j < w.heap.size + 5 → W.heap[j]? = some obj → (W.setCell ⟨k, o, none⟩ v).heap[j]? = some obj := fun j obj hj h => by
    rw [Below.heap_setCell _ _ _ _ (show j ≠ k by omega)]; exact h
  exact ⟨hB.below.set (by omega) _ _, by simpa using hB.size, key _ _ (by omega) hB.sea, key _ _ (by omega) hB.before, key _ _ (by omega) hB.own, key _ _ (by omega) hB.step, key _ _ (by omega) hB.out⟩
theorem NxtBox.set {w W : World} {b : Nat} {before f g : Nat → Int} {se sn : Int} (hB : NxtBox w W b before f g se sn) {k : Nat} (hk : k < 80) (v : Int) :
    NxtBox w (W.setCell ⟨w.heap.size + 1 + 1, k, none⟩ (.int .i64 v)) b before (fun j => if j = k then v else f j) g se sn := by
  have key : ∀ j obj, j ≠ w.heap.size + 1 + 1 → W.heap[j]? = some obj → (W.setCell ⟨w.heap.size + 1 + 1, k, none⟩ (.int .i64 v)).heap[j]? = some obj := fun j obj hj h => by
    rw [Below.heap_setCell _ _ _ _ hj]; exact h
  exact ⟨hB.below.set (by omega) _ _, by simpa using hB.size, key _ _ (by omega) hB.sea, key _ _ (by omega) hB.before, by rw [heap_setCell_same _ _ _ _ _ _ hB.own, cntArr_set f hk], key _ _ (by omega) hB.step, key _ _ (by omega) hB.out⟩

/-- A slice of one number, made on the way. -/
def oneRow (n5 : Nat) (z : Int) (v : Value) (u : World) : Prop := ∃ g, v = .slice (some ⟨g, 0, none⟩) 1 1 ∧ u.heap[g]? = some (.cells #[.int .i64 z] 3 (0, 0)) ∧ n5 ≤ g
theorem oneRow_stab {n5 m : Nat} {z : Int} (i : Nat) (p : Value → World → Prop) (hp : psAt [(m, oneRow n5 z)] i = some p) (v : Value) (u u' : World) (hv : p v u) (hx : Ext u u') : p v u' := by
  unfold psAt at hp
  split at hp
  · cases hp
    obtain ⟨g, e, hg, hn⟩ := hv
    exact ⟨g, e, Ext.block hx hg, hn⟩
  · cases hp
theorem least_one (r g : Nat) (x z : Int) (w : World) (hg : w.heap[g]? = some (.cells #[.int .i64 z] 3 (0, 0))) :
    CallsIn (Fence.wide.inRound r) 0 Try.prog 87 #[.int .i64 x, .slice (some ⟨g, 0, none⟩) 1 1] w fun e w' => e = .returned (.int .i64 (minL x [z])) ∧ w = w' :=
  callsIn_round r (least_any x g 0 1 [z] w (by simp) fun i h => by
    have : i = 0 := by simpa using h
    subst this
    rw [cell_of hg]; rfl)

set_option maxRecDepth 100000 in
set_option maxHeartbeats 1000000 in
theorem next_any (b : Nat) (D : SeaD) (S : SeaV) (rs : List Rep) (before own : Nat → Int) (se sn : Int) (w : World) (hF : SeaFull w b S D rs) (hb : ∀ c, 0 ≤ before c ∧ before c ≤ 1000) (ho : ∀ c, 0 ≤ own c ∧ own c ≤ 1000) (h3 : -100 ≤ se ∧ se ≤ 100) (h4 : -100 ≤ sn ∧ sn ≤ 100) :
    Cal 99 #[.pointer (some ⟨b, 0, none⟩), .agg (cntArr before), .agg (cntArr own), .agg #[.int .i64 se, .int .i64 sn]] w fun e w' => e = .returned (.agg (cntArr (nextF D before own se sn (opens D.land (D.wide * D.high).toNat).length))) ∧ Ext w w' := by
  refine callsIn_of_wp_marks Try.func99 rfl trivial ?_
  simp only [Try.ntmps99, List.size_toArray, List.length_cons, List.length_nil, Nat.reduceAdd, Nat.reduceSub, Array.replicate_succ, Array.replicate_zero, List.push_toArray, List.append_toArray, List.nil_append, List.cons_append]
  have HF := hid hF
  have HBB := hid hb
  have HOB := hid ho
  clear hF hb ho
  gi_wp2_with fail
  have h0 : NxtBox w (((((w.alloc (.cells #[.pointer (some ⟨b, 0, none⟩)] 75)).alloc (.cells (cntArr before) 124)).alloc (.cells (cntArr own) 124)).alloc (.cells #[.int .i64 se, .int .i64 sn] 70)).alloc (.cells Try.zeroCells124 124)) b before (nextF D before own se sn 0) (fun _ => 0) se sn := by
    rw [nextF_zero, zero124]
    have x1 : Ext w (w.alloc (.cells #[.pointer (some ⟨b, 0, none⟩)] 75)) := (Ext.refl w).alloc _
    refine ⟨(((x1.alloc _).alloc _).alloc _).alloc _, by simp, ?_, ?_, ?_, ?_, ?_⟩
    · exact ((Ext.refl _).alloc _).alloc _ |>.block (three_new)
    · exact ((Ext.refl _).alloc _).alloc _ |>.block (three_mid)
    · exact ((Ext.refl _).alloc _).alloc _ |>.block (three_top)
    · have := Ext.new (w := ((w.alloc (.cells #[.pointer (some ⟨b, 0, none⟩)] 75)).alloc (.cells (cntArr before) 124)).alloc (.cells (cntArr own) 124)) (o := .cells #[.int .i64 se, .int .i64 sn] 70) ((Ext.refl _).alloc (.cells (cntArr fun _ => 0) 124))
      simpa using this
    · have := Ext.new (w := (((w.alloc (.cells #[.pointer (some ⟨b, 0, none⟩)] 75)).alloc (.cells (cntArr before) 124)).alloc (.cells (cntArr own) 124)).alloc (.cells #[.int .i64 se, .int .i64 sn] 70)) (o := .cells (cntArr fun _ => 0) 124) (Ext.refl _)
      simpa using this
  have HB0 := hid h0
  have hsz := h0.size
  clear h0
  generalize ((((w.alloc (.cells #[.pointer (some ⟨b, 0, none⟩)] 75)).alloc (.cells (cntArr before) 124)).alloc (.cells (cntArr own) 124)).alloc (.cells #[.int .i64 se, .int .i64 sn] 70)).alloc (.cells Try.zeroCells124 124) = w0 at *
  have hol : (openElems S D.land).length = (opens D.land (D.wide * D.high).toNat).length := by unfold openElems; rw [List.length_map, HF.out.wide, HF.out.high]
  refine range_boxed rfl (enters_of Try.func76 (by kernel_rfl) rfl) (open_iter b S HF.out.ok D.land)
    (fun i W => NxtBox w W b before (nextF D before own se sn i) (fun _ => 0) se sn) (fun _ _ _ => False)
    (fun i W W' hI hp => hI.past hp hsz) (fun c i W W' hI hp => hI)
    (fun i W hI => ⟨HF.out.at_.mono hI.below, HF.out.land.mono hI.below⟩) (fun i h => by simp [openElems, cellElem]) HB0.out
    (fun i Bx => { tmps := #[.pointer (some ⟨b, 0, none⟩), .agg (cntArr before), .agg (cntArr own), .agg #[.int .i64 se, .int .i64 sn], .pointer (some ⟨w.heap.size, 0, none⟩), .pointer (some ⟨w.heap.size + 1, 0, none⟩), .pointer (some ⟨w.heap.size + 1 + 1, 0, none⟩), .pointer (some ⟨w.heap.size + 1 + 1 + 1, 0, none⟩), .pointer (some ⟨w.heap.size + 1 + 1 + 1 + 1, 0, none⟩),
      .int .i64 ((opens D.land (S.wide * S.high).toNat).getD i 0 : Nat), .pointer (some ⟨Bx, 0, none⟩), undef, undef, undef, undef, .pointer (some ⟨b, 0, none⟩), .func (.func 76) #[.pointer (some ⟨b, 0, none⟩)] #[],
      .int .i64 ((opens D.land (S.wide * S.high).toNat).getD i 0 : Nat), .agg #[.int .i64 (col S ((opens D.land (S.wide * S.high).toNat).getD i 0 : Nat)), .int .i64 (row S ((opens D.land (S.wide * S.high).toNat).getD i 0 : Nat))], undef, undef, undef, undef, undef, undef, undef, undef, undef, undef, undef, undef, undef, undef, undef, undef, undef, undef, undef, undef, undef, undef, undef, undef, undef, undef, undef, undef, undef, undef, undef], defers := [] })
    (fun i => #[.int .i64 (col S ((opens D.land (S.wide * S.high).toNat).getD i 0 : Nat)), .int .i64 (row S ((opens D.land (S.wide * S.high).toNat).getD i 0 : Nat))]) 81 ?assign ?body ?done ?stop
  case assign =>
    intro l i h W K' hK
    have he : (openElems S D.land)[i] = #[.int .i64 ((opens D.land (S.wide * S.high).toNat).getD i 0 : Nat), .agg #[.int .i64 (col S ((opens D.land (S.wide * S.high).toNat).getD i 0 : Nat)), .int .i64 (row S ((opens D.land (S.wide * S.high).toNat).getD i 0 : Nat))]] := by
      have h' : i < (opens D.land (S.wide * S.high).toNat).length := by simpa [openElems] using h
      simp only [openElems, List.getElem_map, getD_of h']; rfl
    rw [he]
    generalize (opens D.land (S.wide * S.high).toNat).getD i 0 = p at *
    clear he HB0 hol
    gi_wp2
    exact hK
  case body =>
    rintro l i Bx W hi hl hr hI hBx hbx
    have hi' : i < (opens D.land (D.wide * D.high).toNat).length := by rw [← hol]; exact hi
    have hmem : (opens D.land (D.wide * D.high).toNat)[i] < 80 := by
      have := opens_lt (List.getElem_mem hi')
      have hm := (mul_bounds HF.out.ok.wide HF.out.ok.high).2
      rw [HF.out.wide, HF.out.high] at hm
      omega
    have hstep : ∀ j, j ∈ (opens D.land (D.wide * D.high).toNat).take (i + 1) ↔ j ∈ (opens D.land (D.wide * D.high).toNat).take i ∨ j = (opens D.land (D.wide * D.high).toNat)[i] := fun j => by
      rw [List.take_succ_eq_append_getElem hi', List.mem_append, List.mem_singleton]
    have hnot : (opens D.land (D.wide * D.high).toNat)[i] ∉ (opens D.land (D.wide * D.high).toNat).take i := fun hm => by
      obtain ⟨j, hj, hje⟩ := List.getElem_of_mem hm
      rw [List.getElem_take] at hje
      have hji : j < i := by simp at hj; omega
      exact List.pairwise_iff_getElem.1 (opens_nodup D.land (D.wide * D.high).toNat) j i (by omega) hi' hji hje
    rw [HF.out.wide, HF.out.high] at hbx ⊢
    rw [getD_of hi'] at hbx ⊢
    have HST := hid (And.intro hstep hnot)
    clear hstep hnot
    generalize (opens D.land (D.wide * D.high).toNat)[i] = c at HST hmem hbx ⊢
    have hc0 : (0 : Int) ≤ (c : Int) := by omega
    have hc1 : (c : Int) ≤ 1000 := by omega
    have hcc := col_ok HF.out.ok hc0 hc1
    have hrr := row_ok HF.out.ok hc0 hc1
    have HI := hid hI
    have HBX := hid hbx
    have hxn : Ext W (W.alloc (.cells #[.int .i64 25] 3)) := (Ext.refl W).alloc _
    have HBN := hid hxn
    have hs1 := cell_of (hxn.block hI.sea)
    have hs2 := cell_of (hxn.block hbx)
    have hs3 := cell_of (hxn.block hI.step)
    have HR := hid (reach_any b (col S c) (row S c) se sn (W.alloc (.cells #[.int .i64 25] 3)))
    have HRL := hid hr
    clear hI hbx hxn hr
    gi_wp2_with (gi_at_call 98; ((with_reducible refine (callsIn_round l HR.out).mono ?_); rintro e w1 ⟨v, rfl, hx1, hv⟩))
    obtain ⟨Bs, Bf, Bt, rfl, hn1, hn2, hn3, hbs, hbf, hbt⟩ := hv.out
    obtain ⟨r0, hr0⟩ := HRL.out
    have hl0 := hx1.block (HBN.out.block hr0)
    have hNx := (HI.out.ext HBN.out).ext hx1
    have hnb := Ext.new hx1
    have hbx1 := hx1.block (HBN.out.block HBX.out)
    have hspd : S.speed = (D.speed.toNat : Int) := by have := HF.out.ok.speed; rw [HF.out.speed] at this ⊢; omega
    have hWs : W.heap.size < w1.heap.size := lt_of_block hnb
    have hK1 : KeepsFrom w0.heap.size W w1 := ⟨by omega, fun k o' _ ho _ => hx1.block (HBN.out.block ho)⟩
    have lb1 := lt_of_block hbs
    have lb2 := lt_of_block hbf
    have lb3 := lt_of_block hbt
    have lb4 := lt_of_block hbx1
    have lb5 := lt_of_block hnb
    have hsz1 : w.heap.size + 5 ≤ W.heap.size := HI.out.size
    have hrlen : ((reachList D.speed.toNat (col S c) (row S c) se sn).map plcElem).length = (reachList D.speed.toNat (col S c) (row S c) se sn).length := by simp
    clear hs1 hs2 hs3 hv HR HRL hr0
    unfold reachVal
    refine range_inner hl0 rfl (enters_of Try.func106 (by kernel_rfl) rfl) (reach_iter b S HF.out.ok D.speed.toNat hspd Bs Bf Bt (col S c) (row S c) se sn (by omega) (by omega) h3 h4)
      (fun j W2 => NxtBox w W2 b before (nextF D before own se sn i) (fun _ => 0) se sn ∧ KeepsFrom w0.heap.size W W2 ∧ (W2.heap[Bs]? = some (.cells #[.pointer (some ⟨b, 0, none⟩)] 75 (0, 0)) ∧ W2.heap[Bf]? = some (.cells #[.int .i64 (col S c), .int .i64 (row S c)] 81 (0, 0)) ∧ W2.heap[Bt]? = some (.cells #[.int .i64 se, .int .i64 sn] 70 (0, 0))) ∧
        W2.heap[W.heap.size]? = some (.cells #[.int .i64 (minTo (seaMap S D.land) before ((reachList D.speed.toNat (col S c) (row S c) se sn).take j))] 3 (0, 0)))
      (fun _ _ _ => False)
      (fun j W2 W3 hI2 hp => ⟨hI2.1.past hp (by omega), ⟨Nat.le_trans hI2.2.1.size hp.size, fun k o' hk ho hc => hp.block _ _ (by have := lt_of_block ho; omega) (hI2.2.1.same k o' hk ho hc)⟩, ⟨hp.block _ _ lb1 hI2.2.2.1.1, hp.block _ _ lb2 hI2.2.2.1.2.1, hp.block _ _ lb3 hI2.2.2.1.2.2⟩, hp.block _ _ lb5 hI2.2.2.2⟩)
      (fun c j W2 W3 hI2 hp => hI2) (fun j W2 hI2 => ⟨HF.out.at_.mono hI2.1.below, hI2.2.2.1⟩) (fun j h => by simp [plcElem]) ⟨hNx, hK1, ⟨hbs, hbf, hbt⟩, hnb⟩
      (fun j B2 => { tmps := #[.pointer (some ⟨b, 0, none⟩), .agg (cntArr before), .agg (cntArr own), .agg #[.int .i64 se, .int .i64 sn], .pointer (some ⟨w.heap.size, 0, none⟩), .pointer (some ⟨w.heap.size + 1, 0, none⟩), .pointer (some ⟨w.heap.size + 1 + 1, 0, none⟩), .pointer (some ⟨w.heap.size + 1 + 1 + 1, 0, none⟩), .pointer (some ⟨w.heap.size + 1 + 1 + 1 + 1, 0, none⟩),
        .int .i64 c, .pointer (some ⟨Bx, 0, none⟩), .pointer (some ⟨W.heap.size, 0, none⟩), .pointer (some ⟨B2, 0, none⟩), undef, undef, .pointer (some ⟨b, 0, none⟩), .func (.func 76) #[.pointer (some ⟨b, 0, none⟩)] #[], .int .i64 c, .agg #[.int .i64 (col S c), .int .i64 (row S c)],
        .pointer (some ⟨b, 0, none⟩), .agg #[.int .i64 (col S c), .int .i64 (row S c)], .agg #[.int .i64 se, .int .i64 sn], .func (.func 106) #[] #[.pointer (some ⟨Bs, 0, none⟩), .pointer (some ⟨Bf, 0, none⟩), .pointer (some ⟨Bt, 0, none⟩)],
        .agg #[.int .i64 ((reachList D.speed.toNat (col S c) (row S c) se sn).getD j (0, 0)).1, .int .i64 ((reachList D.speed.toNat (col S c) (row S c) se sn).getD j (0, 0)).2], undef, undef, undef, undef, undef, undef, undef, undef, undef, undef, undef, undef, undef, undef, undef, undef, undef, undef, undef, undef, undef, undef, undef, undef, undef, undef], defers := [] })
      (fun j => #[.int .i64 ((reachList D.speed.toNat (col S c) (row S c) se sn).getD j (0, 0)).1, .int .i64 ((reachList D.speed.toNat (col S c) (row S c) se sn).getD j (0, 0)).2]) 81 ?assign2 ?body2 ?done2 ?stop2
    case assign2 =>
      intro l2 j h W2 K' hK
      have he : ((reachList D.speed.toNat (col S c) (row S c) se sn).map plcElem)[j] = #[.agg #[.int .i64 ((reachList D.speed.toNat (col S c) (row S c) se sn).getD j (0, 0)).1, .int .i64 ((reachList D.speed.toNat (col S c) (row S c) se sn).getD j (0, 0)).2]] := by
        rw [List.getElem_map, getD_of (by rw [← hrlen]; exact h)]; rfl
      rw [he]
      generalize (reachList D.speed.toNat (col S c) (row S c) se sn).getD j (0, 0) = p at *
      clear he hNx hK1 hbs hbf hbt hnb hbx1 hl0 hx1 HBN HB0
      gi_wp2
      exact hK
    case body2 =>
      rintro l2 j B2 W2 hj hl2 hr2 ⟨hN2, hK2, hfoot2, hnb2⟩ hB2 hbx2
      have hj' : j < (reachList D.speed.toNat (col S c) (row S c) se sn).length := by rw [← hrlen]; exact hj
      have hms := minTo_snoc (seaMap S D.land) before _ j hj'
      rw [← getD_of (d := (0, 0)) hj'] at hms
      generalize (reachList D.speed.toNat (col S c) (row S c) se sn).getD j (0, 0) = p at hms hbx2 ⊢
      obtain ⟨bm, hcm, hmm⟩ := HF.out.map
      have hmb := minTo_bounds (seaMap S D.land) before HBB.out ((reachList D.speed.toNat (col S c) (row S c) se sn).take j)
      have HMS := hid hms
      have HC := hid fun e : Later W2 => And.intro (cell_of (Ext.block e.grown hN2.sea)) (cell_of (Ext.block e.grown hbx2))
      have HS : Hid (∀ e : Later W2, e.val.cell? ⟨b, 6, none⟩ = some (.map (some bm))) := fun e => by
        have := ((HF.out.at_.mono hN2.below).mono e.grown).cells.2.2.2.2.2.2.1; rw [hcm] at this; exact this
      have HLK := hid fun e : Later W2 => run_lookup_place (hmm.kept fun o ho => Ext.block (hN2.below.trans e.grown) ho) p
      unfold plcV at HLK
      have HN2 := hid hN2
      have HX2 := hid (And.intro hK2 (And.intro hfoot2 hnb2))
      clear hms hN2 hK2 hfoot2 hnb2 hNx hK1 hbs hbf hbt hnb hbx1 hl0 hx1 HBN HB0 hmm
      generalize minTo (seaMap S D.land) before ((reachList D.speed.toNat (col S c) (row S c) se sn).take j) = mm at *
      cases hfd : (seaMap S D.land).find p with
      | none =>
        rw [hfd] at HLK
        simp only [Option.getD_none, Option.isSome_none] at HLK
        have HM1 : Hid (minOne (seaMap S D.land) before mm p = mm) := by show _ = _; unfold minOne; rw [hfd]
        have hfd := hid hfd
        gi_wp2_with fail
        refine quiet_round 11 (by kernel_rfl) (by kernel_rfl) ?_
        simp only [List.take_succ_cons, List.take_zero, List.drop_succ_cons, List.drop_zero]
        have h1 := HC.out
        have h2 := HS.out
        have h3 := HLK.out
        repeat (any_goals (first | go_big_quiet_step (fail) | quiet_step (fail)))
        refine wpQuiet_nil ?_
        rintro w5 ⟨⟨_, hx5⟩, rfl⟩
        clear h1 h2 h3 HC HS HLK
        gi_wp2
        have kf : ∀ B, KeepsFrom B W2 w5 := fun B => ⟨hx5.size, fun k o' _ ho _ => Ext.block hx5 ho⟩
        refine ⟨kf _, HN2.out.ext hx5, HX2.out.1.trans (kf _), ⟨Ext.block hx5 HX2.out.2.1.1, Ext.block hx5 HX2.out.2.1.2.1, Ext.block hx5 HX2.out.2.1.2.2⟩, ?_⟩
        rw [HMS.out, HM1.out]
        exact Ext.block hx5 HX2.out.2.2
      | some f =>
        obtain ⟨cf, rfl, hcf⟩ := find_some hfd
        have hcf80 : cf < 80 := by
          have := (mul_bounds HF.out.ok.wide HF.out.ok.high).2
          omega
        rw [hfd] at HLK
        simp only [Option.getD_some, Option.isSome_some] at HLK
        have HM1 : Hid (minOne (seaMap S D.land) before mm p = minL mm [before cf]) := by show _ = _; unfold minOne; rw [hfd]; simp
        have hbc := HBB.out cf
        have hci : (cf : Int) < 80 := by omega
        clear hfd hcf
        gi_wp2_with fail
        refine quiet_round 11 (by kernel_rfl) (by kernel_rfl) ?_
        simp only [List.take_succ_cons, List.take_zero, List.drop_succ_cons, List.drop_zero]
        have h1 := HC.out
        have h2 := HS.out
        have h3 := HLK.out
        repeat (any_goals (first | go_big_quiet_step (fail) | quiet_step (fail)))
        refine wpQuiet_nil ?_
        rintro w5 ⟨⟨_, hx5⟩, rfl⟩
        clear h1 h2 h3 HC HS HLK
        gi_wp2_with fail
        have HG : Hid (∀ u, Ext w5 u → (∀ o : Nat, u.cell? ⟨W.heap.size, o, none⟩ = #[.int .i64 mm][o]?) ∧ u.cell? ⟨w.heap.size + 1, cf, none⟩ = some (.int .i64 (before cf))) := fun u hu =>
          ⟨cell_of ((Ext.trans hx5 hu).block HX2.out.2.2), (cell_of ((HN2.out.ext hx5).ext hu).before cf).trans (cntArr_get _ hcf80)⟩
        refine lex_round 6 [(4, oneRow w5.heap.size (before cf))] (by kernel_rfl) (by kernel_rfl) oneRow_stab ?_
        simp only [List.take_succ_cons, List.take_zero, List.drop_succ_cons, List.drop_zero]
        apply lex_fun rfl
        · intro x u hR hf
          obtain ⟨q1, q2⟩ := HG.out u hR
          clear hR hf
          go_simp
          exact ⟨rfl, Ext.refl _⟩
        simp only [Act.put, List.setIfInBounds_toArray, List.set_cons_succ, List.set_cons_zero]
        apply lex_fun rfl
        · intro x u hR hf
          clear hR hf
          go_simp
          exact ⟨rfl, Ext.refl _⟩
        simp only [Act.put, List.setIfInBounds_toArray, List.set_cons_succ, List.set_cons_zero]
        apply lex_fun rfl
        · intro x u hR hf
          clear hR hf
          go_simp
          exact ⟨rfl, Ext.refl _⟩
        simp only [Act.put, List.setIfInBounds_toArray, List.set_cons_succ, List.set_cons_zero]
        apply lex_fun rfl
        · intro x u hR hf
          obtain ⟨q1, q2⟩ := HG.out u hR
          clear hR hf
          go_simp
          exact ⟨rfl, Ext.refl _⟩
        simp only [Act.put, List.setIfInBounds_toArray, List.set_cons_succ, List.set_cons_zero]
        refine lex_pred rfl ?_ ?_
        · intro x u hR hf
          have hsu := hR.size
          clear hR hf
          go_simp
          exact ⟨⟨_, rfl, Ext.new (Ext.refl _), hsu⟩, (Ext.refl _).alloc _⟩
        simp only [Act.put, List.setIfInBounds_toArray, List.set_cons_succ, List.set_cons_zero]
        refine lex_fun (v := .int .i64 (minL mm [before cf])) rfl ?_ ?_
        · intro x u hR hf
          have h4 : oneRow w5.heap.size (before cf) (x 4) u := hf.2.1 rfl
          obtain ⟨g, e4, hg, _⟩ := h4
          have hl1 := hid (least_one l2 g mm (before cf) u hg)
          clear hR hf hg
          simp only [e4]
          clear e4
          go_simp
          exact hl1.out.mono fun e w'' he => ⟨_, he.1, rfl, he.2 ▸ Ext.refl _⟩
        simp only [Act.put, List.setIfInBounds_toArray, List.set_cons_succ, List.set_cons_zero]
        refine lex_nil fun x u hR hfacts => ?_
        clear hfacts
        generalize x 4 = x4
        obtain ⟨q1, q2⟩ := HG.out u hR
        have hxu : Ext W2 u := Ext.trans hx5 hR
        have hnu := hxu.block HX2.out.2.2
        have hfz := free_of hnu
        have HNU := hid (And.intro hxu hnu)
        clear hR HG hx5 hxu hnu
        gi_wp2
        have kf : ∀ B, KeepsFrom B W2 (u.setCell ⟨W.heap.size, 0, none⟩ (.int .i64 (minL mm [before cf]))) := fun B =>
          (KeepsFrom.mk HNU.out.1.size fun k o' _ ho _ => Ext.block HNU.out.1 ho).trans ((KeepsOthers.setCell _ _ _).from _)
        have hsz2 : (W.alloc (.cells #[.int .i64 25] 3)).heap.size = W.heap.size + 1 := by simp
        have ob : ∀ k o, k ≠ W.heap.size → W2.heap[k]? = some o → (u.setCell ⟨W.heap.size, 0, none⟩ (.int .i64 (minL mm [before cf]))).heap[k]? = some o := fun k o hk ho => by
          rw [Below.heap_setCell _ _ _ _ hk]; exact Ext.block HNU.out.1 ho
        refine ⟨kf _, (HN2.out.ext HNU.out.1).other hsz1 0 _, HX2.out.1.trans (kf _), ⟨ob _ _ (by omega) HX2.out.2.1.1, ob _ _ (by omega) HX2.out.2.1.2.1, ob _ _ (by omega) HX2.out.2.1.2.2⟩, ?_⟩
        rw [HMS.out, HM1.out]
        exact one_setCell HNU.out.2
    case done2 =>
      rintro W2 ⟨hN2, hK2, _, hnb2⟩
      rw [List.take_of_length_le (by rw [hrlen]; exact Nat.le_refl _)] at hnb2
      have hmb := minTo_bounds (seaMap S D.land) before HBB.out (reachList D.speed.toNat (col S c) (row S c) se sn)
      have hob := HOB.out c
      have hoc : nextF D before own se sn i c = own c := by unfold nextF; rw [if_neg HST.out.2]
      obtain ⟨mm, hmme⟩ : ∃ mm, mm = minTo (seaMap S D.land) before (reachList D.speed.toNat (col S c) (row S c) se sn) := ⟨_, rfl⟩
      rw [← hmme] at hnb2 hmb
      have HMM := hid hmme
      have hci : (c : Int) < 80 := by omega
      have hwrap : IntKind.i64.wrap (mm + own c) = mm + own c := by rw [IntKind.wrap_i64]; omega
      have HG : Hid (∀ u, Ext W2 u → (∀ o : Nat, u.cell? ⟨W.heap.size, o, none⟩ = #[.int .i64 mm][o]?) ∧ u.cell? ⟨w.heap.size + 1 + 1, c, none⟩ = some (.int .i64 (own c))) := fun u hu =>
        ⟨cell_of (Ext.block hu hnb2), (cell_of (hN2.ext hu).own c).trans (by rw [cntArr_get _ hmem, hoc])⟩
      have HN2 := hid hN2
      have HK2 := hid hK2
      clear hN2 hK2 hnb2 hmme hoc hNx hK1 hbs hbf hbt hnb hbx1 hl0 hx1 HBN HB0
      gi_wp2_with fail
      refine lex_round 8 [(6, oneRow W2.heap.size (mm + own c))] (by kernel_rfl) (by kernel_rfl) oneRow_stab ?_
      simp only [List.take_succ_cons, List.take_zero, List.drop_succ_cons, List.drop_zero]
      apply lex_fun rfl
      · intro x u hR hf
        clear hR hf
        go_simp
        exact ⟨rfl, Ext.refl _⟩
      simp only [Act.put, List.setIfInBounds_toArray, List.set_cons_succ, List.set_cons_zero]
      apply lex_fun rfl
      · intro x u hR hf
        obtain ⟨q1, q2⟩ := HG.out u hR
        clear hR hf
        go_simp
        exact ⟨rfl, Ext.refl _⟩
      simp only [Act.put, List.setIfInBounds_toArray, List.set_cons_succ, List.set_cons_zero]
      apply lex_fun rfl
      · intro x u hR hf
        clear hR hf
        go_simp
        exact ⟨rfl, Ext.refl _⟩
      simp only [Act.put, List.setIfInBounds_toArray, List.set_cons_succ, List.set_cons_zero]
      apply lex_fun rfl
      · intro x u hR hf
        clear hR hf
        go_simp
        exact ⟨rfl, Ext.refl _⟩
      simp only [Act.put, List.setIfInBounds_toArray, List.set_cons_succ, List.set_cons_zero]
      apply lex_fun rfl
      · intro x u hR hf
        obtain ⟨q1, q2⟩ := HG.out u hR
        clear hR hf
        go_simp
        exact ⟨rfl, Ext.refl _⟩
      simp only [Act.put, List.setIfInBounds_toArray, List.set_cons_succ, List.set_cons_zero]
      apply lex_fun rfl
      · intro x u hR hf
        clear hR hf
        go_simp
        exact ⟨rfl, Ext.refl _⟩
      simp only [Act.put, List.setIfInBounds_toArray, List.set_cons_succ, List.set_cons_zero]
      refine lex_pred rfl ?_ ?_
      · intro x u hR hf
        have hsu := hR.size
        clear hR hf
        go_simp
        exact ⟨⟨_, rfl, Ext.new (Ext.refl _), hsu⟩, (Ext.refl _).alloc _⟩
      simp only [Act.put, List.setIfInBounds_toArray, List.set_cons_succ, List.set_cons_zero]
      refine lex_fun (v := .int .i64 (minL 25 [mm + own c])) rfl ?_ ?_
      · intro x u hR hf
        have h6 : oneRow W2.heap.size (mm + own c) (x 6) u := hf.1 rfl
        obtain ⟨g, e6, hg, _⟩ := h6
        have hl1 := hid (least_one l g 25 (mm + own c) u hg)
        clear hR hf hg
        simp only [e6]
        clear e6
        go_simp
        exact hl1.out.mono fun e w'' he => ⟨_, he.1, rfl, he.2 ▸ Ext.refl _⟩
      simp only [Act.put, List.setIfInBounds_toArray, List.set_cons_succ, List.set_cons_zero]
      refine lex_nil fun x u hR hfacts => ?_
      clear hfacts
      generalize x 6 = x6
      obtain ⟨q1, q2⟩ := HG.out u hR
      have HXU := hid hR
      have hfz := free_of (HN2.out.ext hR).own
      clear hR HG
      gi_wp2
      have hf : (fun j => if j = c then minL 25 [mm + own c] else nextF D before own se sn i j) = nextF D before own se sn (i + 1) := by
        funext j
        by_cases hj : j = c
        · subst hj
          rw [if_pos rfl]
          unfold nextF
          rw [if_pos ((HST.out.1 j).2 (.inr rfl)), HMM.out, seaMap_of HF.out.wide HF.out.high, col_of HF.out.wide, row_of HF.out.wide]
        · rw [if_neg hj]
          unfold nextF
          by_cases h1 : j ∈ (opens D.land (D.wide * D.high).toNat).take i
          · rw [if_pos h1, if_pos ((HST.out.1 j).2 (.inl h1))]
          · rw [if_neg h1, if_neg (fun h2 => ((HST.out.1 j).1 h2).elim h1 hj)]
      refine ⟨HK2.out.trans ((KeepsFrom.mk HXU.out.size fun k o' _ ho _ => Ext.block HXU.out ho).trans ((KeepsOthers.setCell _ _ _).from _)), ?_⟩
      have hset := (HN2.out.ext HXU.out).set hmem (minL 25 [mm + own c])
      rw [hf] at hset
      exact hset
    case stop2 => exact fun j c W _ h => h.elim
  case done =>
    rintro K W hK hI hKb
    rw [hol] at hI
    have hrow := hI.own
    have hout := hI.out
    have HI := hid hI
    have HKb := hid hKb
    clear hI hKb HB0
    obtain ⟨ff, hff⟩ : ∃ ff, ff = nextF D before own se sn (opens D.land (D.wide * D.high).toNat).length := ⟨_, rfl⟩
    rw [← hff] at hrow HI
    have HFF := hid hff
    clear hff
    have hset := setRow_heap W (w.heap.size + 1 + 1 + 1 + 1) _ (cntArr ff) 124 _ hout
    gi_wp2_with (first | (refine wpIn_load_cnt (.tmp 6) rfl (fun _ => trivial) (hx := rfl) hrow ?_) | (refine wpIn_store_cnt (.tmp 8) (.tmp 49) rfl (fun _ => trivial) (hx := rfl) (hy := rfl) hout ?_))
    have hne : K ≠ w.heap.size + 1 + 1 + 1 + 1 := by omega
    simp only [Act.put]
    refine leave_mark (v := .agg (cntArr ff)) (setRow_other' HKb.out hne) ?_ ⟨by rw [HFF.out], ?_⟩
    · exact results_cell_row (p := 8) (ty := 124) rfl _ _ _ _ _ _ _ rfl (by rw [World.putObj_heap_other (Ne.symm hne)]; exact hset) Try.underlying124 rfl (by rw [cntArr_size]; kernel_rfl)
    · exact below_put (below_setRow HI.out.below (by omega) _) (by omega) _
  case stop => exact fun D i c W _ _ h _ => h.elim
end Go.Proofs.Ytiklblbjnblkfaa
