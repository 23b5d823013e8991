/- The list with bars to the hand. -/
import Derived.Test.YtmjelgonhpgmbaaMN
set_option linter.unusedSimpArgs false
set_option linter.unusedVariables false
namespace Go.Proofs.Ytmjelgonhpgmbaa
open Go Go.RowKit Go.Shelf

theorem wpIn_append_run {F : Fence} {n0 : Nat} (hF : ∀ f, F.fn f) (hn : F.depth = none) {o : Oper} {act : Act} {w w' : World} {K : Act → World → Prop} {Q : Exit → Act → World → Prop} (s x : Operand) (t : TypeId)
    (ho : o.op = .call { callee := .builtin .append, args := #[s, x], argTypes := #[t, t] }) {v xv v' : Value} (hv : act.eval s = v) (hx : act.eval x = xv)
    (hrun : (Builtin.append_ #[t, t] o.type #[v, xv]).run Try.prog w = .ok v' w') (hK : K (act.put o.dst v') w') : o.wpIn F n0 Try.prog act w K Q :=
  wpIn_of_gives (R := fun u u' => u = w → u' = w' ) (V := fun u u' => u = v' ∧ u' = w') hF hn (gives_append s x t ho hv hx hrun ⟨⟨rfl, rfl⟩, fun _ => rfl⟩) fun u u' hu _ => by
    rw [hu.1, hu.2]; exact hK
/-- One element is appended to a slice that has no room. -/
theorem append_full {w : World} {t ty T : TypeId} {sz bytes : Nat} {i : TypeInfo} {z : Value} (ht : Try.prog.underlying t = some (.slice T)) (hi : Try.prog.info? T = some i) (hz : i.zero = some z) (hs : i.size = sz) (hby : i.bytes = bytes) (hzs : z.cells.size = sz) (hsz : 0 < sz)
    {sa : Option Addr} {n : Nat} {xs : List Value} (hxl : xs.length = n * sz) (hnil : sa = none → n = 0) (hold : ∀ p, sa = some p → ∀ j u, xs[j]? = some u → w.cell? (p.add j) = some u) (a : Addr) (c : Nat) (news : List Value) (hl : news.length = sz) (hnews : ∀ j u, news[j]? = some u → w.cell? (a.add j) = some u)
    (h63 : n + 1 ≤ 1000000000) (hbytes : bytes ≤ 1000) :
    ∃ v' w', (Builtin.append_ #[t, t] ty #[.slice sa n n, .slice (some a) 1 c]).run Try.prog w = .ok v' w' ∧ Row w' T sz v' (n + 1) (xs ++ news) ∧ Ext w w' ∧ v'.ownBlock = some w.heap.size := by
  subst hs
  subst hby
  have hlen : (xs ++ news).length = (n + 1) * i.size := by rw [List.length_append, hxl, hl, Nat.add_mul, Nat.one_mul]
  have hb2 : (n + 1) * i.bytes ≤ 1000000000 * 1000 := Nat.mul_le_mul h63 hbytes
  have hl1 : news.length = 1 * i.size := by rw [hl, Nat.one_mul]
  have hmax : n + 1 ≤ maxLen := by unfold maxLen; omega
  have grown : ∀ (old : Nat), ∃ w', w' = (w.drew.alloc (.cells (xs.toArray ++ news.toArray ++ Builtin.zeroCells z.cells (grownCap w (n + 1) old T - (n + 1))) T)) ∧
      Row w' T i.size (.slice (some ⟨w.heap.size, 0, none⟩) (n + 1) (grownCap w (n + 1) old T)) (n + 1) (xs ++ news) ∧ Ext w w' := by
    intro old
    have hge := grownCap_ge w (n + 1) old T
    refine ⟨_, rfl, ⟨hlen, .inr ⟨w.heap.size, _, _, rfl, heap_alloc_new w.drew _, hge, grownCap_le_maxLen w (n + 1) old T hmax, ?_, ?_⟩⟩, ?_⟩
    · simp only [Array.size_append, List.size_toArray, size_zeroCells, hzs, hxl, hl, Nat.sub_mul]
      have h2 : (n + 1) * i.size ≤ grownCap w (n + 1) old T * i.size := Nat.mul_le_mul_right _ hge
      rw [Nat.add_mul, Nat.one_mul] at h2 ⊢
      omega
    · simp only [Array.toList_append]
      rw [← hlen]
      exact List.take_left
    · exact (Ext.drawn w).alloc _
  cases sa with
  | none =>
    obtain rfl := hnil rfl
    have hx : xs = [] := List.eq_nil_of_length_eq_zero (by simpa using hxl)
    subst hx
    have hr := run_append_nil (P := Try.prog) w t ty T i z ht hi hz a 1 c news hl1 hnews (by omega) (by omega) (by omega)
    obtain ⟨w', hw', hrow, hgr⟩ := grown 0
    simp only [Nat.zero_add, List.nil_append, Array.empty_append] at hrow hgr hw' ⊢
    rw [← hw'] at hr
    exact ⟨_, _, hr, hrow, hgr, rfl⟩
  | some p =>
    have hr := run_append_grow (P := Try.prog) w t ty T i z ht hi hz p n n xs hxl (hold p rfl) a 1 c news hl1 hnews (by omega) (by omega) (growslice_fits (by omega) (by omega))
    obtain ⟨w', hw', hrow, hgr⟩ := grown n
    rw [← hw'] at hr
    exact ⟨_, _, hr, hrow, hgr, rfl⟩
/-- The bars, and those from knots at which an odd number meet to the hand. -/
def oddTo (l : List Spn) (P : Int) (k : Nat) : List Spn := (List.range k).flatMap fun (i : Nat) => if meetN l (i : Int) % 2 == 1 then [⟨(i : Int), P⟩] else []
def handTo (l : List Spn) (P : Int) (k : Nat) : List Spn := l ++ oddTo l P k
theorem oddTo_len (l : List Spn) (P : Int) (k : Nat) : (oddTo l P k).length ≤ k := by
  unfold oddTo
  induction k with
  | zero => simp
  | succ k ih => rw [List.range_succ, List.flatMap_append, List.length_append]; simp only [List.flatMap_cons, List.flatMap_nil, List.append_nil]; split <;> simp only [List.length_cons, List.length_nil] <;> omega
theorem handTo_yes {l : List Spn} {P : Int} {k : Nat} (h : (meetN l k % 2 == 1) = true) : handTo l P (k + 1) = handTo l P k ++ [⟨(k : Int), P⟩] := by
  unfold handTo oddTo
  rw [List.range_succ, List.flatMap_append, List.append_assoc]
  simp only [List.flatMap_cons, List.flatMap_nil, List.append_nil, h, if_true]
theorem handTo_no {l : List Spn} {P : Int} {k : Nat} (h : (meetN l k % 2 == 1) = false) : handTo l P (k + 1) = handTo l P k := by
  unfold handTo oddTo
  rw [List.range_succ, List.flatMap_append]
  simp only [List.flatMap_cons, List.flatMap_nil, List.append_nil, h, Bool.false_eq_true, if_false]
theorem spFlat_snoc (l : List Spn) (s : Spn) : spFlat (l ++ [s]) = spFlat l ++ spCells s := by unfold spFlat; rw [List.flatMap_append]; simp
theorem spFlat_get (l : List Spn) (i : Nat) (h : i < l.length) : (spFlat l)[i * 2]? = some (.int .i64 l[i].lo) ∧ (spFlat l)[i * 2 + 1]? = some (.int .i64 l[i].hi) := by
  have h1 := (flat_get (sz := 2) (fun i => spCells (l.getD i ⟨0, 0⟩)) (fun _ => rfl) l.length).2 i
  rw [show (List.range l.length).flatMap (fun i => spCells (l.getD i ⟨0, 0⟩)) = spTo l l.length from rfl, spFlat_to, getD_of h] at h1
  exact ⟨by have := h1 0 h (by omega); simpa [spCells] using this, by have := h1 1 h (by omega); simpa [spCells] using this⟩
theorem spFlat_len (l : List Spn) : (spFlat l).length = l.length * 2 := by
  have := (flat_get (sz := 2) (fun i => spCells (l.getD i ⟨0, 0⟩)) (fun _ => rfl) l.length).1
  rw [show (List.range l.length).flatMap (fun i => spCells (l.getD i ⟨0, 0⟩)) = spTo l l.length from rfl, spFlat_to] at this
  exact this
/-- The list as it grows: the bars' own, or a row of the call's. -/
def HandAt (w : World) (base : Nat) (sa : Option Addr) (l0 : List Spn) (v : Value) (l : List Spn) : Prop :=
  (v = .slice sa l0.length l0.length ∧ l = l0) ∨ (Row w 86 2 v l.length (spFlat l) ∧ ∀ g, v.ownBlock = some g → base ≤ g)
theorem info86 : (Try.prog.info? 86).map (fun i => (i.zero, i.size, i.bytes)) = some (some (.agg #[.int .i64 0, .int .i64 0]), 2, 16) := by kernel_rfl
/-- One more bar. -/
theorem hand_append {base : Nat} {w0 w : World} {sa : Option Addr} {sc : Nat} {l0 l : List Spn} {v : Value} (hb : w0.heap.size ≤ base) (hbw : base ≤ w.heap.size) (hx : Ext w0 w) (h0 : SpansAt w0 (.slice sa l0.length sc) l0) (hl : l.length ≤ 1000) (h : HandAt w base sa l0 v l) (s : Spn) (g : Nat) (hg : w.heap[g]? = some (.cells #[.int .i64 s.lo, .int .i64 s.hi] 86 (0, 0))) :
    ∃ v' w', (Builtin.append_ #[22, 22] 22 #[v, .slice (some ⟨g, 0, none⟩) 1 1]).run Try.prog w = .ok v' w' ∧ HandAt w' base sa l0 v' (l ++ [s]) ∧ Ext w0 w' ∧ (∀ j o, j < base → w.heap[j]? = some o → w'.heap[j]? = some o) := by
  obtain ⟨i0, hi0, hz0, hz1, hz2⟩ := info_parts info86
  have hnews : ∀ j u, (spCells s)[j]? = some u → w.cell? ((⟨g, 0, none⟩ : Addr).add j) = some u := fun j u hj => by rw [Addr.add_mid, Nat.zero_add, cell_of hg]; simpa [spCells] using hj
  rcases h with ⟨rfl, rfl⟩ | ⟨hr, hown⟩
  · have hsp := h0.mono hx
    obtain ⟨a', c', he, hlen, hcs⟩ := hsp
    cases he
    obtain ⟨v', w', hrun, hrow, hxx, how⟩ := append_full (sz := 2) (bytes := 16) (t := 22) (ty := 22) Try.underlying22 hi0 hz0 hz1 hz2 (by simp [Value.cells]) (by omega) (sa := sa) (n := l.length) (xs := spFlat l) (spFlat_len l)
      (fun hn => by subst hn; rcases Nat.eq_zero_or_pos l.length with h | h; exact h; obtain ⟨b, o, e, _⟩ := hcs 0 h; cases e)
      (fun p hp j u hj => by
        have hj2 : j < l.length * 2 := by rw [← spFlat_len]; exact (List.getElem?_eq_some_iff.1 hj).1
        obtain ⟨b, o, e, _, c0, c1⟩ := hcs (j / 2) (by omega)
        rw [hp] at e; cases e
        rw [Addr.add_mid]
        have h1 := spFlat_get l (j / 2) (by omega)
        rcases (by omega : j = j / 2 * 2 ∨ j = j / 2 * 2 + 1) with h | h
        · rw [h] at hj ⊢; rw [h1.1] at hj; cases hj; exact c0
        · rw [h] at hj ⊢; rw [h1.2] at hj; cases hj; rw [← Nat.add_assoc]; exact c1)
      ⟨g, 0, none⟩ 1 (spCells s) rfl hnews (by omega) (by omega)
    refine ⟨v', w', hrun, .inr ⟨?_, fun k hk => ?_⟩, hx.trans hxx, fun j o _ ho => hxx.block ho⟩
    · rw [List.length_append, List.length_singleton, spFlat_snoc]; exact hrow
    · rw [hk] at how; cases how; exact hbw
  · obtain ⟨v', w', hrun, hrow, hgr, how, _⟩ := append_row (sz := 2) (bytes := 16) (t := 22) (ty := 22) Try.underlying22 hi0 hz0 hz1 hz2 (by simp [Value.cells]) (by omega) hr ⟨g, 0, none⟩ 1 (spCells s) rfl hnews (fun z hz => by simp [spCells] at hz; rcases hz with rfl | rfl <;> rfl) (by omega) (by omega)
    refine ⟨v', w', hrun, .inr ⟨?_, fun k hk => ?_⟩, ?_, fun j o hj ho => grownBy_block hgr ho (fun e => by have := hown j e.symm; omega)⟩
    · rw [List.length_append, List.length_singleton, spFlat_snoc]; exact hrow
    · rcases how with e | e
      · exact hown k (by rw [← e]; exact hk)
      · rw [hk] at e; cases e; exact hbw
    · exact Below.trans hx ⟨hgr.os, hgr.tape, hgr.output, hgr.size, fun j hj => hgr.block j (Nat.lt_of_lt_of_le hj hx.size) (fun e => by have := hown j e.symm; omega)⟩
theorem HandAt.mono {w w' : World} {base : Nat} {sa : Option Addr} {l0 l : List Spn} {v : Value} (h : HandAt w base sa l0 v l) (hx : Ext w w') : HandAt w' base sa l0 v l := by
  rcases h with h | ⟨hr, ho⟩
  · exact .inl h
  · exact .inr ⟨hr.mono hx, ho⟩
theorem HandAt.spans {base : Nat} {w w0 : World} {sa : Option Addr} {sc : Nat} {l0 l : List Spn} {v : Value} (h : HandAt w base sa l0 v l) (hx : Ext w0 w) (h0 : SpansAt w0 (.slice sa l0.length sc) l0) (hl : l.length ≤ 1000) : SpansAt w v l := by
  rcases h with ⟨rfl, rfl⟩ | ⟨hr, ho⟩
  · have hsp := h0.mono hx
    obtain ⟨a', c', he, hlen, hcs⟩ := hsp
    cases he
    exact ⟨sa, l.length, rfl, ⟨Nat.le_refl _, hlen.2⟩, hcs⟩
  · obtain ⟨_, hr⟩ := hr
    rcases hr with ⟨rfl, h0'⟩ | ⟨g, cap, cur, rfl, hg, h1, h2, h3, h4⟩
    · exact ⟨none, 0, by rw [h0'], ⟨by omega, by omega⟩, fun i hi => by omega⟩
    · refine ⟨_, cap, rfl, ⟨h1, by omega⟩, fun i hi => ⟨g, 0, rfl, lt_of_block hg, ?_⟩⟩
      have hq := spFlat_get l i hi
      have key : ∀ j, j < l.length * 2 → w.cell? ⟨g, 0 + j, none⟩ = (spFlat l)[j]? := fun j hj => by rw [cell_of hg, Nat.zero_add, ← h4, List.getElem?_take, if_pos hj, Array.getElem?_toList]
      exact ⟨by rw [key _ (by omega)]; exact hq.1, by rw [Nat.add_assoc, key _ (by omega)]; exact hq.2⟩

set_option maxRecDepth 100000 in
set_option maxHeartbeats 4000000 in
theorem withHand_any (wide high mesh knot : Int) (sa : Option Addr) (sc : Nat) (l : List Spn) (mv : Value) (hw : 2 ≤ wide ∧ wide ≤ 6) (hh : 2 ≤ high ∧ high ≤ 6) (w : World) (hl : l.length ≤ 900) (hs : SpansAt w (.slice sa l.length sc) l) :
    Cal 68 #[.agg #[.int .i64 wide, .int .i64 high, .slice sa l.length sc, .int .i64 mesh, .int .i64 knot, mv]] w fun e w' => ∃ v, e = .returned v ∧ Ext w w' ∧ HandAt w' (w.heap.size + 1) sa l v (handTo l (wide * high) (wide * high).toNat) := by
  have hm := mul_36 hw hh
  obtain ⟨P, hP⟩ : ∃ P : Nat, wide * high = P := ⟨(wide * high).toNat, by omega⟩
  have HS := hid hs
  obtain ⟨a', c', he, hlen, hcs⟩ := hs
  cases he
  clear hcs
  rw [hP, Int.toNat_natCast]
  have HH := hid (fun (sv mv : Value) (u : World) => hand_any wide high mesh knot sv mv hw hh u)
  rw [hP] at HH hm
  have HMT := hid (fun (k : Int) (u : World) (hu : Ext w u) => meeting_any wide high mesh knot sa sc l mv k u (by omega) (HS.out.mono hu))
  clear hP
  gi_enter Try.func68, Try.ntmps68
  gi_upto_region 1 with fail
  have hW : Ext w (w.alloc (.cells #[.int .i64 wide, .int .i64 high, .slice sa l.length sc, .int .i64 mesh, .int .i64 knot, mv] 96)) := (Ext.refl _).alloc _
  have hW0 : (w.alloc (.cells #[.int .i64 wide, .int .i64 high, .slice sa l.length sc, .int .i64 mesh, .int .i64 knot, mv] 96)).heap[w.heap.size]? = some (.cells #[.int .i64 wide, .int .i64 high, .slice sa l.length sc, .int .i64 mesh, .int .i64 knot, mv] 96 (0, 0)) := by simp only [alloc_at, World.size_alloc]; (repeat rw [if_neg (by omega)]); first | rfl | rw [if_pos (by omega)] | rw [if_pos trivial]
  generalize w.alloc (.cells #[.int .i64 wide, .int .i64 high, .slice sa l.length sc, .int .i64 mesh, .int .i64 knot, mv] 96) = W at *
  have HX := hid hW
  have HB := hid hW0
  have hc0 := cell_of hW0
  clear hW hW0
  have hcl : l.length ≤ sc := by omega
  gi_wp2_with (gi_at_call 70; ((with_reducible refine (HH.out _ _ _).mono ?_); rintro e w1 ⟨rfl, hx1⟩))
  have HJ : Hid (Ext w w1 ∧ w1.heap[w.heap.size]? = some (.cells #[.int .i64 wide, .int .i64 high, .slice sa l.length sc, .int .i64 mesh, .int .i64 knot, mv] 96 (0, 0)) ∧ HandAt w1 (w.heap.size + 1) sa l (.slice sa l.length l.length) (handTo l P 0)) := ⟨HX.out.trans hx1, hx1.block HB.out, .inl ⟨rfl, by simp [handTo, oddTo]⟩⟩
  clear hc0 HB HX hx1
  gi_loopw [3, 19] (fun v i wr => ∃ k : Nat, k ≤ P ∧ i = .int .i64 k ∧ Hid (Ext w wr ∧ wr.heap[w.heap.size]? = some (.cells #[.int .i64 wide, .int .i64 high, .slice sa l.length sc, .int .i64 mesh, .int .i64 knot, mv] 96 (0, 0)) ∧ HandAt wr (w.heap.size + 1) sa l v (handTo l P k))) (fun _ i _ => P - (intOf i).toNat)
  case atStart => exact ⟨0, Nat.zero_le _, rfl, HJ.out⟩
  case round =>
    obtain ⟨k, hk, rfl, HI⟩ := hrel
    clear HJ
    by_cases hlt : k < P
    · have hki : (k : Int) < P := by omega
      have hc0 := cell_of HI.out.2.1
      have HM := hid (HMT.out (k : Int) wr HI.out.1)
      have HY := hid (fun h => handTo_yes (l := l) (P := (P : Int)) (k := k) h)
      have HN := hid (fun h => handTo_no (l := l) (P := (P : Int)) (k := k) h)
      have hmle : meetN l (k : Int) ≤ l.length := meetTo_le l k l.length
      have HLN : Hid ((handTo l P k).length ≤ 1000) := by show _ ≤ _; unfold handTo; rw [List.length_append]; have := oddTo_len l P k; omega
      generalize meetN l (k : Int) = m at *
      cases hodd : (m % 2 == 1)
      case true =>
        have hmo : ((m : Int) % 2 == 1) = true := by rw [beq_iff_eq] at hodd ⊢; omega
        have HST := hid (HY.out hodd)
        clear hodd
        gi_wp2_with (first | (gi_at_call 98; ((with_reducible refine HM.out.mono ?_); rintro e w2 ⟨rfl, hx2⟩; have hc1 := cell_of (hx2.block HI.out.2.1))) | (gi_at_call 70; ((with_reducible refine (HH.out _ _ _).mono ?_); rintro e w3 ⟨rfl, hx3⟩; obtain ⟨v', w', hrun, hha, hxx, hkp⟩ := hand_append (Nat.le_succ _) (by have := lt_of_block ((hx2.trans hx3).block HI.out.2.1); simp; omega) ((HI.out.1.trans (hx2.trans hx3)).alloc _) HS.out HLN.out (HI.out.2.2.mono ((hx2.trans hx3).alloc _)) ⟨(k : Int), (P : Int)⟩ w3.heap.size (Ext.new (o := .cells #[.int .i64 (k : Int), .int .i64 (P : Int)] 86) (Ext.refl _)))) | (refine wpIn_append_run (fun _ => trivial) rfl (.tmp 27) (.tmp 32) 22 rfl rfl rfl hrun ?_))
        go_roundw
        case rel => exact ⟨k + 1, by omega, by go_num, hxx, hkp _ _ (Nat.lt_succ_self _) (((hx2.trans hx3).alloc _).block HI.out.2.1), by rw [HST.out]; exact hha⟩
        case measure => simp [intOf]; omega
      case false =>
        have hmo : ((m : Int) % 2 == 1) = false := by rw [beq_eq_false_iff_ne] at hodd ⊢; omega
        have HST := hid (HN.out hodd)
        clear hodd
        gi_wp2_with (gi_at_call 98; ((with_reducible refine HM.out.mono ?_); rintro e w2 ⟨rfl, hx2⟩))
        go_roundw
        case rel => exact ⟨k + 1, by omega, by go_num, HI.out.1.trans hx2, hx2.block HI.out.2.1, by rw [HST.out]; exact HI.out.2.2.mono hx2⟩
        case measure => simp [intOf]; omega
    · obtain rfl : k = P := by omega
      gi_wp2
      go_ret
      exact ⟨_, rfl, HI.out.1, HI.out.2.2⟩



def intsV (l : List Int) : List Value := l.map fun x => .int .i64 x
def cutStep (hand : Int) (st : List (List Int) × List Int) (x : Int) : List (List Int) × List Int :=
  if x != hand then (st.1, st.2 ++ [x]) else (if st.2.length > 1 then (st.1 ++ [st.2], []) else (st.1, []))
def cutTo (hand : Int) (l : List Int) (k : Nat) : List (List Int) × List Int := (l.take k).foldl (cutStep hand) ([], [])
def cutF (hand : Int) (way : List Int) : List (List Int) := (cutTo hand (way ++ [hand]) (way.length + 1)).1
theorem cutTo_succ (hand : Int) (l : List Int) (k : Nat) (h : k < l.length) : cutTo hand l (k + 1) = cutStep hand (cutTo hand l k) l[k] := by
  unfold cutTo
  rw [List.take_succ_eq_append_getElem h, List.foldl_append]; rfl
theorem cutTo_len (hand : Int) (l : List Int) (k : Nat) (h : k ≤ l.length) : (cutTo hand l k).1.length + (cutTo hand l k).2.length ≤ k := by
  induction k with
  | zero => simp [cutTo]
  | succ k ih =>
    have h1 := ih (by omega)
    rw [cutTo_succ hand l k (by omega)]
    unfold cutStep
    split
    · simp only [List.length_append, List.length_singleton]; omega
    · split
      · simp only [List.length_append, List.length_singleton, List.length_nil]; omega
      · simp only [List.length_nil]; omega
theorem info3 : (Try.prog.info? 3).map (fun i => (i.zero, i.size, i.bytes)) = some (some (.int .i64 0), 1, 8) := by kernel_rfl
theorem info41 : (Try.prog.info? 41).map (fun i => (i.zero, i.size, i.bytes)) = some (some (.slice none 0 0), 1, 24) := by kernel_rfl
/-- Pieces in memory: a row of lists of the call's own, each a row of its own. -/
structure PcsAt (w : World) (base nb : Nat) (v : Value) (ps : List (List Int)) : Prop where
  vals : ∃ vals : List Value, vals.length = ps.length ∧ Row w 41 1 v ps.length vals ∧ ∀ i (h : i < vals.length) (h' : i < ps.length), Row w 3 1 vals[i] ps[i].length (intsV ps[i]) ∧ ∀ g, vals[i].ownBlock = some g → g < nb
  own : ∀ g, v.ownBlock = some g → base ≤ g
theorem PcsAt.grow {w w' : World} {base nb : Nat} {v : Value} {ps : List (List Int)} (h : PcsAt w base nb v ps) (ob : Option Nat) (hob : ∀ g, ob = some g → nb ≤ g) (hty : ∀ g, ob = some g → ∀ o, w.heap[g]? = some o → ∃ cs fz, o = .cells cs 3 fz) (hg : w.grownBy w' ob) : PcsAt w' base nb v ps := by
  obtain ⟨⟨vals, h1, h2, h3⟩, h4⟩ := h
  refine ⟨⟨vals, h1, h2.kept fun k o hk ho => grownBy_block hg ho fun e => ?_, fun i hi hi' => ⟨(h3 i hi hi').1.kept fun k o hk ho => grownBy_block hg ho fun e => ?_, (h3 i hi hi').2⟩⟩, h4⟩
  · obtain ⟨cs, fz, rfl⟩ := hty k e.symm o ho
    rcases h2.2 with ⟨rfl, _⟩ | ⟨g, cap, cur, rfl, hgb, _⟩
    · simp [Value.ownBlock] at hk
    · simp [Value.ownBlock] at hk; subst hk; rw [hgb] at ho; cases ho
  · have := hob k e.symm
    have := (h3 i hi hi').2 k hk
    omega
theorem PcsAt.ext {w w' : World} {base nb : Nat} {v : Value} {ps : List (List Int)} (h : PcsAt w base nb v ps) (hx : Ext w w') : PcsAt w' base nb v ps :=
  h.grow none (fun g hg => by cases hg) (fun g hg => by cases hg) (hx.grown _)
theorem PcsAt.le {w : World} {base nb nb' : Nat} {v : Value} {ps : List (List Int)} (h : PcsAt w base nb v ps) (hn : nb ≤ nb') : PcsAt w base nb' v ps := by
  obtain ⟨⟨vals, h1, h2, h3⟩, h4⟩ := h
  exact ⟨⟨vals, h1, h2, fun i hi hi' => ⟨(h3 i hi hi').1, fun g hg => Nat.lt_of_lt_of_le ((h3 i hi hi').2 g hg) hn⟩⟩, h4⟩
theorem PcsAt.nil (w : World) (base nb : Nat) : PcsAt w base nb (.slice none 0 0) [] :=
  ⟨⟨[], rfl, Row.nil _ _ _, fun i h => by simp at h⟩, fun g hg => by simp [Value.ownBlock] at hg⟩
theorem row_ty {w : World} {T : TypeId} {sz : Nat} {v : Value} {n : Nat} {xs : List Value} (h : Row w T sz v n xs) {g : Nat} (hg : v.ownBlock = some g) {o : Obj} (ho : w.heap[g]? = some o) : ∃ cs fz, o = .cells cs T fz := by
  rcases h.2 with ⟨rfl, _⟩ | ⟨g', cap, cur, rfl, hgb, _⟩
  · simp [Value.ownBlock] at hg
  · simp [Value.ownBlock] at hg; subst hg; rw [hgb] at ho; cases ho; exact ⟨_, _, rfl⟩
theorem row_oneCell {w : World} {T : TypeId} {sz : Nat} {v : Value} {n : Nat} {xs : List Value} (h : Row w T sz v n xs) : v.oneCell' = true := by
  obtain ⟨a, m, c, rfl⟩ := h.isSlice
  rfl
/-- One more integer. -/
theorem ints_append {w : World} {v : Value} {l : List Int} (hr : Row w 3 1 v l.length (intsV l)) (hl : l.length ≤ 1000) (x : Int) (g : Nat) (hg : w.heap[g]? = some (.cells #[.int .i64 x] 3 (0, 0))) :
    ∃ v' w', (Builtin.append_ #[41, 41] 41 #[v, .slice (some ⟨g, 0, none⟩) 1 1]).run Try.prog w = .ok v' w' ∧ Row w' 3 1 v' (l ++ [x]).length (intsV (l ++ [x])) ∧ w.grownBy w' v.ownBlock ∧ (v'.ownBlock = v.ownBlock ∨ v'.ownBlock = some w.heap.size) := by
  obtain ⟨i0, hi0, hz0, hz1, hz2⟩ := info_parts info3
  obtain ⟨v', w', hrun, hrow, hgr, how, _⟩ := append_row (sz := 1) (bytes := 8) (t := 41) (ty := 41) Try.underlying41 hi0 hz0 hz1 hz2 (by simp [Value.cells]) (by omega) hr ⟨g, 0, none⟩ 1 [.int .i64 x] rfl
    (fun j u hj => by rw [Addr.add_mid, Nat.zero_add, cell_of hg]; simpa using hj) (fun z hz => by simp at hz; subst hz; rfl) (by omega) (by omega)
  exact ⟨v', w', hrun, by rw [List.length_append, List.length_singleton, intsV, List.map_append]; exact hrow, hgr, how⟩
/-- One more piece. -/
theorem pcs_append {w : World} {base nb nb' : Nat} {v pv : Value} {ps : List (List Int)} {p : List Int} (h : PcsAt w base nb v ps) (hl : ps.length ≤ 1000) (hp : Row w 3 1 pv p.length (intsV p)) (hpb : ∀ g, pv.ownBlock = some g → g < nb') (hn : nb ≤ nb') (hbs : base ≤ w.heap.size) (g : Nat) (hg : w.heap[g]? = some (.cells #[pv] 41 (0, 0))) :
    ∃ v' w', (Builtin.append_ #[25, 25] 25 #[v, .slice (some ⟨g, 0, none⟩) 1 1]).run Try.prog w = .ok v' w' ∧ PcsAt w' base nb' v' (ps ++ [p]) ∧ w.grownBy w' v.ownBlock := by
  obtain ⟨⟨vals, h1, h2, h3⟩, h4⟩ := h
  obtain ⟨i0, hi0, hz0, hz1, hz2⟩ := info_parts info41
  obtain ⟨v', w', hrun, hrow, hgr, how, _⟩ := append_row (sz := 1) (bytes := 24) (t := 25) (ty := 25) Try.underlying25 hi0 hz0 hz1 hz2 (by simp [Value.cells]) (by omega) h2 ⟨g, 0, none⟩ 1 [pv] rfl
    (fun j u hj => by rw [Addr.add_mid, Nat.zero_add, cell_of hg]; simpa using hj) (fun z hz => by simp at hz; subst hz; exact row_oneCell hp) (by omega) (by omega)
  have keep : ∀ {x : Value} {n : Nat} {xs : List Value}, Row w 3 1 x n xs → Row w' 3 1 x n xs := fun hx => hx.kept fun k o hk ho => grownBy_block hgr ho fun e => by
    obtain ⟨cs, fz, rfl⟩ := row_ty hx hk ho
    obtain ⟨cs', fz', e'⟩ := row_ty h2 e.symm ho
    cases e'
  refine ⟨v', w', hrun, ⟨⟨vals ++ [pv], by simp [h1], by rw [List.length_append, List.length_singleton]; exact hrow, fun i hi hi' => ?_⟩, fun k hk => ?_⟩, hgr⟩
  · by_cases hlt : i < vals.length
    · have e1 : (vals ++ [pv])[i] = vals[i] := List.getElem_append_left hlt
      have e2 : (ps ++ [p])[i] = ps[i]'(by omega) := List.getElem_append_left (by omega)
      rw [e1, e2]
      exact ⟨keep (h3 i hlt (by omega)).1, fun g hg => Nat.lt_of_lt_of_le ((h3 i hlt (by omega)).2 g hg) hn⟩
    · have hi2 : i = vals.length := by simp at hi; omega
      subst hi2
      have e1 : (vals ++ [pv])[vals.length]'hi = pv := by simp
      have e2 : (ps ++ [p])[vals.length]'hi' = p := by simp [h1]
      rw [e1, e2]
      exact ⟨keep hp, hpb⟩
  · rcases how with e | e
    · exact h4 k (by rw [← e]; exact hk)
    · rw [hk] at e; cases e; exact hbs
theorem PcsAt.pieces {w : World} {base nb : Nat} {v : Value} {ps : List (List Int)} (h : PcsAt w base nb v ps) (hl : ps.length ≤ 1000) (hls : ∀ p ∈ ps, p.length ≤ 1000) : PiecesAt w v ps := by
  obtain ⟨⟨vals, h1, h2, h3⟩, h4⟩ := h
  rcases h2.2 with ⟨rfl, h0⟩ | ⟨g, cap, cur, rfl, hg, hc, hcm, hcs, ht⟩
  · exact ⟨none, 0, by rw [h0], ⟨by omega, by omega⟩, fun i hi => by omega⟩
  · refine ⟨_, cap, rfl, ⟨hc, by omega⟩, fun i hi => ⟨g, 0, vals[i]'(by omega), rfl, lt_of_block hg, ?_, ?_⟩⟩
    · rw [cell_of hg, Nat.zero_add, ← Array.getElem?_toList]
      have : vals[i]? = some (vals[i]'(by omega)) := List.getElem?_eq_getElem _
      rw [← this]
      conv => rhs; rw [← ht]
      rw [List.getElem?_take, if_pos (by omega)]
    · have hr := (h3 i (by omega) hi).1
      have hlen := hls ps[i] (List.getElem_mem _)
      obtain ⟨_, hr⟩ := hr
      rcases hr with ⟨e, h0⟩ | ⟨g', cap', cur', e, hg', hc', _, _, ht'⟩
      · rw [e]; exact ⟨none, 0, by rw [h0], ⟨by omega, by omega⟩, fun j hj => by omega⟩
      · rw [e]
        refine ⟨_, cap', rfl, ⟨hc', by omega⟩, fun j hj => ⟨g', 0, rfl, lt_of_block hg', ?_⟩⟩
        rw [cell_of hg', Nat.zero_add, ← Array.getElem?_toList]
        have : (intsV ps[i])[j]? = some (.int .i64 ps[i][j]) := by simp [intsV, hj]
        rw [← this, ← ht', List.getElem?_take, if_pos (by omega)]



def qOne (P : Int) (v : Value) (u : World) : Prop := ∃ g, v = .slice (some ⟨g, 0, none⟩) 1 1 ∧ u.heap[g]? = some (.cells #[.int .i64 P] 3 (0, 0))
theorem qOne_s (P : Int) : ∀ v u u', qOne P v u → Ext u u' → qOne P v u' := fun _ _ _ ⟨g, h1, h2⟩ hx => ⟨g, h1, hx.block h2⟩
def qRow (n0 n : Nat) (xs : List Value) (v : Value) (u : World) : Prop := Row u 3 1 v n xs ∧ ∀ g, v.ownBlock = some g → n0 ≤ g
theorem qRow_s (n0 n : Nat) (xs : List Value) : ∀ v u u', qRow n0 n xs v u → Ext u u' → qRow n0 n xs v u' := fun _ _ _ h hx => ⟨h.1.mono hx, h.2⟩
set_option maxRecDepth 100000 in
set_option maxHeartbeats 8000000 in
theorem cut_any (wide high mesh knot : Int) (sv mv : Value) (hw : 2 ≤ wide ∧ wide ≤ 6) (hh : 2 ≤ high ∧ high ≤ 6) (wv : Value) (way : List Int) (hlen : way.length ≤ 500) (w : World) (hs : IntsAt w wv way) :
    Cal 71 #[.agg #[.int .i64 wide, .int .i64 high, sv, .int .i64 mesh, .int .i64 knot, mv], wv] w fun e w' => ∃ v, e = .returned v ∧ Ext w w' ∧ PcsAt w' w.heap.size w'.heap.size v (cutF (wide * high) way) := by
  have hm := mul_36 hw hh
  have HH := hid (fun (u : World) => hand_any wide high mesh knot sv mv hw hh u)
  obtain ⟨P, hP⟩ : ∃ P : Int, wide * high = P := ⟨_, rfl⟩
  rw [hP] at HH hm ⊢
  clear hP
  have HI := hid hs
  obtain ⟨wa, wc, rfl, hcl, _⟩ := hs
  gi_enter Try.func71, Try.ntmps71
  gi_upto_region 3 with fail
  have hW : Ext w (w.alloc (.cells #[.int .i64 wide, .int .i64 high, sv, .int .i64 mesh, .int .i64 knot, mv] 96)) := (Ext.refl _).alloc _
  have hW0 : (w.alloc (.cells #[.int .i64 wide, .int .i64 high, sv, .int .i64 mesh, .int .i64 knot, mv] 96)).heap[w.heap.size]? = some (.cells #[.int .i64 wide, .int .i64 high, sv, .int .i64 mesh, .int .i64 knot, mv] 96 (0, 0)) := by simp only [alloc_at, World.size_alloc]; (repeat rw [if_neg (by omega)]); first | rfl | rw [if_pos (by omega)] | rw [if_pos trivial]
  generalize w.alloc (.cells #[.int .i64 wide, .int .i64 high, sv, .int .i64 mesh, .int .i64 knot, mv] 96) = W at *
  have HX := hid hW
  have HB := hid hW0
  clear hW hW0
  obtain ⟨L, hL⟩ : ∃ L : List Int, L = way ++ [P] := ⟨_, rfl⟩
  have HL := hid hL
  have HLN : Hid (L.length = way.length + 1) := by show L.length = _; rw [hL]; simp
  clear hL
  refine lex_wide 12 [(8, qOne P), (9, qRow (w.heap.size + 1) (way.length + 1) (intsV L))] (by kernel_rfl) (by kernel_rfl) (nStab_cons (qOne_s _) (nStab_cons (qRow_s _ _ _) nStab_nil)) ?_
  simp only [List.take_succ_cons, List.take_zero, List.drop_succ_cons, List.drop_zero]
  apply lex_fun (rfl : psAt _ _ = none)
  · intro x u hR hf
    clear hR hf
    go_simp
    exact ⟨rfl, Ext.refl _⟩
  simp only [Act.put, List.setIfInBounds_toArray, List.set_cons_succ, List.set_cons_zero]
  apply lex_fun (rfl : psAt _ _ = none)
  · intro x u hR hf
    clear hR hf
    go_simp
    exact ⟨rfl, Ext.refl _⟩
  simp only [Act.put, List.setIfInBounds_toArray, List.set_cons_succ, List.set_cons_zero]
  apply lex_fun (rfl : psAt _ _ = none)
  · intro x u hR hf
    clear hR hf
    go_simp
    exact ⟨rfl, Ext.refl _⟩
  simp only [Act.put, List.setIfInBounds_toArray, List.set_cons_succ, List.set_cons_zero]
  apply lex_fun (rfl : psAt _ _ = none)
  · intro x u hR hf
    clear hR hf
    go_simp
    exact ⟨rfl, Ext.refl _⟩
  simp only [Act.put, List.setIfInBounds_toArray, List.set_cons_succ, List.set_cons_zero]
  apply lex_fun (rfl : psAt _ _ = none)
  · intro x u hR hf
    clear hR hf
    go_simp
    exact ⟨rfl, Ext.refl _⟩
  simp only [Act.put, List.setIfInBounds_toArray, List.set_cons_succ, List.set_cons_zero]
  apply lex_fun (rfl : psAt _ _ = none)
  · intro x u hR hf
    clear hR hf
    go_simp
    exact ⟨rfl, Ext.refl _⟩
  simp only [Act.put, List.setIfInBounds_toArray, List.set_cons_succ, List.set_cons_zero]
  apply lex_fun (rfl : psAt _ _ = none)
  · intro x u hR hf
    have c0 := cell_of (hR.block HB.out)
    clear hR hf
    go_simp
    exact ⟨rfl, Ext.refl _⟩
  simp only [Act.put, List.setIfInBounds_toArray, List.set_cons_succ, List.set_cons_zero]
  refine lex_fun (v := .int .i64 P) (rfl : psAt _ _ = none) ?_ ?_
  · intro x u hR hf
    have hcal := hid (HH.out u)
    clear hR hf
    go_simp
    exact hcal.out.mono fun e w'' ⟨he, hx'⟩ => ⟨_, he, rfl, hx'⟩
  simp only [Act.put, List.setIfInBounds_toArray, List.set_cons_succ, List.set_cons_zero]
  refine lex_pred (p := qOne P) rfl ?_ ?_
  · intro x u hR hf
    clear hR hf
    go_simp
    exact ⟨⟨_, rfl, Ext.new (Ext.refl _)⟩, (Ext.refl _).alloc _⟩
  simp only [Act.put, List.setIfInBounds_toArray, List.set_cons_succ, List.set_cons_zero]
  refine lex_pred (p := qRow (w.heap.size + 1) (way.length + 1) (intsV L)) rfl ?_ ?_
  · intro x u hR hf
    have h8 : qOne P (x 8) u := by first | exact hf.1 rfl | exact hf.2.1 rfl | exact hf.2.2.1 rfl
    clear hf
    obtain ⟨g, e8, hg⟩ := h8
    obtain ⟨i0, hi0, hz0, hz1, hz2⟩ := info_parts info3
    have hsp := HI.out.mono (HX.out.trans hR)
    obtain ⟨_, _, hcs⟩ := hsp.get
    obtain ⟨v', w', hrun, hrow, hxx, how⟩ := append_full (sz := 1) (bytes := 8) (t := 41) (ty := 41) Try.underlying41 hi0 hz0 hz1 hz2 (by simp [Value.cells]) (by omega) (sa := wa) (n := way.length) (xs := intsV way) (by simp [intsV])
      (fun hn => by subst hn; rcases Nat.eq_zero_or_pos way.length with h | h; exact h; obtain ⟨b, o, e, _⟩ := hcs 0 h; cases e)
      (fun p hp j z hj => by
        have hj2 : j < way.length := by have := (List.getElem?_eq_some_iff.1 hj).1; simpa [intsV] using this
        obtain ⟨b, o, e, _, c1⟩ := hcs j hj2
        rw [hp] at e; cases e
        rw [Addr.add_mid, c1]
        rw [← hj]; simp [intsV, hj2])
      ⟨g, 0, none⟩ 1 [.int .i64 P] rfl (fun j z hj => by rw [Addr.add_mid, Nat.zero_add, cell_of hg]; simpa using hj) (by omega) (by omega)
    have hun := hR.size
    have hws := lt_of_block (hR.block HB.out)
    have hrow' : Row w' 3 1 v' (way.length + 1) (intsV L) := by rw [HL.out]; unfold intsV; rw [List.map_append]; exact hrow
    have HQ : Hid (qRow (w.heap.size + 1) (way.length + 1) (intsV L) v' w') := ⟨hrow', fun k hk => by rw [hk] at how; cases how; omega⟩
    clear hR hg hrow hrow' how hi0 hz0 hz1 hz2 hcs hsp
    rw [if_pos (show Region.wanted _ _ = true from rfl)]
    exact gives_append (.tmp 14) (.tmp 17) 41 rfl rfl e8 hrun ⟨HQ.out, hxx⟩
  simp only [Act.put, List.setIfInBounds_toArray, List.set_cons_succ, List.set_cons_zero]
  refine lex_fun (v := .int .i64 ((way.length : Int) + 1)) (rfl : psAt _ _ = none) ?_ ?_
  · intro x u hR hf
    have h9 : qRow (w.heap.size + 1) (way.length + 1) (intsV L) (x 9) u := by first | exact hf.1 rfl | exact hf.2.1 rfl
    obtain ⟨xa, xc, e9⟩ := h9.1.isSliceN
    clear hR hf h9
    generalize x 9 = x9 at *
    subst e9
    go_simp
    first | exact ⟨by simp, Ext.refl _⟩ | exact Ext.refl _
  simp only [Act.put, List.setIfInBounds_toArray, List.set_cons_succ, List.set_cons_zero]
  apply lex_fun (rfl : psAt _ _ = none)
  · intro x u hR hf
    clear hR hf
    go_simp
    exact ⟨rfl, Ext.refl _⟩
  simp only [Act.put, List.setIfInBounds_toArray, List.set_cons_succ, List.set_cons_zero]
  refine lex_nil fun x w6 hE hfacts => ?_
  have h9 : qRow (w.heap.size + 1) (way.length + 1) (intsV L) (x 9) w6 := hfacts 9 _ (by omega) rfl
  clear hfacts
  generalize x 8 = x8 at *
  generalize x 9 = x9 at *
  clear x
  obtain ⟨⟨hxl, hrw⟩, hown⟩ := h9
  rcases hrw with ⟨_, h0⟩ | ⟨g, cap, cur, rfl, hg, hcap, _, _, htk⟩
  · exact absurd h0 (by omega)
  have hgl := hown g rfl
  have hgs := lt_of_block hg
  have HCUR : Hid (∀ j (h : j < L.length), cur[j]? = some (.int .i64 L[j])) := fun j h => by
    have : (intsV L)[j]? = some (.int .i64 L[j]) := by simp [intsV, h]
    rw [← this, ← htk, List.getElem?_take, if_pos (by have := HLN.out; omega), Array.getElem?_toList]
  have hxs := (HX.out.trans hE).size
  have hbs := lt_of_block (hE.block HB.out)
  have HJ : Hid (∃ nb, Ext w w6 ∧ w6.heap[w.heap.size]? = some (.cells #[.int .i64 wide, .int .i64 high, sv, .int .i64 mesh, .int .i64 knot, mv] 96 (0, 0)) ∧ w6.heap[g]? = some (.cells cur 3 (0, 0)) ∧ g < nb ∧ w.heap.size < nb ∧ nb ≤ w6.heap.size ∧ PcsAt w6 (w.heap.size + 1) nb (.slice none 0 0) (cutTo P L 0).1 ∧ Row w6 3 1 (Value.slice none 0 0) (cutTo P L 0).2.length (intsV (cutTo P L 0).2) ∧ ∀ j, ((Value.slice none 0 0)).ownBlock = some j → nb ≤ j) := ⟨w6.heap.size, HX.out.trans hE, hE.block HB.out, hg, hgs, hbs, Nat.le_refl _, PcsAt.nil _ _ _, Row.nil _ _ _, fun j hj => by simp [Value.ownBlock] at hj⟩
  clear hxl hown htk hg hgl hgs hxs hbs hE HX HB HI
  have HCF : Hid (cutF P way = (cutTo P L L.length).1) := by show cutF P way = _; rw [HLN.out, HL.out]; rfl
  have hLl := HLN.out
  gi_wp2_with fail
  gi_loopw [5, 6, 20] (fun v pv i wr => ∃ k : Nat, k ≤ L.length ∧ i = .int .i64 k ∧ Hid (∃ nb, Ext w wr ∧ wr.heap[w.heap.size]? = some (.cells #[.int .i64 wide, .int .i64 high, sv, .int .i64 mesh, .int .i64 knot, mv] 96 (0, 0)) ∧ wr.heap[g]? = some (.cells cur 3 (0, 0)) ∧ g < nb ∧ w.heap.size < nb ∧ nb ≤ wr.heap.size ∧ PcsAt wr (w.heap.size + 1) nb v (cutTo P L k).1 ∧ Row wr 3 1 pv (cutTo P L k).2.length (intsV (cutTo P L k).2) ∧ ∀ j, (pv).ownBlock = some j → nb ≤ j)) (fun _ _ i _ => L.length - (intOf i).toNat)
  case atStart => exact ⟨0, Nat.zero_le _, rfl, HJ.out⟩
  case round =>
    obtain ⟨k, hk, rfl, HI⟩ := hrel
    clear HJ
    by_cases hlt : k < L.length
    · obtain ⟨nb, hx, hbx, hgb, hgn, hwn, hnb, hpc, hpr, hpo⟩ := HI.out
      clear HI
      have hck : wr.cell? ⟨g, k, none⟩ = some (.int .i64 L[k]) := by rw [cell_of hgb]; exact HCUR.out k hlt
      have HST := hid (cutTo_succ P L k hlt)
      have hle := cutTo_len P L k hk
      have hki : (k : Int) < (way.length : Int) + 1 := by omega
      generalize L[k] = x at *
      generalize cutTo P L k = st at *
      obtain ⟨ps, p⟩ := st
      simp only at *
      have hc0 := cell_of hbx
      have HP := hid (And.intro hx (And.intro hbx (And.intro hgb (And.intro hpc (And.intro hpr hpo)))))
      clear hx hbx hgb hpc hpr hpo
      have hszw := HP.out.1.size
      obtain ⟨pa, pc, rfl⟩ := HP.out.2.2.2.2.1.isSliceN
      by_cases hxP : x = P
      · have hxb : (x != P) = false := by simpa using hxP
        by_cases hp1 : p.length > 1
        · have HS2 : Hid (cutTo P L (k + 1) = (ps ++ [p], [])) := by show _ = _; rw [HST.out]; unfold cutStep; rw [hxb]; simp [hp1]
          have hpi : (1 : Int) < p.length := by omega
          clear HST hxP
          gi_wp2_with (first | (gi_at_call 70; ((with_reducible refine (HH.out _).mono ?_); rintro e w2 ⟨rfl, hx2⟩; obtain ⟨v', w', hrun, hpc', hgr⟩ := pcs_append (nb' := (w2.alloc (.cells #[.slice pa p.length pc] 41)).heap.size) (HP.out.2.2.2.1.ext (hx2.alloc _)) (by omega) (HP.out.2.2.2.2.1.mono (hx2.alloc _)) (fun j hj => (HP.out.2.2.2.2.1.mono (hx2.alloc _)).lt hj) (Nat.le_trans hnb (hx2.alloc _).size) (by have := (hx2.alloc (.cells #[.slice pa p.length pc] 41)).size; omega) w2.heap.size (Ext.new (Ext.refl _)))) | (refine wpIn_append_run (fun _ => trivial) rfl (.tmp 35) (.tmp 37) 25 rfl rfl rfl hrun ?_))
          have hxa : Ext wr (w2.alloc (.cells #[.slice pa p.length pc] 41)) := hx2.alloc _
          have hos := hxa.size
          have hne : ∀ j (o : Obj), (w2.alloc (.cells #[.slice pa p.length pc] 41)).heap[j]? = some o → (∀ cs fz, o ≠ .cells cs 41 fz) → w'.heap[j]? = some o := fun j o ho hty => grownBy_block hgr ho fun e => by
            obtain ⟨⟨vals, h1, h2, h3⟩, h4⟩ := HP.out.2.2.2.1.ext hxa
            obtain ⟨cs, fz, e'⟩ := row_ty h2 e.symm ho
            exact hty _ _ e'
          have hbel : Ext w w' := Below.trans (HP.out.1.trans hxa) ⟨hgr.os, hgr.tape, hgr.output, hgr.size, fun j hj => hgr.block j (Nat.lt_of_lt_of_le hj (HP.out.1.trans hxa).size) (fun e => by have := (HP.out.2.2.2.1).own j e.symm; omega)⟩
          refine ⟨⟨k + 1, by omega, by go_num, _, hbel, hne _ _ (hxa.block HP.out.2.1) (fun cs fz e => by cases e), hne _ _ (hxa.block HP.out.2.2.1) (fun cs fz e => by cases e), ?_, ?_, hgr.size, by rw [HS2.out]; exact hpc', by rw [HS2.out]; exact Row.nil _ _ _, fun j hj => by simp [Value.ownBlock] at hj⟩, by simp [intOf]; omega⟩
          · omega
          · omega
        · have HS2 : Hid (cutTo P L (k + 1) = (ps, [])) := by show _ = _; rw [HST.out]; unfold cutStep; rw [hxb]; simp [hp1]
          have hpi : ¬ (1 : Int) < p.length := by omega
          clear HST hxP
          gi_wp2_with (gi_at_call 70; ((with_reducible refine (HH.out _).mono ?_); rintro e w2 ⟨rfl, hx2⟩))
          refine ⟨⟨k + 1, by omega, by go_num, nb, HP.out.1.trans hx2, hx2.block HP.out.2.1, hx2.block HP.out.2.2.1, hgn, hwn, Nat.le_trans hnb hx2.size, by rw [HS2.out]; exact HP.out.2.2.2.1.ext hx2, by rw [HS2.out]; exact Row.nil _ _ _, fun j hj => by simp [Value.ownBlock] at hj⟩, by simp [intOf]; omega⟩
      · have hxb : (x != P) = true := by simpa using hxP
        have HS2 : Hid (cutTo P L (k + 1) = (ps, p ++ [x])) := by show _ = _; rw [HST.out]; unfold cutStep; rw [if_pos hxb]
        clear HST hxP
        gi_wp2_with (first | (gi_at_call 70; ((with_reducible refine (HH.out _).mono ?_); rintro e w2 ⟨rfl, hx2⟩; obtain ⟨v', w', hrun, hr', hgr, how⟩ := ints_append (HP.out.2.2.2.2.1.mono (hx2.alloc _)) (by omega) x w2.heap.size (Ext.new (o := .cells #[.int .i64 x] 3) (Ext.refl _)))) | (refine wpIn_append_run (fun _ => trivial) rfl (.tmp 28) (.tmp 30) 41 rfl rfl rfl hrun ?_))
        have hxa : Ext wr (w2.alloc (.cells #[.int .i64 x] 3)) := hx2.alloc _
        have hos := hxa.size
        have hbel : Ext w w' := Below.trans (HP.out.1.trans hxa) ⟨hgr.os, hgr.tape, hgr.output, hgr.size, fun j hj => hgr.block j (Nat.lt_of_lt_of_le hj (HP.out.1.trans hxa).size) (fun e => by have := HP.out.2.2.2.2.2 j e.symm; omega)⟩
        go_roundw
        case rel =>
          refine ⟨k + 1, by omega, by go_num, nb, hbel, ?_, ?_, hgn, hwn, Nat.le_trans hnb (Nat.le_trans hos hgr.size), ?_, by rw [HS2.out]; exact hr', ?_⟩
          · exact grownBy_block hgr (hxa.block HP.out.2.1) (fun e => by have := HP.out.2.2.2.2.2 _ e.symm; omega)
          · exact grownBy_block hgr (hxa.block HP.out.2.2.1) (fun e => by have := HP.out.2.2.2.2.2 _ e.symm; omega)
          · rw [HS2.out]
            exact (HP.out.2.2.2.1.ext hxa).grow _ (fun j hj => HP.out.2.2.2.2.2 j hj) (fun j hj o ho => row_ty (HP.out.2.2.2.2.1.mono hxa) hj ho) hgr
          · intro j hj
            rcases how with e | e
            · exact HP.out.2.2.2.2.2 j (by rw [← e]; exact hj)
            · rw [hj] at e; cases e; omega
        case measure => simp [intOf]; omega
    · obtain rfl : k = L.length := by omega
      obtain ⟨nb, hx, hbx, hgb, hgn, hwn, hnb, hpc, hpr, hpo⟩ := HI.out
      clear HI
      rw [← HCF.out] at hpc
      have HP := hid (And.intro hx hpc)
      clear hx hpc hpr hpo hbx hgb
      gi_wp2
      go_ret
      refine ⟨_, rfl, HP.out.1, ?_⟩
      have h2 := HP.out.2.le hnb
      exact ⟨h2.vals, fun j hj => by have := h2.own j hj; omega⟩

end Go.Proofs.Ytmjelgonhpgmbaa
