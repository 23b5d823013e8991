/- Several elements appended; a whole list of numbers. -/
import Derived.Test.YtjocoadhalimjaaGreatRAO
import Derived.Test.YtjocoadhalimjaaGreatRAD
set_option linter.unusedSimpArgs false
set_option linter.unusedVariables false
namespace Go.Proofs.YtjocoadhalimjaaGreat
section
open Go Go.RowKit Go.Shelf

/-- No element is appended. -/
theorem append_none {w : World} {t ty T : TypeId} {i : TypeInfo} (ht : Tryz.prog.underlying t = some (.slice T)) (hi : Tryz.prog.info? T = some i) {sa : Option Addr} {n c : Nat} (hc : n ≤ c) (xa : Option Addr) (xc : Nat) :
    (Builtin.append_ #[t, t] ty #[.slice sa n c, .slice xa 0 xc]).run Tryz.prog w = .ok (.slice sa n c) w := by
  cases sa <;> cases xa <;> simp [Builtin.append_, run_underlying ht, sizeOf, typeInfo, hi, Builtin.lenOf, hc, Builtin.firstCells, loadCells, loadCellsFrom, storeCells]
/-- Some elements are appended. -/
theorem append_rows {w : World} {t ty T : TypeId} {sz bytes m : Nat} {i : TypeInfo} {z : Value} (ht : Tryz.prog.underlying t = some (.slice T)) (hi : Tryz.prog.info? T = some i) (hz : i.zero = some z) (hs : i.size = sz) (hby : i.bytes = bytes) (hzs : z.cells.size = sz) (hsz : 0 < sz) (hm : 0 < m)
    {v : Value} {n : Nat} {xs : List Value} (h : Row w T sz v n xs) (a : Addr) (c : Nat) (news : List Value) (hl : news.length = m * sz) (hnews : ∀ j u, news[j]? = some u → w.cell? (a.add j) = some u) (h1 : ∀ u ∈ news, u.oneCell' = true)
    (h63 : n + m ≤ 1000000000) (hbytes : bytes ≤ 1000) :
    ∃ v' w', (Builtin.append_ #[t, t] ty #[v, .slice (some a) m c]).run Tryz.prog w = .ok v' w' ∧ Row w' T sz v' (n + m) (xs ++ news) ∧ w.grownBy w' v.ownBlock ∧ (v'.ownBlock = v.ownBlock ∨ v'.ownBlock = some w.heap.size) := by
  subst hs
  subst hby
  have hlen : (xs ++ news).length = (n + m) * i.size := by rw [List.length_append, h.1, hl, Nat.add_mul]
  have hb2 : (n + m) * i.bytes ≤ 1000000000 * 1000 := Nat.mul_le_mul h63 hbytes
  have hmax : n + m ≤ maxLen := by unfold maxLen; omega
  have grown : ∀ (old : Nat), ∃ w', w' = (w.drew.alloc (.cells (xs.toArray ++ news.toArray ++ Builtin.zeroCells z.cells (grownCap w (n + m) old T - (n + m))) T)) ∧
      Row w' T i.size (.slice (some ⟨w.heap.size, 0, none⟩) (n + m) (grownCap w (n + m) old T)) (n + m) (xs ++ news) ∧ ∀ row, w.grownBy w' row := by
    intro old
    have hge := grownCap_ge w (n + m) old T
    refine ⟨_, rfl, ⟨hlen, .inr ⟨w.heap.size, _, _, rfl, heap_alloc_new w.drew _, hge, grownCap_le_maxLen w (n + m) old T hmax, ?_, ?_⟩⟩, fun row => ⟨rfl, rfl, rfl, by simp, fun k hk _ => heap_alloc_old w.drew _ k hk⟩⟩
    · simp only [Array.size_append, List.size_toArray, size_zeroCells, hzs, h.1, hl, Nat.sub_mul]
      have h2 : (n + m) * i.size ≤ grownCap w (n + m) old T * i.size := Nat.mul_le_mul_right _ hge
      rw [Nat.add_mul] at h2 ⊢
      omega
    · simp only [Array.toList_append]
      rw [← hlen]
      exact List.take_left
  rcases h.2 with ⟨rfl, rfl⟩ | ⟨g, cap, cur, rfl, hg, hnc, hcm, hcs, htake⟩
  · have hx : xs = [] := List.eq_nil_of_length_eq_zero (by simpa using h.1)
    subst hx
    have hb3 : m * i.bytes ≤ 1000000000 * 1000 := by simpa using hb2
    have hr := run_append_nil (P := Tryz.prog) w t ty T i z ht hi hz a m c news hl hnews (by omega) (by omega) (by omega)
    obtain ⟨w', hw', hrow, hgr⟩ := grown 0
    simp only [Nat.zero_add, List.nil_append, Array.empty_append] at hrow hgr hw' ⊢
    rw [← hw'] at hr
    exact ⟨_, _, hr, hrow, hgr _, .inr rfl⟩
  · by_cases hroom : n + m ≤ cap
    · have hfit : n * i.size + news.length ≤ cur.size := by
        rw [hl, hcs]
        have := Nat.mul_le_mul_right i.size hroom
        rw [Nat.add_mul] at this; exact this
      have hr := run_append_room (P := Tryz.prog) w t ty T i ht hi g n cap cur hg a m c news hl hnews h1 hroom hfit
      refine ⟨_, _, hr, ⟨hlen, .inr ⟨g, cap, _, rfl, setRow_heap w g cur _ T _ hg, hroom, hcm, ?_, ?_⟩⟩, ⟨rfl, rfl, rfl, by simp, fun k _ hk => setRow_other w g k _ (fun e => hk (by simp [Value.ownBlock, e]))⟩, .inl rfl⟩
      · simp only [List.size_toArray, List.length_append, List.length_take, List.length_drop, Array.length_toList]
        omega
      · rw [htake, ← hlen]
        exact List.take_left
    · have holds : ∀ j u, xs[j]? = some u → w.cell? ((⟨g, 0, none⟩ : Addr).add j) = some u :=
        World.ownsRow.cells (base := 0) (e := T) (size := i.size) (n := n) (h.own 0 (fun _ _ => Nat.zero_le _)) (g := g) rfl
      have hr := run_append_grow (P := Tryz.prog) w t ty T i z ht hi hz ⟨g, 0, none⟩ n cap xs h.1 holds a m c news hl hnews (by omega) (by omega) (growslice_fits (by omega) (by omega))
      obtain ⟨w', hw', hrow, hgr⟩ := grown cap
      rw [← hw'] at hr
      exact ⟨_, _, hr, hrow, hgr _, .inr rfl⟩

theorem ext_grown {w0 w w' : World} {ob : Option Nat} (hx : Ext w0 w) (h : w.grownBy w' ob) (hob : ∀ g, ob = some g → w0.heap.size ≤ g) : Ext w0 w' :=
  Below.trans hx ⟨h.os, h.tape, h.output, h.size, fun j hj => h.block j (by have := hx.size; omega) (fun e => by have := hob j e.symm; omega)⟩
theorem row_empty (w : World) (T : TypeId) (sz : Nat) : Row (w.alloc (.cells #[] T)) T sz (.slice (some ⟨w.heap.size, 0, none⟩) 0 0) 0 [] :=
  ⟨by simp, .inr ⟨_, 0, #[], rfl, Ext.new (Ext.refl _), by omega, by unfold maxLen; omega, by simp, by simp⟩⟩
theorem row_addr {w : World} {T : TypeId} {sz n : Nat} {v : Value} {xs : List Value} (h : Row w T sz v n xs) (hn : 0 < n) : ∃ g cap, v = .slice (some ⟨g, 0, none⟩) n cap := by
  rcases h.2 with ⟨_, h0⟩ | ⟨g, cap, cur, rfl, _⟩
  · omega
  · exact ⟨g, cap, rfl⟩

def intsV (xs : List Int) : List Value := xs.map fun x => .int .i64 x
theorem intsV_intsF (n : Nat) (f : Nat → Int) : intsF n f = intsV ((List.range n).map f) := by unfold intsF intsV; rw [List.map_map]; rfl
theorem intsV_get {xs : List Int} {i : Nat} (h : i < xs.length) : (intsV xs)[i]? = some (.int .i64 xs[i]) := by unfold intsV; simp [h]
theorem intsV_one (xs : List Int) : ∀ u ∈ intsV xs, u.oneCell' = true := by
  intro u hu
  unfold intsV at hu
  obtain ⟨x, _, rfl⟩ := List.mem_map.1 hu
  rfl
theorem ints_cells {w : World} {p : Addr} {sc : Nat} {xs : List Int} (h : IntsAt w (.slice (some p) xs.length sc) xs) (j : Nat) (u : Value) (hj : (intsV xs)[j]? = some u) : w.cell? (p.add j) = some u := by
  obtain ⟨_, _, hc⟩ := h.get
  have hj2 : j < xs.length := by have := (List.getElem?_eq_some_iff.1 hj).1; simpa [intsV] using this
  rw [intsV_get hj2] at hj
  cases hj
  obtain ⟨b, o, e, _, c0⟩ := hc j hj2
  cases e
  rw [Addr.add_mid]
  exact c0
theorem IntsAt.of_row {w : World} {v : Value} {xs : List Int} (h : Row w 3 1 v xs.length (intsV xs)) (hl : xs.length ≤ 1000000000000000) : IntsAt w v xs := by
  obtain ⟨_, h⟩ := h
  rcases h with ⟨rfl, h0⟩ | ⟨g, cap, cur, rfl, hg, h1, h2, h3, h4⟩
  · exact ⟨none, 0, by rw [h0], ⟨by omega, by omega⟩, fun i hi => by omega⟩
  · refine ⟨_, cap, rfl, ⟨h1, hl⟩, fun i hi => ⟨g, 0, rfl, lt_of_block hg, ?_⟩⟩
    rw [cell_of hg, Nat.zero_add, ← intsV_get hi, ← h4, List.getElem?_take, if_pos (by omega), Array.getElem?_toList]
/-- A whole list of numbers, appended to an empty one. -/
theorem whole_ints {w0 w : World} {p : Addr} {sc : Nat} {xs : List Int} (hx : Ext w0 w) (h : IntsAt w0 (.slice (some p) xs.length sc) xs) (h0 : 0 < xs.length ∧ xs.length ≤ 1000) :
    ∃ g cap w', (Builtin.append_ #[23, 23] 23 #[.slice (some ⟨w.heap.size, 0, none⟩) 0 0, .slice (some p) xs.length sc]).run Tryz.prog (w.alloc (.cells #[] 3)) = .ok (.slice (some ⟨g, 0, none⟩) xs.length cap) w' ∧
      Row w' 3 1 (.slice (some ⟨g, 0, none⟩) xs.length cap) xs.length (intsV xs) ∧ w.heap.size ≤ g ∧ Ext w w' := by
  obtain ⟨i, hi, hz0, hz1, hz2⟩ := info_parts info3
  obtain ⟨v, w', hrun, hrow, hgr, how⟩ := append_rows (sz := 1) (bytes := 8) (t := 23) (ty := 23) Tryz.underlying23 hi hz0 hz1 hz2 (by simp [Value.cells]) (by omega) h0.1 (row_empty w 3 1) p sc (intsV xs) (by simp [intsV]) (fun j u hj => ints_cells (h.mono (hx.alloc _)) j u hj) (intsV_one xs) (by omega) (by omega)
  rw [Nat.zero_add, List.nil_append] at hrow
  obtain ⟨g, cap, rfl⟩ := row_addr hrow h0.1
  refine ⟨g, cap, w', hrun, hrow, ?_, ext_grown ((Ext.refl w).alloc _) hgr fun g' hg' => by cases hg'; exact Nat.le_refl _⟩
  rcases how with e | e <;> cases e <;> simp
end
section
open Go Go.RowKit Go.Shelf Go.MapKept

set_option maxHeartbeats 1000000 in
theorem has_any (s k : Nat) (w : World) (hs : s < 1024) (hk : k ≤ 20) : Cal 103 #[.int .i64 s, .int .i64 k] w fun e w' => e = .returned (.bool (s.testBit k)) ∧ w = w' := by
  have HB := hid (has_bits (k := k) hs)
  have h1 : (0 : Int) ≤ (k : Int) := by omega
  have h2 : (k : Int) ≤ 64 := by omega
  gi_enter Tryz.func103, Tryz.ntmps103
  gi_wp2
  go_ret
  exact ⟨by rw [← HB.out]; rfl, rfl⟩
/-- The numbers of a set. -/
def numsTo (s : Nat) : Nat → List Int
  | 0 => []
  | k + 1 => if s.testBit k then numsTo s k ++ [(k : Int)] else numsTo s k
theorem numsTo_len (s : Nat) : ∀ k, (numsTo s k).length ≤ k
  | 0 => Nat.le_refl _
  | k + 1 => by
    have := numsTo_len s k
    unfold numsTo
    split
    · simp; omega
    · omega
theorem intsV_snoc (xs : List Int) (x : Int) : intsV (xs ++ [x]) = intsV xs ++ [.int .i64 x] := by simp [intsV]
set_option maxHeartbeats 4000000 in
theorem numbers_any (s : Nat) (w : World) (hs : s < 1024) : Cal 88 #[.int .i64 s] w fun e w' => ∃ r, e = .returned r ∧ Ext w w' ∧ Hid (Row w' 3 1 r (numsTo s 10).length (intsV (numsTo s 10)) ∧ ∀ g, r.ownBlock = some g → w.heap.size ≤ g) := by
  have HS := hid hs
  clear hs
  gi_enter Tryz.func88, Tryz.ntmps88
  gi_wp2_with fail
  have HJ : Hid (Ext w w ∧ Row w 3 1 (.slice none 0 0) (numsTo s 0).length (intsV (numsTo s 0)) ∧ ∀ g, (Value.slice none 0 0).ownBlock = some g → w.heap.size ≤ g) := hid ⟨Ext.refl _, Row.nil _ _ _, fun g h => by simp [Value.ownBlock] at h⟩
  gi_loopw [3, 4, 5] (fun r u4 i wr => ∃ k : Nat, k ≤ 10 ∧ i = .int .i64 k ∧ Hid (Ext w wr ∧ Row wr 3 1 r (numsTo s k).length (intsV (numsTo s k)) ∧ ∀ g, r.ownBlock = some g → w.heap.size ≤ g)) (fun _ _ i _ => 10 - (intOf i).toNat)
  case atStart => exact ⟨0, by omega, rfl, HJ⟩
  case round =>
    obtain ⟨k, hk, rfl, HI⟩ := hrel
    clear HJ
    by_cases hlt : k < 10
    · have hki : (k : Int) < 10 := by omega
      have HH := hid (has_any s k wr HS.out (by omega))
      obtain ⟨na, nc, rfl⟩ := HI.out.2.1.isSliceN
      have HST : Hid (numsTo s (k + 1) = if s.testBit k then numsTo s k ++ [(k : Int)] else numsTo s k) := hid rfl
      cases hb : s.testBit k with
      | false =>
        rw [hb] at HH HST
        have HE : Hid (numsTo s (k + 1) = numsTo s k) := hid (by rw [HST.out]; rfl)
        clear hb HST
        gi_wp2_with (gi_at_call 103; ((with_reducible refine (HH.out).mono ?_); rintro e w1 ⟨rfl, rfl⟩))
        go_roundw
        case rel => exact ⟨k + 1, by omega, by go_num, by rw [HE.out]; exact HI⟩
        case measure => simp [intOf]; omega
      | true =>
        rw [hb] at HH HST
        have HE : Hid (numsTo s (k + 1) = numsTo s k ++ [(k : Int)]) := hid (by rw [HST.out]; rfl)
        have hlen := numsTo_len s k
        have HX := hid HI.out.1
        have HRW := hid (HI.out.2.1.mono ((Ext.refl wr).alloc (.cells #[.int .i64 k] 3)))
        have HOWN := hid HI.out.2.2
        have HNW : Hid (∀ j u, ([.int .i64 k] : List Value)[j]? = some u → (wr.alloc (.cells #[.int .i64 k] 3)).cell? ((⟨wr.heap.size, 0, none⟩ : Addr).add j) = some u) := fun j u hj => by rw [Addr.add_mid, Nat.zero_add, new_cell _ _ rfl]; simpa using hj
        obtain ⟨i0, hi0, hz0, hz1, hz2⟩ := info_parts info3
        have HZ := hid (And.intro hi0 (And.intro hz0 (And.intro hz1 hz2)))
        have hmax : (numsTo s k).length + 1 ≤ 1000000000 := by omega
        clear hi0 hz0 hz1 hz2 HI hb HST
        generalize hL : (numsTo s k).length = L at *
        have HL := hid hL
        clear hL
        gi_wp2_with (first | (gi_at_call 103; ((with_reducible refine (HH.out).mono ?_); rintro e w1 ⟨rfl, rfl⟩)) | (refine wpIn_append_row (fun _ => trivial) rfl (.tmp 11) (.tmp 13) rfl Tryz.underlying23 HZ.out.1 HZ.out.2.1 HZ.out.2.2.1 HZ.out.2.2.2 (by simp [Value.cells]) (by omega) (v := .slice na L nc) rfl HRW.out ⟨wr.heap.size, 0, none⟩ 1 rfl [.int .i64 k] rfl HNW.out (fun u hu => by simp at hu; subst hu; rfl) hmax (by omega) ?_; intro v' w' hrow' hgr' how'))
        have hxx : Ext w (wr.alloc (.cells #[.int .i64 k] 3)) := HX.out.alloc _
        have hbel := ext_grown hxx hgr' (fun g hg => HOWN.out g hg)
        have hown' : ∀ g, v'.ownBlock = some g → w.heap.size ≤ g := fun g hg => by
          rcases how' with e | e
          · exact HOWN.out g (by rw [← e]; exact hg)
          · rw [hg] at e; cases e; exact hxx.size
        go_roundw
        case rel => exact ⟨k + 1, by omega, by go_num, hid ⟨hbel, by rw [HE.out, intsV_snoc, List.length_append, HL.out]; exact hrow', hown'⟩⟩
        case measure => simp [intOf]; omega
    · obtain rfl : k = 10 := by omega
      obtain ⟨na, nc, rfl⟩ := HI.out.2.1.isSliceN
      gi_wp2_with fail
      go_ret
      exact ⟨_, rfl, HI.out.1, hid HI.out.2⟩
set_option maxHeartbeats 4000000 in
theorem open_any (v : Value) (xs : List Int) (w : World) (hv : IntsAt w v xs) (hl : xs.length ≤ 10) : Cal 87 #[v] w fun e w' => e = .returned (.int .i64 (openTo xs xs.length)) ∧ w = w' := by
  obtain ⟨a, cap, rfl, ⟨hcap, hlen⟩, hc⟩ := hv
  have HC := hid hc
  clear hc
  gi_enter Tryz.func87, Tryz.ntmps87
  gi_wp2_with fail
  gi_loop [3, 4, 5, 8, 9, 10, 11, 12, 13, 14, 15, 16, 17, 18, 19] (fun s u4 u5 i u9 u10 u11 u12 u13 u14 u15 u16 u17 u18 u19 => ∃ k : Nat, k ≤ xs.length ∧ i = .int .i64 k ∧ s = .int .i64 (openTo xs k)) (fun _ _ _ i _ _ _ _ _ _ _ _ _ _ _ => xs.length - (intOf i).toNat)
  case atStart => exact ⟨0, Nat.zero_le _, rfl, rfl⟩
  case round =>
    obtain ⟨k, hk, rfl, rfl⟩ := hrel
    by_cases hlt : k < xs.length
    · have hki : (k : Int) < (xs.length : Int) := by omega
      obtain ⟨b, off, rfl, hbb, hck⟩ := HC.out k hlt
      have hop := openTo_lt xs k
      have hp10 : (2 : Nat) ^ k ≤ 2 ^ 9 := Nat.pow_le_pow_right (by omega) (by omega)
      have hor := bits_or (a := openTo xs k) (b := 2 ^ k) (by omega) (by omega)
      have hsh : wrap64 ((2 : Int) ^ k) = ((2 ^ k : Nat) : Int) := by
        have hpc : (2 : Int) ^ k = ((2 ^ k : Nat) : Int) := by push_cast; rfl
        rw [hpc]; unfold wrap64; omega
      have HST : Hid (openTo xs (k + 1) = if xs[k] = 0 then openTo xs k else openTo xs k ||| 2 ^ k) := hid (by show (if xs.getD k 0 = 0 then openTo xs k else openTo xs k ||| 2 ^ k) = _; rw [getD_of hlt])
      generalize xs[k] = x at *
      generalize openTo xs k = s at *
      generalize hpp : (2 : Nat) ^ k = pw at *
      clear hpp hop hp10
      cases hx : (x == 0) with
      | true =>
        have HE : Hid (openTo xs (k + 1) = s) := hid (by rw [HST.out, if_pos (by simpa using hx)])
        clear HST
        gi_wp2_with fail
        go_round
        case rel => exact ⟨k + 1, by omega, by go_num, by rw [HE.out]⟩
        case measure => simp [intOf]; omega
      | false =>
        have HE : Hid (openTo xs (k + 1) = s ||| pw) := hid (by rw [HST.out, if_neg (by simpa using hx)])
        have h1 : (0 : Int) ≤ (k : Int) := by omega
        clear HST
        gi_wp2_with fail
        go_round
        case rel => exact ⟨k + 1, by omega, by go_num, by rw [HE.out]⟩
        case measure => simp [intOf]; omega
    · obtain rfl : k = xs.length := by omega
      gi_wp2_with fail
      go_ret
      exact ⟨rfl, rfl⟩
end
end Go.Proofs.YtjocoadhalimjaaGreat
