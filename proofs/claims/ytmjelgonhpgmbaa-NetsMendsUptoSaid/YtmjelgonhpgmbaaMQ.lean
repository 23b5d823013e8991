/- Several elements appended. -/
import Derived.Test.YtmjelgonhpgmbaaMP
set_option linter.unusedSimpArgs false
set_option linter.unusedVariables false
namespace Go.Proofs.Ytmjelgonhpgmbaa
open Go Go.RowKit Go.Shelf

/-- No element is appended. -/
theorem append_none {w : World} {t ty T : TypeId} {i : TypeInfo} (ht : Try.prog.underlying t = some (.slice T)) (hi : Try.prog.info? T = some i) {sa : Option Addr} {n c : Nat} (hc : n ≤ c) (xa : Option Addr) (xc : Nat) :
    (Builtin.append_ #[t, t] ty #[.slice sa n c, .slice xa 0 xc]).run Try.prog w = .ok (.slice sa n c) w := by
  cases sa <;> cases xa <;> simp [Builtin.append_, run_underlying ht, sizeOf, typeInfo, hi, Builtin.lenOf, hc, Builtin.firstCells, loadCells, loadCellsFrom, storeCells]
/-- Some elements are appended. -/
theorem append_rows {w : World} {t ty T : TypeId} {sz bytes m : Nat} {i : TypeInfo} {z : Value} (ht : Try.prog.underlying t = some (.slice T)) (hi : Try.prog.info? T = some i) (hz : i.zero = some z) (hs : i.size = sz) (hby : i.bytes = bytes) (hzs : z.cells.size = sz) (hsz : 0 < sz) (hm : 0 < m)
    {v : Value} {n : Nat} {xs : List Value} (h : Row w T sz v n xs) (a : Addr) (c : Nat) (news : List Value) (hl : news.length = m * sz) (hnews : ∀ j u, news[j]? = some u → w.cell? (a.add j) = some u) (h1 : ∀ u ∈ news, u.oneCell' = true)
    (h63 : n + m ≤ 1000000000) (hbytes : bytes ≤ 1000) :
    ∃ v' w', (Builtin.append_ #[t, t] ty #[v, .slice (some a) m c]).run Try.prog w = .ok v' w' ∧ Row w' T sz v' (n + m) (xs ++ news) ∧ w.grownBy w' v.ownBlock ∧ (v'.ownBlock = v.ownBlock ∨ v'.ownBlock = some w.heap.size) := by
  subst hs
  subst hby
  have hlen : (xs ++ news).length = (n + m) * i.size := by rw [List.length_append, h.1, hl, Nat.add_mul]
  have hb2 : (n + m) * i.bytes ≤ 1000000000 * 1000 := Nat.mul_le_mul h63 hbytes
  have hmax : n + m ≤ maxLen := by unfold maxLen; omega
  have grown : ∀ (old : Nat), ∃ w', w' = (w.drew.alloc (.cells (xs.toArray ++ news.toArray ++ Builtin.zeroCells z.cells (grownCap w (n + m) old T - (n + m))) T)) ∧
      Row w' T i.size (.slice (some ⟨w.heap.size, 0, none⟩) (n + m) (grownCap w (n + m) old T)) (n + m) (xs ++ news) ∧ ∀ row, w.grownBy w' row := by
    intro old
    have hge := grownCap_ge w (n + m) old T
    refine ⟨_, rfl, ⟨hlen, .inr ⟨w.heap.size, _, _, rfl, heap_alloc_new w.drew _, hge, grownCap_le_maxLen w (n + m) old T hmax, ?_, ?_⟩⟩, fun row => ⟨rfl, rfl, rfl, by simp, fun k hk _ => heap_alloc_old w.drew _ k hk⟩⟩
    · simp only [Array.size_append, List.size_toArray, size_zeroCells, hzs, h.1, hl, Nat.sub_mul]
      have h2 : (n + m) * i.size ≤ grownCap w (n + m) old T * i.size := Nat.mul_le_mul_right _ hge
      rw [Nat.add_mul] at h2 ⊢
      omega
    · simp only [Array.toList_append]
      rw [← hlen]
      exact List.take_left
  rcases h.2 with ⟨rfl, rfl⟩ | ⟨g, cap, cur, rfl, hg, hnc, hcm, hcs, htake⟩
  · have hx : xs = [] := List.eq_nil_of_length_eq_zero (by simpa using h.1)
    subst hx
    have hb3 : m * i.bytes ≤ 1000000000 * 1000 := by simpa using hb2
    have hr := run_append_nil (P := Try.prog) w t ty T i z ht hi hz a m c news hl hnews (by omega) (by omega) (by omega)
    obtain ⟨w', hw', hrow, hgr⟩ := grown 0
    simp only [Nat.zero_add, List.nil_append, Array.empty_append] at hrow hgr hw' ⊢
    rw [← hw'] at hr
    exact ⟨_, _, hr, hrow, hgr _, .inr rfl⟩
  · by_cases hroom : n + m ≤ cap
    · have hfit : n * i.size + news.length ≤ cur.size := by
        rw [hl, hcs]
        have := Nat.mul_le_mul_right i.size hroom
        rw [Nat.add_mul] at this; exact this
      have hr := run_append_room (P := Try.prog) w t ty T i ht hi g n cap cur hg a m c news hl hnews h1 hroom hfit
      refine ⟨_, _, hr, ⟨hlen, .inr ⟨g, cap, _, rfl, setRow_heap w g cur _ T _ hg, hroom, hcm, ?_, ?_⟩⟩, ⟨rfl, rfl, rfl, by simp, fun k _ hk => setRow_other w g k _ (fun e => hk (by simp [Value.ownBlock, e]))⟩, .inl rfl⟩
      · simp only [List.size_toArray, List.length_append, List.length_take, List.length_drop, Array.length_toList]
        omega
      · rw [htake, ← hlen]
        exact List.take_left
    · have holds : ∀ j u, xs[j]? = some u → w.cell? ((⟨g, 0, none⟩ : Addr).add j) = some u :=
        World.ownsRow.cells (base := 0) (e := T) (size := i.size) (n := n) (h.own 0 (fun _ _ => Nat.zero_le _)) (g := g) rfl
      have hr := run_append_grow (P := Try.prog) w t ty T i z ht hi hz ⟨g, 0, none⟩ n cap xs h.1 holds a m c news hl hnews (by omega) (by omega) (growslice_fits (by omega) (by omega))
      obtain ⟨w', hw', hrow, hgr⟩ := grown cap
      rw [← hw'] at hr
      exact ⟨_, _, hr, hrow, hgr _, .inr rfl⟩



/-- Pieces behind pieces. -/
theorem pcs_append_many {w : World} {base nb base' nb' : Nat} {v cv : Value} {ps qs : List (List Int)} (h : PcsAt w base nb v ps) (hq : PcsAt w base' nb' cv qs) (hl : ps.length ≤ 100000) (hl2 : qs.length ≤ 100000) (hbs : base ≤ w.heap.size) :
    ∃ v' w', (Builtin.append_ #[25, 25] 25 #[v, cv]).run Try.prog w = .ok v' w' ∧ PcsAt w' base w'.heap.size v' (ps ++ qs) ∧ w.grownBy w' v.ownBlock := by
  obtain ⟨⟨vals, h1, h2, h3⟩, h4⟩ := h
  obtain ⟨⟨valq, q1, q2, q3⟩, q4⟩ := hq
  obtain ⟨i0, hi0, hz0, hz1, hz2⟩ := info_parts info41
  have fin : ∀ (v' : Value) (w' : World), Row w' 41 1 v' (ps.length + qs.length) (vals ++ valq) → w.grownBy w' v.ownBlock → (∀ k, v'.ownBlock = some k → base ≤ k) → PcsAt w' base w'.heap.size v' (ps ++ qs) := fun v' w' hrow hgr how => by
    have keep : ∀ {x : Value} {n : Nat} {xs : List Value}, Row w 3 1 x n xs → Row w' 3 1 x n xs := fun hx => hx.kept fun k o hk ho => grownBy_block hgr ho fun e => by
      obtain ⟨cs, fz, rfl⟩ := row_ty hx hk ho
      obtain ⟨cs', fz', e'⟩ := row_ty h2 e.symm ho
      cases e'
    refine ⟨⟨vals ++ valq, by simp [h1, q1], by rw [List.length_append]; exact hrow, fun i hi hi' => ?_⟩, how⟩
    have hr : Row w 3 1 ((vals ++ valq)[i]'hi) ((ps ++ qs)[i]'hi').length (intsV ((ps ++ qs)[i]'hi')) := by
      by_cases hlt : i < vals.length
      · simp only [List.getElem_append, hlt, show i < ps.length by omega, dite_true]
        exact (h3 i hlt (by omega)).1
      · have hi2 : i - vals.length < valq.length := by simp at hi; omega
        simp only [List.getElem_append, hlt, show ¬ i < ps.length by omega, dite_false]
        have h5 := (q3 (i - vals.length) hi2 (by omega)).1
        simp only [h1] at h5 ⊢
        exact h5
    exact ⟨keep hr, fun g hg => (keep hr).lt hg⟩
  rcases Nat.eq_zero_or_pos qs.length with hz | hp
  · obtain ⟨sa, sc, rfl⟩ := h2.isSliceN
    obtain ⟨xa, xc, rfl⟩ := q2.isSliceN
    have hqn : qs = [] := List.eq_nil_of_length_eq_zero hz
    subst hqn
    have hvn : valq = [] := List.eq_nil_of_length_eq_zero (by simpa using q1)
    subst hvn
    have hcap : ps.length ≤ sc := by
      rcases h2.2 with ⟨_, h0⟩ | ⟨g, cap, cur, e, _, hc, _⟩
      · omega
      · cases e; exact hc
    refine ⟨_, w, append_none (ty := 25) Try.underlying25 hi0 hcap xa xc, fin _ w (by simpa using h2) (Ext.grown (Ext.refl _) _) h4, Ext.grown (Ext.refl _) _⟩
  · rcases q2.2 with ⟨_, h0⟩ | ⟨g, cap, cur, rfl, hg, hc, _, _, ht⟩
    · omega
    · have hnews : ∀ j u, valq[j]? = some u → w.cell? ((⟨g, 0, none⟩ : Addr).add j) = some u := fun j u hj => by
        rw [Addr.add_mid, Nat.zero_add, cell_of hg, ← Array.getElem?_toList, ← hj, ← ht, List.getElem?_take]
        have : j < qs.length * 1 := by have := (List.getElem?_eq_some_iff.1 hj).1; omega
        rw [if_pos this]
      obtain ⟨v', w', hrun, hrow, hgr, how⟩ := append_rows (sz := 1) (bytes := 24) (m := qs.length) (t := 25) (ty := 25) Try.underlying25 hi0 hz0 hz1 hz2 (by simp [Value.cells]) (by omega) hp h2 ⟨g, 0, none⟩ cap valq (by rw [q1, Nat.mul_one]) hnews
        (fun u hu => by obtain ⟨i, hi, rfl⟩ := List.getElem_of_mem hu; exact row_oneCell (q3 i hi (by omega)).1) (by omega) (by omega)
      refine ⟨v', w', hrun, fin v' w' hrow hgr (fun k hk => ?_), hgr⟩
      rcases how with e | e
      · exact h4 k (by rw [← e]; exact hk)
      · rw [hk] at e; cases e; exact hbs

theorem PcsAt.kept {w w' : World} {base nb nb' : Nat} {v : Value} {ps : List (List Int)} (h : PcsAt w base nb v ps) (hn : nb ≤ nb') (hk : ∀ k o, base ≤ k → w.heap[k]? = some o → w'.heap[k]? = some o) (ht : ∀ (k : Nat) (cs : Array Value), w.heap[k]? = some (Obj.cells cs 3 (0, 0)) → w'.heap[k]? = some (Obj.cells cs 3 (0, 0))) : PcsAt w' base nb' v ps := by
  obtain ⟨⟨vals, h1, h2, h3⟩, h4⟩ := h
  refine ⟨⟨vals, h1, h2.kept fun k o ho hb => hk k o (h4 k ho) hb, fun i hi hi' => ⟨(h3 i hi hi').1.kept fun k o ho hb => ?_, fun g hg => Nat.lt_of_lt_of_le ((h3 i hi hi').2 g hg) hn⟩⟩, h4⟩
  rcases (h3 i hi hi').1.2 with ⟨e, _⟩ | ⟨g, cap, cur, e, hg, _⟩
  · rw [e] at ho; simp [Value.ownBlock] at ho
  · rw [e] at ho; simp [Value.ownBlock] at ho; subst ho; rw [hg] at hb; cases hb; exact ht _ _ hg
theorem spinF_len {l : List Spn} (hl : l.length ≤ 96) (f : Nat) (k : Int) (L : Nat → Bool) : (spinF l f k (L, [])).2.length ≤ 97 := by
  have h := (spinF_less l f k (L, [])).len
  have hc := cnt_le L l.length
  simp only [List.length_nil] at h
  omega
theorem cutF_len (P : Int) (way : List Int) : (cutF P way).length ≤ way.length + 1 := by
  have := cutTo_len P (way ++ [P]) (way.length + 1) (by simp)
  unfold cutF
  omega
theorem mendTo_len {l : List Spn} (hl : l.length ≤ 96) (P : Nat) : ∀ n : Nat, (mendTo l P n).2.length ≤ n * 98
  | 0 => by simp [mendTo]
  | n + 1 => by
    have h1 := mendTo_len hl P n
    have h2 := cutF_len P (spinF l 97 ((P : Int) - n) ((mendTo l P n).1, [])).2
    have h3 := spinF_len hl 97 ((P : Int) - n) (mendTo l P n).1
    show ((mendTo l P n).2 ++ cutF P (spinF l 97 ((P : Int) - n) ((mendTo l P n).1, [])).2).length ≤ _
    rw [List.length_append]
    omega
theorem ints_row {w : World} {v : Value} {l : List Int} (h : Row w 3 1 v l.length (intsV l)) (hl : l.length ≤ 1000) : IntsAt w v l := by
  obtain ⟨_, h⟩ := h
  rcases h with ⟨rfl, h0⟩ | ⟨g, cap, cur, rfl, hg, hc, _, _, ht⟩
  · exact ⟨none, 0, by rw [h0], ⟨by omega, by omega⟩, fun j hj => by omega⟩
  · refine ⟨_, cap, rfl, ⟨hc, by omega⟩, fun j hj => ⟨g, 0, rfl, lt_of_block hg, ?_⟩⟩
    rw [cell_of hg, Nat.zero_add, ← Array.getElem?_toList]
    have : (intsV l)[j]? = some (.int .i64 l[j]) := by simp [intsV, hj]
    rw [← this, ← ht, List.getElem?_take, if_pos (by omega)]

set_option maxRecDepth 100000 in
set_option maxHeartbeats 8000000 in
theorem mend_any (wide high mesh knot : Int) (sa : Option Addr) (sc : Nat) (l : List Spn) (mv : Value) (hw : 2 ≤ wide ∧ wide ≤ 6) (hh : 2 ≤ high ∧ high ≤ 6) (w : World) (hl : l.length ≤ 60) (hlo : ∀ s ∈ l, 0 ≤ s.lo ∧ s.lo ≤ wide * high) (hs : SpansAt w (.slice sa l.length sc) l) :
    Cal 50 #[.agg #[.int .i64 wide, .int .i64 high, .slice sa l.length sc, .int .i64 mesh, .int .i64 knot, mv]] w fun e w' => ∃ v, e = .returned v ∧ Ext w w' ∧ PcsAt w' w.heap.size w'.heap.size v (mendF l wide high) := by
  have hm := mul_36 hw hh
  obtain ⟨P, hP⟩ : ∃ P : Nat, wide * high = P := ⟨(wide * high).toNat, by omega⟩
  have HS := hid hs
  have HWH := hid (fun (u : World) (hu : Ext w u) => withHand_any wide high mesh knot sa sc l mv hw hh u (by omega) (hs.mono hu))
  have HHN := hid (fun (u : World) => hand_any wide high mesh knot (.slice sa l.length sc) mv hw hh u)
  have HCU := hid (fun (wv : Value) (way : List Int) (hlen : way.length ≤ 500) (u : World) (hwy : IntsAt u wv way) => cut_any wide high mesh knot (.slice sa l.length sc) mv hw hh wv way hlen u hwy)
  have HMF : Hid (mendF l wide high = (mendTo (handTo l P P) P (P + 1)).2) := by show mendF _ _ _ = _; unfold mendF; rw [hP, Int.toNat_natCast]
  rw [hP] at HWH HHN HCU hm hlo
  rw [Int.toNat_natCast] at HWH
  clear hP hs
  have HLL : Hid ((handTo l P P).length ≤ 96) := by show _ ≤ _; unfold handTo; rw [List.length_append]; have := oddTo_len l P P; omega
  have HLO : Hid (∀ s ∈ handTo l P P, 0 ≤ s.lo ∧ s.lo ≤ P) := fun s hs => by
    unfold handTo oddTo at hs
    rw [List.mem_append, List.mem_flatMap] at hs
    rcases hs with hs | ⟨i, hi, hs⟩
    · exact hlo s hs
    · rw [List.mem_range] at hi
      split at hs
      · rw [List.mem_singleton] at hs; subst hs; exact ⟨by simp only; omega, by simp only; omega⟩
      · cases hs
  clear hlo
  gi_enter Try.func50, Try.ntmps50
  gi_upto_region 1 with fail
  have hW : Ext w (w.alloc (.cells #[.int .i64 wide, .int .i64 high, .slice sa l.length sc, .int .i64 mesh, .int .i64 knot, mv] 96)) := (Ext.refl _).alloc _
  have hW0 : (w.alloc (.cells #[.int .i64 wide, .int .i64 high, .slice sa l.length sc, .int .i64 mesh, .int .i64 knot, mv] 96)).heap[w.heap.size]? = some (.cells #[.int .i64 wide, .int .i64 high, .slice sa l.length sc, .int .i64 mesh, .int .i64 knot, mv] 96 (0, 0)) := by simp only [alloc_at, World.size_alloc]; (repeat rw [if_neg (by omega)]); first | rfl | rw [if_pos (by omega)] | rw [if_pos trivial]
  generalize w.alloc (.cells #[.int .i64 wide, .int .i64 high, .slice sa l.length sc, .int .i64 mesh, .int .i64 knot, mv] 96) = W at *
  have HX := hid hW
  have HB0 := hid hW0
  have hc0 := cell_of hW0
  clear hW hW0
  gi_upto_region 2 with (gi_at_call 68; ((with_reducible refine (HWH.out _ HX.out).mono ?_); rintro e n0 ⟨lv, rfl, hx1, hha⟩; have hspl := hha.spans hx1 (HS.out.mono HX.out) (by have := HLL.out; omega); obtain ⟨la, lc, hle, hlb⟩ := hspl; subst hle))
  have HBN := hid (hx1.block HB0.out)
  clear hc0 HB0
  have hx1a : Ext n0 (n0.alloc (.cells #[.slice la (handTo l P P).length lc] 22)) := (Ext.refl _).alloc _
  have hb1 : (n0.alloc (.cells #[.slice la (handTo l P P).length lc] 22)).heap[n0.heap.size]? = some (.cells #[.slice la (handTo l P P).length lc] 22 (0, 0)) := Ext.new (Ext.refl _)
  have HX0 := hid (HX.out.trans hx1)
  have hc1 := cell_of hb1
  have HB1 := hid hb1
  have HX1 := hid hx1a
  clear hb1 hx1a hx1
  generalize n0.alloc (.cells #[.slice la (handTo l P P).length lc] 22) = W1 at *
  obtain ⟨hh0, hhe⟩ : ∃ hl : List Spn, hl = handTo l P P := ⟨_, rfl⟩
  rw [← hhe] at HLL HLO HMF hc1 HB1 hlb ⊢
  have HHE := hid hhe
  clear hhe
  gi_upto_region 3 with (first | (gi_at_call 66; ((with_reducible refine (all_any la hh0.length lc HLL.out _).mono ?_); rintro e w2 ⟨rfl, hx2⟩)) | (refine wpIn_store_fresh (fun _ => trivial) 142 (.tmp 4) (.tmp 12) rfl (W := w2) (c' := boolArr fun i => decide (i < hh0.length)) rfl rfl rfl (by rw [boolArr_size]; kernel_rfl) (by rw [all_zero, boolArr_size, boolArr_size]) (boolArr_one _) ?_))
  gi_upto_region 7 with fail
  have hW : Ext w2 (((w2.alloc (.cells (boolArr fun i => decide (i < hh0.length)) 142)).alloc (.cells #[.slice none 0 0] 41)).alloc (.cells #[.func (.func 69) #[] #[.pointer (some ⟨n0.heap.size, 0, none⟩), .pointer (some ⟨w2.heap.size, 0, none⟩), .pointer (some ⟨w2.heap.size + 1 + 1, 0, none⟩), .pointer (some ⟨w2.heap.size + 1, 0, none⟩)]] 146)) := (((Ext.refl _).alloc _).alloc _).alloc _
  have hW0 : (((w2.alloc (.cells (boolArr fun i => decide (i < hh0.length)) 142)).alloc (.cells #[.slice none 0 0] 41)).alloc (.cells #[.func (.func 69) #[] #[.pointer (some ⟨n0.heap.size, 0, none⟩), .pointer (some ⟨w2.heap.size, 0, none⟩), .pointer (some ⟨w2.heap.size + 1 + 1, 0, none⟩), .pointer (some ⟨w2.heap.size + 1, 0, none⟩)]] 146)).heap[w2.heap.size]? = some (.cells (boolArr fun i => decide (i < hh0.length)) 142 (0, 0)) := by simp only [alloc_at, World.size_alloc]; (repeat rw [if_neg (by omega)]); first | rfl | rw [if_pos (by omega)] | rw [if_pos trivial]
  have hW1 : (((w2.alloc (.cells (boolArr fun i => decide (i < hh0.length)) 142)).alloc (.cells #[.slice none 0 0] 41)).alloc (.cells #[.func (.func 69) #[] #[.pointer (some ⟨n0.heap.size, 0, none⟩), .pointer (some ⟨w2.heap.size, 0, none⟩), .pointer (some ⟨w2.heap.size + 1 + 1, 0, none⟩), .pointer (some ⟨w2.heap.size + 1, 0, none⟩)]] 146)).heap[w2.heap.size + 1]? = some (.cells #[.slice none 0 0] 41 (0, 0)) := by simp only [alloc_at, World.size_alloc]; (repeat rw [if_neg (by omega)]); first | rfl | rw [if_pos (by omega)] | rw [if_pos trivial]
  have hW2 : (((w2.alloc (.cells (boolArr fun i => decide (i < hh0.length)) 142)).alloc (.cells #[.slice none 0 0] 41)).alloc (.cells #[.func (.func 69) #[] #[.pointer (some ⟨n0.heap.size, 0, none⟩), .pointer (some ⟨w2.heap.size, 0, none⟩), .pointer (some ⟨w2.heap.size + 1 + 1, 0, none⟩), .pointer (some ⟨w2.heap.size + 1, 0, none⟩)]] 146)).heap[w2.heap.size + 1 + 1]? = some (.cells #[.func (.func 69) #[] #[.pointer (some ⟨n0.heap.size, 0, none⟩), .pointer (some ⟨w2.heap.size, 0, none⟩), .pointer (some ⟨w2.heap.size + 1 + 1, 0, none⟩), .pointer (some ⟨w2.heap.size + 1, 0, none⟩)]] 146 (0, 0)) := by simp only [alloc_at, World.size_alloc]; (repeat rw [if_neg (by omega)]); first | rfl | rw [if_pos (by omega)] | rw [if_pos trivial]
  generalize ((w2.alloc (.cells (boolArr fun i => decide (i < hh0.length)) 142)).alloc (.cells #[.slice none 0 0] 41)).alloc (.cells #[.func (.func 69) #[] #[.pointer (some ⟨n0.heap.size, 0, none⟩), .pointer (some ⟨w2.heap.size, 0, none⟩), .pointer (some ⟨w2.heap.size + 1 + 1, 0, none⟩), .pointer (some ⟨w2.heap.size + 1, 0, none⟩)]] 146) = W5 at *
  have hBB : SpinB n0 (w2.heap.size + 3) n0.heap.size w2.heap.size (w2.heap.size + 1 + 1) (w2.heap.size + 1) := by
    have a1 := lt_of_block HB1.out
    have a2 := hx2.size
    exact ⟨⟨by omega, by omega, by omega, by omega⟩, ⟨by omega, by omega, by omega, by omega⟩, ⟨by omega, by omega, by omega, by omega, by omega⟩⟩
  have HJ : Hid (∃ way wv, SpinAt n0 (.slice la hh0.length lc) hh0 (w2.heap.size + 3) n0.heap.size w2.heap.size (w2.heap.size + 1 + 1) (w2.heap.size + 1) W5 (mendTo hh0 P 0).1 way wv ∧ PcsAt W5 (w2.heap.size + 3) W5.heap.size (.slice none 0 0) (mendTo hh0 P 0).2) := by
    have a1 := lt_of_block hW2
    exact ⟨[], .slice none 0 0, ⟨HX1.out.trans (hx2.trans hW), by omega, (hx2.trans hW).block HB1.out, hW0, hW2, hW1, Row.nil _ _ _, fun g hg => by simp [Value.ownBlock] at hg⟩, PcsAt.nil _ _ _⟩
  have HBB := hid hBB
  have hc0 := cell_of ((HX1.out.trans (hx2.trans hW)).block HBN.out)
  have HSPN := hid (fun (f : Nat) (k : Int) (L : Nat → Bool) (way : List Int) (wv : Value) (u : World) (hS : SpinAt n0 (.slice la hh0.length lc) hh0 (w2.heap.size + 3) n0.heap.size w2.heap.size (w2.heap.size + 1 + 1) (w2.heap.size + 1) u L way wv) => spin_any n0 (.slice la hh0.length lc) hh0 _ _ _ _ _ hBB ⟨la, lc, rfl, hlb⟩ HLL.out f k L way wv u hS)
  clear hW hW0 hW1 hW2 hBB hlb hx2
  gi_wp2_with (gi_at_call 70; ((with_reducible refine (HHN.out _).mono ?_); rintro e w6 ⟨rfl, hx6⟩))
  clear hc0
  have HJ : Hid (∃ way wv, SpinAt n0 (.slice la hh0.length lc) hh0 (w2.heap.size + 3) n0.heap.size w2.heap.size (w2.heap.size + 1 + 1) (w2.heap.size + 1) w6 (mendTo hh0 P 0).1 way wv ∧ PcsAt w6 (w2.heap.size + 3) w6.heap.size (.slice none 0 0) (mendTo hh0 P 0).2) := by
    obtain ⟨way, wv, h1, h2⟩ := HJ.out
    exact ⟨way, wv, h1.mono hx6, (h2.ext hx6).le hx6.size⟩
  clear hx6
  gi_loopw [7, 8] (fun v st wr => ∃ n : Nat, n ≤ P + 1 ∧ st = .int .i64 ((P : Int) - n) ∧ Hid (∃ way wv, SpinAt n0 (.slice la hh0.length lc) hh0 (w2.heap.size + 3) n0.heap.size w2.heap.size (w2.heap.size + 1 + 1) (w2.heap.size + 1) wr (mendTo hh0 P n).1 way wv ∧ PcsAt wr (w2.heap.size + 3) wr.heap.size v (mendTo hh0 P n).2)) (fun _ st _ => (intOf st + 1).toNat)
  case atStart => exact ⟨0, Nat.zero_le _, by simp, HJ.out⟩
  case round =>
    obtain ⟨n, hn, rfl, HJ2⟩ := hrel
    clear HJ
    obtain ⟨way, wv, hS, hP⟩ := HJ2.out
    clear HJ2
    have HID := hid (fun h => mendTo_idle (l := hh0) (P := P) (n := n) h)
    have HALL := hid (mendTo_all (l := hh0) (P := P) HLO.out)
    have HLF := hid (fun j h => mendTo_left hh0 P n j h)
    have HN1 : Hid (mendTo hh0 P (n + 1) = ((spinF hh0 97 ((P : Int) - n) ((mendTo hh0 P n).1, [])).1, (mendTo hh0 P n).2 ++ cutF P (spinF hh0 97 ((P : Int) - n) ((mendTo hh0 P n).1, [])).2)) := rfl
    have HML := hid (mendTo_len HLL.out P n)
    have HSL := hid (spinF_len HLL.out 97 ((P : Int) - n) (mendTo hh0 P n).1)
    have HPS := hid (And.intro hS hP)
    have hl := hS.left
    have heq := run_equal_bools (mendTo hh0 P n).1 (fun _ => false) wr
    rw [← all_zero] at heq
    clear hS hP
    cases hA : allTo (fun i => (mendTo hh0 P n).1 i == false) 96
    case true =>
      rw [hA] at heq
      have hall : ∀ j, (mendTo hh0 P n).1 j = false := fun j => by
        cases hj : (mendTo hh0 P n).1 j
        · rfl
        · have h1 := HLF.out j hj
          have h2 := List.all_eq_true.1 hA j (List.mem_range.2 (by have := HLL.out; omega))
          rw [hj] at h2; cases h2
      have HF : Hid (mendF l wide high = (mendTo hh0 P n).2) := by show _ = _; rw [HMF.out]; exact (HID.out hall (P + 1) hn).1
      clear hA hall
      gi_wp2_with (refine wpIn_load_bools (.tmp 4) rfl (fun _ => trivial) rfl hl ?_)
      go_ret
      refine ⟨_, rfl, HX0.out.trans HPS.out.1.ext, ?_⟩
      rw [HF.out]
      exact ⟨HPS.out.2.vals, fun g hg => by have := HPS.out.2.own g hg; have := HX0.out.size; have := HBB.out.lt.1; omega⟩
    case false =>
      rw [hA] at heq
      have hnP : n ≤ P := by
        rcases Nat.lt_or_ge P n with h | h
        · obtain rfl : n = P + 1 := by omega
          exfalso
          have : allTo (fun i => (mendTo hh0 P (P + 1)).1 i == false) 96 = true := allTo_yes fun i _ => by rw [HALL.out i]; rfl
          rw [this] at hA; cases hA
        · exact h
      clear hA
      have hd4 := cell_of HPS.out.1.wayb
      have hf4 := free_of HPS.out.1.wayb
      have hne := HBB.out.ne
      have hltb := HBB.out.lt
      have hn1 := HBB.out.n1
      obtain ⟨WS, hWS⟩ : ∃ WS, WS = wr.setCell ⟨w2.heap.size + 1, 0, none⟩ (.slice none 0 0) := ⟨_, rfl⟩
      have HS2 : Hid (SpinAt n0 (.slice la hh0.length lc) hh0 (w2.heap.size + 3) n0.heap.size w2.heap.size (w2.heap.size + 1 + 1) (w2.heap.size + 1) WS (mendTo hh0 P n).1 [] (.slice none 0 0)) := by
        rw [hWS]
        have h := HPS.out.1
        refine ⟨h.ext.set (by omega) _ _, by have := h.size; simpa using this, ?_, ?_, ?_, set_same h.wayb 0 _, Row.nil _ _ _, fun g hg => by simp [Value.ownBlock] at hg⟩
        · rw [set_other (by omega)]; exact h.list
        · rw [set_other (by omega)]; exact h.left
        · rw [set_other (by omega)]; exact h.spin
      have HP2 : Hid (PcsAt WS (w2.heap.size + 3) WS.heap.size u7 (mendTo hh0 P n).2) := by
        rw [hWS]
        refine HPS.out.2.kept (by simp) (fun k o hk ho => by rw [set_other (by omega)]; exact ho) (fun k cs ho => ?_)
        rw [set_other (by rintro rfl; rw [HPS.out.1.wayb] at ho; cases ho)]; exact ho
      have hcnt := cnt_le (mendTo hh0 P n).1 hh0.length
      have HIH := hid (HSPN.out 97 ((P : Int) - n) (mendTo hh0 P n).1 [] _ WS HS2.out (by have := HLL.out; omega) (by have := HLL.out; simp; omega))
      have hsp := cell_of HS2.out.spin
      rw [hWS] at hsp HIH
      have HWS := hid hWS
      clear hWS hcnt
      gi_wp2_with (first | (refine wpIn_load_bools (.tmp 4) rfl (fun _ => trivial) rfl hl ?_) | (gi_at_call 69; ((with_reducible refine HIH.out.mono ?_); rintro e w3 ⟨rfl, wv3, hS3, hK3⟩; have hc0 := cell_of (hS3.ext.block HBN.out); have hd5 := cell_of hS3.wayb; have HIY := hid (ints_row hS3.row (by have := HSL.out; omega)))) | (gi_at_call 71; ((with_reducible refine (HCU.out _ _ (by have := HSL.out; omega) _ HIY.out).mono ?_); rintro e w4 ⟨cv, rfl, hx4, hP4⟩; have HP3 : Hid (PcsAt w4 (w2.heap.size + 3) w4.heap.size u7 (mendTo hh0 P n).2) := (((HP2.out.kept (nb' := w3.heap.size) (by rw [HWS.out]; exact hK3.size) (fun k o hk ho => hK3.keep k o (by rw [← HWS.out]; exact ho) (by omega) (by omega) (fun e => by simp [Value.ownBlock] at e)) (fun k cs ho => hK3.keep k _ (by rw [← HWS.out]; exact ho) (by rintro rfl; rw [HS2.out.left] at ho; cases ho) (by rintro rfl; rw [HS2.out.wayb] at ho; cases ho) (fun e => by simp [Value.ownBlock] at e))).ext hx4).le hx4.size); obtain ⟨v', w', hrun, hP5, hgr⟩ := pcs_append_many HP3.out hP4 (by have := HML.out; omega) (by have h1 := cutF_len P (spinF hh0 97 ((P : Int) - n) ((mendTo hh0 P n).1, [])).2; have := HSL.out; omega) (Nat.le_trans hS3.size hx4.size))) | (refine wpIn_append_at (fun _ => trivial) rfl w4 (.tmp 24) (.tmp 27) 25 rfl (by with_reducible rfl) hrun rfl rfl rfl ?_))
      have hS4 := hS3.mono hx4
      have hown := HP3.out.own
      have hkb : ∀ j o, j < w2.heap.size + 3 → w4.heap[j]? = some o → w'.heap[j]? = some o := fun j o hj ho => grownBy_block hgr ho (fun e => by have := hown j e.symm; omega)
      refine ⟨⟨n + 1, by omega, by rw [show ((P : Int) - ((n + 1 : Nat) : Int)) = (P : Int) - n - 1 by omega], (spinF hh0 97 ((P : Int) - n) ((mendTo hh0 P n).1, [])).2, wv3, ?_, by rw [HN1.out]; exact hP5⟩, by simp [intOf]; omega⟩
      rw [HN1.out]
      refine ⟨Below.trans hS4.ext ⟨hgr.os, hgr.tape, hgr.output, hgr.size, fun j hj => hgr.block j (Nat.lt_of_lt_of_le hj hS4.ext.size) (fun e => by have := hown j e.symm; omega)⟩, Nat.le_trans hS4.size hgr.size, hkb _ _ hltb.1 hS4.list, hkb _ _ hltb.2.1 hS4.left, hkb _ _ hltb.2.2.1 hS4.spin, hkb _ _ hltb.2.2.2 hS4.wayb, hS4.row.kept fun k o hk ho => grownBy_block hgr ho fun e => ?_, hS4.own⟩
      obtain ⟨⟨vals, _, h2, _⟩, _⟩ := HP3.out
      obtain ⟨cs, fz, rfl⟩ := row_ty hS4.row hk ho
      obtain ⟨cs', fz', e'⟩ := row_ty h2 e.symm ho
      cases e'



/-- As many different things as lie in a list are no more than it has. -/
theorem nodup_len {α : Type} [DecidableEq α] : ∀ (l m : List α), l.Nodup → (∀ x ∈ l, x ∈ m) → l.length ≤ m.length
  | [], _, _, _ => Nat.zero_le _
  | a :: l, m, hn, hs => by
    have ha := hs a (by simp)
    rw [List.nodup_cons] at hn
    have := nodup_len l (m.erase a) hn.2 fun x hx => (List.mem_erase_of_ne (fun e => hn.1 (by rw [← e]; exact hx))).2 (hs x (by simp [hx]))
    rw [List.length_erase_of_mem ha] at this
    have hp := List.length_pos_of_mem ha
    simp only [List.length_cons]
    omega
/-- All bars of a net. -/
def allBars (wide high : Nat) : List (Int × Int) := (List.range (wide * high)).flatMap fun k => (if (k + 1) % wide != 0 then [((k : Int), (k : Int) + 1)] else []) ++ (if k + wide < wide * high then [((k : Int), (k : Int) + wide)] else [])
theorem allBars_len : ∀ wide high : Nat, 2 ≤ wide → wide ≤ 6 → 2 ≤ high → high ≤ 6 → (allBars wide high).length ≤ 60 := by
  have h : ∀ a ∈ [2, 3, 4, 5, 6], ∀ b ∈ [2, 3, 4, 5, 6], (allBars a b).length ≤ 60 := by decide
  intro a b h1 h2 h3 h4
  exact h a (by simp; omega) b (by simp; omega)
theorem isBar_mem {wide high : Nat} (hw : 2 ≤ wide) {b : Spn} (h : isBarB wide high b = true) : (b.lo, b.hi) ∈ allBars wide high ∧ 0 ≤ b.lo ∧ b.lo ≤ (wide : Int) * high := by
  unfold isBarB at h
  simp only [Bool.and_eq_true, Bool.or_eq_true, beq_iff_eq, bne_iff_ne] at h
  have h1 := inB_spec h.1
  have h2 := inB_spec h.2.1
  have h3 := h.2.2
  obtain ⟨f, g⟩ := b
  simp only at *
  obtain ⟨k, rfl⟩ : ∃ k : Nat, f = k := ⟨f.toNat, by omega⟩
  have hp : ((wide * high : Nat) : Int) = (wide : Int) * high := by push_cast; rfl
  refine ⟨?_, by omega, by omega⟩
  unfold allBars
  rw [List.mem_flatMap]
  refine ⟨k, by rw [List.mem_range]; omega, ?_⟩
  rw [List.mem_append]
  rcases h3 with rfl | ⟨rfl, hne⟩
  · exact .inr (by rw [if_pos (by omega)]; simp)
  · refine .inl ?_
    have h9 : (((k + 1) % wide : Nat) : Int) = ((k : Int) + 1) % wide := by push_cast; rfl
    rw [if_pos (by rw [bne_iff_ne]; intro e; exact hne (by rw [← h9, e]; rfl))]
    simp
theorem barMap_has (l : List Spn) {i k : Nat} (hik : i < k) (hk : k ≤ l.length) : ((barMapTo l k).find (barKey (l[i]'(by omega)))).isSome = true := by
  unfold PMap.find
  rw [Option.isSome_map, List.find?_isSome]
  refine ⟨(barKey (l[i]'(by omega)), (i : Int)), ?_, by simp⟩
  unfold barMapTo
  rw [List.mem_map]
  exact ⟨i, List.mem_range.2 hik, by rw [getD_of (by omega)]⟩
theorem torn_ok {T : TornD} (h : tornB T = true) : (2 ≤ T.wide ∧ T.wide ≤ 6) ∧ (2 ≤ T.high ∧ T.high ≤ 6) ∧ (1 ≤ T.mesh ∧ T.mesh ≤ 100) ∧ (0 ≤ T.knot ∧ T.knot ≤ 100) ∧ T.bars.length ≤ 60 ∧ ∀ s ∈ T.bars, isBarB T.wide T.high s = true := by
  unfold tornB tornHeadB at h
  simp only [Bool.and_eq_true] at h
  obtain ⟨⟨h1, h2, h3, h4⟩, h5⟩ := h
  have g1 := inB_spec h1
  have g2 := inB_spec h2
  have hgood : ∀ i (hi : i < T.bars.length), ((barMapTo T.bars i).find (barKey T.bars[i])).isNone = true ∧ isBarB T.wide T.high T.bars[i] = true := fun i hi => by
    have := List.all_eq_true.1 h5 i (List.mem_range.2 hi)
    rw [barGood_eq hi, Bool.and_eq_true] at this
    exact this
  have hall : ∀ s ∈ T.bars, isBarB T.wide T.high s = true := fun s hs => by
    obtain ⟨i, hi, rfl⟩ := List.getElem_of_mem hs
    exact (hgood i hi).2
  refine ⟨g1, g2, inB_spec h3, inB_spec h4, ?_, hall⟩
  obtain ⟨a, ha⟩ : ∃ a : Nat, T.wide = a := ⟨T.wide.toNat, by omega⟩
  obtain ⟨b, hb⟩ : ∃ b : Nat, T.high = b := ⟨T.high.toNat, by omega⟩
  have hn : (T.bars.map fun s => (s.lo, s.hi)).Nodup := by
    rw [List.nodup_iff_pairwise_ne, List.pairwise_iff_getElem]
    intro i j hi hj hij e
    simp only [List.length_map, List.getElem_map] at hi hj e
    have h6 := (hgood j hj).1
    have h7 := barMap_has T.bars hij (Nat.le_of_lt hj)
    have e2 : barKey T.bars[i] = barKey T.bars[j] := e
    rw [e2] at h7
    cases hh : (barMapTo T.bars j).find (barKey T.bars[j]) <;> rw [hh] at h6 h7 <;> simp at h6 h7
  have := nodup_len _ (allBars a b) hn fun x hx => by
    rw [List.mem_map] at hx
    obtain ⟨s, hs, rfl⟩ := hx
    have := hall s hs
    rw [ha, hb] at this
    exact (isBar_mem (by omega) this).1
  have hl := allBars_len a b (by omega) (by omega) (by omega) (by omega)
  rw [List.length_map] at this
  omega



theorem newTorn_no (T : TornD) (hT : tornB T = false) (sv : Value) (w : World) (hs : SpansAt w sv T.bars) : Cal 44 #[.agg #[.int .i64 T.wide, .int .i64 T.high, sv, .int .i64 T.mesh, .int .i64 T.knot]] w fun e w' => e = .returned (.tuple #[.agg #[.int .i64 0, .int .i64 0, .slice none 0 0, .int .i64 0, .int .i64 0, .map none], .int .i64 23]) ∧ Ext w w' := by
  cases hh : tornHeadB T
  · exact newTorn_head T hh sv w hs
  · refine (newTorn_any T hh sv w hs).mono ?_
    rintro e w' ⟨hx, h⟩
    rcases h with ⟨_, rfl⟩ | ⟨h, _⟩
    · exact ⟨rfl, hx⟩
    · rw [hT] at h; cases h
theorem newTorn_yes (T : TornD) (hT : tornB T = true) (sv : Value) (w : World) (hs : SpansAt w sv T.bars) : Cal 44 #[.agg #[.int .i64 T.wide, .int .i64 T.high, sv, .int .i64 T.mesh, .int .i64 T.knot]] w fun e w' => Ext w w' ∧ ∃ bm, e = .returned (.tuple #[.agg #[.int .i64 T.wide, .int .i64 T.high, sv, .int .i64 T.mesh, .int .i64 T.knot, .map (some bm)], .int .i64 0]) ∧ MapBlk w' bm (barMapTo T.bars T.bars.length) := by
  have hh : tornHeadB T = true := by unfold tornB at hT; rw [Bool.and_eq_true] at hT; exact hT.1
  refine (newTorn_any T hh sv w hs).mono ?_
  rintro e w' ⟨hx, h⟩
  rcases h with ⟨h, _⟩ | ⟨_, h⟩
  · rw [hT] at h; cases h
  · exact ⟨hx, h⟩
def tornE (T : TornD) : Int := if tornB T then 0 else 23
set_option maxRecDepth 100000 in
set_option maxHeartbeats 1000000 in
theorem CheckTorn_any (T : TornD) (sv : Value) (w : World) (hs : SpansAt w sv T.bars) : Cal 14 #[.agg #[.int .i64 T.wide, .int .i64 T.high, sv, .int .i64 T.mesh, .int .i64 T.knot]] w fun e w' => e = .returned (.int .i64 (tornE T)) ∧ Ext w w' := by
  have hx0 : Ext w (w.alloc (.cells #[.int .i64 T.wide, .int .i64 T.high, sv, .int .i64 T.mesh, .int .i64 T.knot] 24)) := (Ext.refl _).alloc _
  have HS := hid (hs.mono hx0)
  obtain ⟨sa, sc, rfl, _, _⟩ := hs
  cases hT : tornB T
  case false =>
    have HC : Hid (tornE T = 23) := by show tornE T = 23; unfold tornE; rw [hT]; rfl
    gi_enter Try.func14, Try.ntmps14
    gi_wp2_with (gi_at_call 44; ((with_reducible refine (newTorn_no T hT _ _ HS.out).mono ?_); rintro e w1 ⟨rfl, hx1⟩))
    go_ret
    exact ⟨by rw [HC.out]; rfl, (hx0.trans hx1).alloc _⟩
  case true =>
    have HC : Hid (tornE T = 0) := by show tornE T = 0; unfold tornE; rw [hT]; rfl
    gi_enter Try.func14, Try.ntmps14
    gi_wp2_with (gi_at_call 44; ((with_reducible refine (newTorn_yes T hT _ _ HS.out).mono ?_); rintro e w1 ⟨hx1, bm, rfl, hm⟩))
    go_ret
    exact ⟨by rw [HC.out]; rfl, (hx0.trans hx1).alloc _⟩
def mendE (T : TornD) : Int := if tornB T then (if T.bars.length = 0 then 4 else 0) else 23
def mendV (T : TornD) : List (List Int) := if mendE T = 0 then mendF T.bars T.wide T.high else []
set_option maxRecDepth 100000 in
set_option maxHeartbeats 2000000 in
theorem Mend_any (T : TornD) (sv : Value) (w : World) (hs : SpansAt w sv T.bars) : Cal 18 #[.agg #[.int .i64 T.wide, .int .i64 T.high, sv, .int .i64 T.mesh, .int .i64 T.knot]] w fun e w' => ∃ v, e = .returned (.tuple #[v, .int .i64 (mendE T)]) ∧ Ext w w' ∧ PcsAt w' w.heap.size w'.heap.size v (mendV T) := by
  have hx0 : Ext w (w.alloc (.cells #[.int .i64 T.wide, .int .i64 T.high, sv, .int .i64 T.mesh, .int .i64 T.knot] 24)) := (Ext.refl _).alloc _
  have HS := hid (hs.mono hx0)
  obtain ⟨sa, sc, rfl, _, _⟩ := hs
  cases hT : tornB T
  case false =>
    have HC : Hid (mendE T = 23) := by show mendE T = 23; unfold mendE; rw [hT]; rfl
    gi_enter Try.func18, Try.ntmps18
    gi_wp2_with (gi_at_call 44; ((with_reducible refine (newTorn_no T hT _ _ HS.out).mono ?_); rintro e w1 ⟨rfl, hx1⟩))
    refine bodyPost_ret (v := .tuple #[.slice none 0 0, .int .i64 23]) (by simp [results, Try.results18, go_sem]) rfl ?_
    refine ⟨.slice none 0 0, by rw [HC.out], (hx0.trans hx1).alloc _, ?_⟩
    unfold mendV
    rw [HC.out]
    exact PcsAt.nil _ _ _
  case true =>
    have hok := torn_ok hT
    have HOK := hid hok
    by_cases hz : T.bars.length = 0
    · have HC : Hid (mendE T = 4) := by show mendE T = 4; unfold mendE; rw [hT, if_pos rfl, if_pos hz]
      have hzi : ((T.bars.length : Int) == 0) = true := by rw [beq_iff_eq]; omega
      clear hok hz
      gi_enter Try.func18, Try.ntmps18
      gi_wp2_with (gi_at_call 44; ((with_reducible refine (newTorn_yes T hT _ _ HS.out).mono ?_); rintro e w1 ⟨hx1, bm, rfl, hm⟩))
      refine bodyPost_ret (v := .tuple #[.slice none 0 0, .int .i64 4]) (by simp [results, Try.results18, go_sem]) rfl ?_
      refine ⟨.slice none 0 0, by rw [HC.out], (hx0.trans hx1).alloc _, ?_⟩
      unfold mendV
      rw [HC.out]
      exact PcsAt.nil _ _ _
    · have HC : Hid (mendE T = 0) := by show mendE T = 0; unfold mendE; rw [hT, if_pos rfl, if_neg hz]
      have hzi : ((T.bars.length : Int) == 0) = false := by rw [beq_eq_false_iff_ne]; omega
      have HLO : Hid (∀ s ∈ T.bars, 0 ≤ s.lo ∧ s.lo ≤ T.wide * T.high) := fun s hs => by
        obtain ⟨a, ha⟩ : ∃ a : Nat, T.wide = a := ⟨T.wide.toNat, by have := hok.1; omega⟩
        obtain ⟨b, hb⟩ : ∃ b : Nat, T.high = b := ⟨T.high.toNat, by have := hok.2.1; omega⟩
        have := hok.2.2.2.2.2 s hs
        rw [ha, hb] at this ⊢
        have hh := isBar_mem (by have := hok.1; omega) this
        exact hh.2
      clear hok hz
      gi_enter Try.func18, Try.ntmps18
      gi_wp2_with (first | (gi_at_call 44; ((with_reducible refine (newTorn_yes T hT _ _ HS.out).mono ?_); rintro e w1 ⟨hx1, bm, rfl, hm⟩)) | (gi_at_call 50; ((with_reducible refine (mend_any T.wide T.high T.mesh T.knot sa sc T.bars (.map (some bm)) HOK.out.1 HOK.out.2.1 _ HOK.out.2.2.2.2.1 HLO.out ((HS.out.mono hx1).mono ((Ext.refl w1).alloc _))).mono ?_); rintro e w2 ⟨v, rfl, hx2, hp⟩)))
      refine bodyPost_ret (v := .tuple #[v, .int .i64 0]) (by simp [results, Try.results18, go_sem]) rfl ?_
      refine ⟨v, by rw [HC.out], ((hx0.trans hx1).alloc _).trans hx2, ?_⟩
      unfold mendV
      rw [HC.out, if_pos rfl]
      exact ⟨hp.vals, fun g hg => by have := hp.own g hg; have := ((hx0.trans hx1).alloc (.cells #[.int .i64 T.wide, .int .i64 T.high, .slice sa T.bars.length sc, .int .i64 T.mesh, .int .i64 T.knot, .map (some bm)] 96)).size; omega⟩

end Go.Proofs.Ytmjelgonhpgmbaa
