/- The places that a cast does not cover. -/
import Derived.Test.YtiklblbjnblkfaaWH
set_option linter.unusedSimpArgs false
set_option linter.unusedVariables false
namespace Go.Proofs.Ytiklblbjnblkfaa
open Go Go.RowKit Go.Shelf

def flatP (ps : List (Int × Int)) : List Value := ps.flatMap fun p => [.int .i64 p.1, .int .i64 p.2]
theorem flatP_append (ps qs : List (Int × Int)) : flatP (ps ++ qs) = flatP ps ++ flatP qs := by unfold flatP; rw [List.flatMap_append]
theorem flatP_length (ps : List (Int × Int)) : (flatP ps).length = ps.length * 2 := by
  induction ps with
  | nil => rfl
  | cons p ps ih => show (flatP ([p] ++ ps)).length = _; rw [flatP_append, List.length_append, ih]; simp [flatP]; omega
theorem flatP_get : ∀ (ps : List (Int × Int)) (i : Nat) (h : i < ps.length), (flatP ps)[i * 2]? = some (.int .i64 ps[i].1) ∧ (flatP ps)[i * 2 + 1]? = some (.int .i64 ps[i].2)
  | p :: ps, 0, _ => ⟨rfl, rfl⟩
  | p :: ps, i + 1, h => by
    have := flatP_get ps i (by simpa using h)
    have e : flatP (p :: ps) = Value.int .i64 p.1 :: Value.int .i64 p.2 :: flatP ps := rfl
    rw [e, show (i + 1) * 2 = i * 2 + 1 + 1 by omega, show i * 2 + 1 + 1 + 1 = (i * 2 + 1) + 1 + 1 by omega]
    simpa using this
/-- Places in memory. -/
def PlacesAt (w : World) (v : Value) (ps : List (Int × Int)) : Prop :=
  ∃ a cap, v = .slice a ps.length cap ∧ ps.length ≤ 1000000 ∧ ∀ i (h : i < ps.length), ∃ b off, a = some ⟨b, off, none⟩ ∧ b < w.heap.size ∧ w.cell? ⟨b, off + i * 2, none⟩ = some (.int .i64 ps[i].1) ∧ w.cell? ⟨b, off + i * 2 + 1, none⟩ = some (.int .i64 ps[i].2)
theorem PlacesAt.mono {w w' : World} {v : Value} {ps : List (Int × Int)} (h : PlacesAt w v ps) (hx : Ext w w') : PlacesAt w' v ps := by
  obtain ⟨a, cap, hv, hl, hc⟩ := h
  refine ⟨a, cap, hv, hl, fun i hi => ?_⟩
  obtain ⟨b, off, ha, hb, h0, h1⟩ := hc i hi
  exact ⟨b, off, ha, Nat.lt_of_lt_of_le hb hx.size, by rw [hx.cell (p := ⟨b, _, none⟩) hb]; exact h0, by rw [hx.cell (p := ⟨b, _, none⟩) hb]; exact h1⟩
theorem PlacesAt.of_row {w : World} {v : Value} {ps : List (Int × Int)} (h : Row w 81 2 v ps.length (flatP ps)) (hl : ps.length ≤ 1000000) : PlacesAt w v ps := by
  obtain ⟨_, h⟩ := h
  rcases h with ⟨rfl, h0⟩ | ⟨g, cap, cur, rfl, hg, h1, h2, h3, h4⟩
  · exact ⟨none, 0, by rw [h0], hl, fun i hi => by omega⟩
  · refine ⟨_, cap, rfl, hl, fun i hi => ⟨g, 0, rfl, lt_of_block hg, ?_⟩⟩
    have hget := flatP_get ps i hi
    have key : ∀ j, j < ps.length * 2 → cur[j]? = (flatP ps)[j]? := fun j hj => by
      rw [← h4, List.getElem?_take, if_pos hj, Array.getElem?_toList]
    rw [Nat.zero_add, cell_of hg, cell_of hg, key _ (by omega), key _ (by omega)]
    exact hget

/-- One element is appended. -/
theorem wpIn_append_row {F : Fence} {n0 : Nat} (hF : ∀ f, F.fn f) (hn : F.depth = none) {o : Oper} {act : Act} {w : World} {K : Act → World → Prop} {Q : Exit → Act → World → Prop} (s x : Operand) {t T : TypeId} {sz bytes : Nat} {i : TypeInfo} {z : Value}
    (ho : o.op = .call { callee := .builtin .append, args := #[s, x], argTypes := #[t, t] })
    (ht : Try.prog.underlying t = some (.slice T)) (hi : Try.prog.info? T = some i) (hz : i.zero = some z) (hs : i.size = sz) (hby : i.bytes = bytes) (hzs : z.cells.size = sz) (hsz : 0 < sz)
    {v : Value} {n : Nat} {xs : List Value} (hv : act.eval s = v) (h : Row w T sz v n xs) (a : Addr) (c : Nat) (hx : act.eval x = .slice (some a) 1 c) (news : List Value) (hl : news.length = sz) (hnews : ∀ j u, news[j]? = some u → w.cell? (a.add j) = some u) (h1 : ∀ u ∈ news, u.oneCell' = true)
    (h63 : n + 1 ≤ 1000000000) (hbytes : bytes ≤ 1000)
    (hK : ∀ v' w', Row w' T sz v' (n + 1) (xs ++ news) → w.grownBy w' v.ownBlock → (v'.ownBlock = v.ownBlock ∨ v'.ownBlock = some w.heap.size) → K (act.put o.dst v') w') : o.wpIn F n0 Try.prog act w K Q := by
  obtain ⟨v', w', hrun, hrow, hgr, how, _⟩ := append_row (ty := o.type) ht hi hz hs hby hzs hsz h a c news hl hnews h1 h63 hbytes
  exact wpIn_of_gives (R := fun u u' => u = w → u' = w' ) (V := fun u u' => u = v' ∧ u' = w') hF hn (gives_append s x t ho hv hx hrun ⟨⟨rfl, rfl⟩, fun _ => rfl⟩) fun u u' hu _ => by
    rw [hu.1, hu.2]; exact hK v' w' hrow hgr how
theorem info81 : (Try.prog.info? 81).map (fun i => (i.zero, i.size, i.bytes)) = some (some (.agg #[.int .i64 0, .int .i64 0]), 2, 16) := by kernel_rfl

/-- The places that the cast does not cover. -/
def leftOf (cc cr far : Int) (ps : List (Int × Int)) : List (Int × Int) := ps.filter fun p => !decide (dist cc cr p.1 p.2 ≤ far)

set_option maxRecDepth 100000 in
set_option maxHeartbeats 1000000 in
theorem without_any (cell far cc cr : Int) (v : Value) (ps : List (Int × Int)) (w : World) (hp : PlacesAt w v ps) (hc : -1000 ≤ cc ∧ cc ≤ 1000) (hr : -1000 ≤ cr ∧ cr ≤ 1000) (hb : ∀ p ∈ ps, (-1000 ≤ p.1 ∧ p.1 ≤ 1000) ∧ (-1000 ≤ p.2 ∧ p.2 ≤ 1000)) :
    Cal 93 #[v, .agg #[.int .i64 cell, .int .i64 far, .int .i64 cc, .int .i64 cr], .func (.func 94) #[] #[]] w fun e w' => ∃ v', e = .returned v' ∧ Ext w w' ∧ Hid (Row w' 81 2 v' (leftOf cc cr far ps).length (flatP (leftOf cc cr far ps))) := by
  obtain ⟨a, cap, rfl, hlen, hcs⟩ := hp
  have HP := hid hcs
  have HB := hid hb
  clear hcs hb
  gi_enter Try.func93, Try.ntmps93
  gi_wp2_with fail
  have h24 : (leftOf cc cr far ps).length ≤ ps.length := List.length_filter_le _ _
  have hx1 : Ext w (w.alloc (.cells #[.int .i64 cell, .int .i64 far, .int .i64 cc, .int .i64 cr] 104)) := (Ext.refl w).alloc _
  have hnew : (w.alloc (.cells #[.int .i64 cell, .int .i64 far, .int .i64 cc, .int .i64 cr] 104)).heap[w.heap.size]? = some (.cells #[.int .i64 cell, .int .i64 far, .int .i64 cc, .int .i64 cr] 104 (0, 0)) := Ext.new (Ext.refl _)
  gi_loopw [7, 12] (fun v i wr => ∃ k : Nat, k ≤ ps.length ∧ i = .int .i64 k ∧ Hid (Ext w wr ∧ wr.heap[w.heap.size]? = some (.cells #[.int .i64 cell, .int .i64 far, .int .i64 cc, .int .i64 cr] 104 (0, 0)) ∧
    Row wr 81 2 v (leftOf cc cr far (ps.take k)).length (flatP (leftOf cc cr far (ps.take k))) ∧ ∀ g, v.ownBlock = some g → w.heap.size < g)) (fun _ i _ => ps.length - (intOf i).toNat)
  case atStart => exact ⟨0, Nat.zero_le _, rfl, hx1, hnew, Row.nil _ _ _, fun g hg => by simp [Value.ownBlock] at hg⟩
  case round =>
    clear hx1 hnew
    obtain ⟨k, hk, rfl, hI⟩ := hrel
    by_cases hlt : k < ps.length
    · obtain ⟨b, off, rfl, hbl, hc0, hc1⟩ := HP.out k hlt
      have hpb := HB.out ps[k] (List.getElem_mem _)
      rw [← Below.cell hI.out.1 (p := ⟨b, _, none⟩) hbl] at hc0 hc1
      have htk : leftOf cc cr far (ps.take (k + 1)) = leftOf cc cr far (ps.take k) ++ (if decide (dist cc cr ps[k].1 ps[k].2 ≤ far) then [] else [ps[k]]) := by
        unfold leftOf
        rw [List.take_succ_eq_append_getElem hlt, List.filter_append]
        congr 1
        by_cases h : dist cc cr ps[k].1 ps[k].2 ≤ far <;> simp [h]
      have hll : (leftOf cc cr far (ps.take k)).length ≤ k := Nat.le_trans (List.length_filter_le _ _) (List.length_take_le _ _)
      generalize ps[k] = p at *
      obtain ⟨px, py⟩ := p
      simp only at hc0 hc1 hpb htk
      have HT := hid htk
      have hcb := cell_of (Ext.block ((Ext.refl wr).alloc (.cells #[.int .i64 px, .int .i64 py] 81)) hI.out.2.1)
      have HCV := hid (covers_any cell far cc cr px py (wr.alloc (.cells #[.int .i64 px, .int .i64 py] 81)) hc hr hpb.1 hpb.2)
      clear htk hpb
      cases hd : decide (dist cc cr px py ≤ far) with
      | true =>
        rw [hd] at HCV HT
        clear hd
        gi_wp2_with (gi_at_call 94; ((with_reducible refine HCV.out.mono ?_); rintro e w3 ⟨rfl, hx3⟩))
        have hx : Ext wr w3 := Ext.after hx3
        go_roundw
        case rel => exact ⟨k + 1, by omega, by go_num, hI.out.1.trans hx, hx.block hI.out.2.1, by rw [HT.out]; simpa using hI.out.2.2.1.mono hx, hI.out.2.2.2⟩
        case measure => simp [intOf]; omega
      | false =>
        rw [hd] at HCV HT
        clear hd
        obtain ⟨i0, hi0, hz0, hz1, hz2⟩ := info_parts info81
        have HZ := hid (And.intro hi0 (And.intro hz0 (And.intro hz1 hz2)))
        clear hi0 hz0 hz1 hz2
        have hmax : (leftOf cc cr far (ps.take k)).length + 1 ≤ 1000000000 := by omega
        gi_wp2_with (first | (refine wpIn_append_row (fun _ => trivial) rfl (.tmp 21) (.tmp 23) rfl Try.underlying99 HZ.out.1 HZ.out.2.1 HZ.out.2.2.1 HZ.out.2.2.2 (by simp [Value.cells]) (by omega) (v := u7) rfl HRW.out ⟨w3.heap.size, 0, none⟩ 1 rfl [.int .i64 px, .int .i64 py] rfl HNW.out (fun u hu => by simp at hu; rcases hu with rfl | rfl <;> rfl) hmax (by omega) ?_; intro v' w' hrow' hgr' how') | (gi_at_call 94; ((with_reducible refine HCV.out.mono ?_); rintro e w3 ⟨rfl, hx3⟩; have hnp := cell_of (Ext.new hx3); have HRW := hid ((hI.out.2.2.1.mono (Ext.after hx3)).mono ((Ext.refl w3).alloc (.cells #[.int .i64 px, .int .i64 py] 81))); have HNW : Hid (∀ j u, [Value.int .i64 px, .int .i64 py][j]? = some u → (w3.alloc (.cells #[.int .i64 px, .int .i64 py] 81)).cell? ((⟨w3.heap.size, 0, none⟩ : Addr).add j) = some u) := (fun j u hj => by rw [Addr.add_mid, Nat.zero_add, new_cell _ _ rfl]; simpa using hj))))
        have hx : Ext w (w3.alloc (.cells #[.int .i64 px, .int .i64 py] 81)) := (hI.out.1.trans (Ext.after hx3)).alloc _
        have hsz : w.heap.size ≤ (w3.alloc (.cells #[.int .i64 px, .int .i64 py] 81)).heap.size := hx.size
        have hbel : Ext w w' := Below.trans hx ⟨hgr'.os, hgr'.tape, hgr'.output, hgr'.size, fun j hj => hgr'.block j (by omega) (fun e => by have := hI.out.2.2.2 j e.symm; omega)⟩
        have hbox := grownBy_block hgr' (Ext.block ((Ext.refl w3).alloc (.cells #[.int .i64 px, .int .i64 py] 81)) ((Ext.after hx3).block hI.out.2.1)) (fun e => by have := hI.out.2.2.2 _ e.symm; omega)
        have hsz3 : w.heap.size < w3.heap.size := by
          have h1 := lt_of_block ((Ext.after hx3).block hI.out.2.1); exact h1
        go_roundw
        case rel =>
          refine ⟨k + 1, by omega, by go_num, hbel, hbox, ?_, fun g hg => ?_⟩
          · rw [HT.out, if_neg (by simp), flatP_append, List.length_append]
            exact hrow'
          · rcases how' with e | e
            · exact hI.out.2.2.2 g (by rw [← e]; exact hg)
            · rw [hg] at e; cases e; simp; omega
        case measure => simp [intOf]; omega
    · obtain rfl : k = ps.length := by omega
      have hI2 := hI.out
      rw [List.take_length] at hI2
      have HI2 := hid hI2
      clear hI hI2
      gi_wp2
      go_ret
      exact ⟨_, rfl, HI2.out.1, HI2.out.2.2.1⟩
end Go.Proofs.Ytiklblbjnblkfaa
