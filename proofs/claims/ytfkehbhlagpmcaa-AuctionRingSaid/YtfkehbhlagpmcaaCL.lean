/- The bids that lose only because a buyer is there: the walk. -/
import Derived.Test.YtfkehbhlagpmcaaCK
import Derived.Carry
set_option linter.unusedSimpArgs false
set_option linter.unusedVariables false
namespace Go.Proofs.Ytfkehbhlagpmcaa
open Go Go.RowKit Go.Shelf
open Au
theorem flatB_app (L M : List Bd) (k : Nat) (h : k ≤ L.length) : flatB (L ++ M) k = flatB L k := by
  unfold flatB
  rw [List.flatMap_def, List.flatMap_def]
  congr 1
  apply List.map_congr_left
  intro i hi
  have := List.mem_range.1 hi
  rw [show (L ++ M).getD i noBd = L.getD i noBd from by simp [List.getElem?_append_left (show i < L.length by omega)]]
theorem flatB_snoc (L : List Bd) (x : Bd) : flatB (L ++ [x]) (L ++ [x]).length = flatB L L.length ++ bidCells x := by
  have h : L.length < (L ++ [x]).length := by simp
  rw [show (L ++ [x]).length = L.length + 1 from by simp, flatB_succ _ h, flatB_app L [x] _ (Nat.le_refl _)]
  simp
theorem filter_snoc (q : Bd → Bool) (l : List Bd) (k : Nat) (h : k < l.length) : (l.take (k + 1)).filter q = (l.take k).filter q ++ if q l[k] = true then [l[k]] else [] := by
  rw [List.take_succ_eq_append_getElem h, List.filter_append]
  congr 1
  cases hq : q l[k] <;> simp [hq]
set_option maxRecDepth 100000 in
set_option maxHeartbeats 8000000 in
theorem lost_any (v : Value) (s : Sal) (i : Nat) (w : World) (hv : ListsAt w v s.offers) (ho : Ok s) (hi : i < s.offers.length) :
    Cal 88 #[saleW s v, .int .i64 (i : Int)] w fun e w' => ∃ r, e = .returned r ∧ Ext w w' ∧ BidsAt w' r (lost s i) := by
  have HW := hid (fun (u : World) (hu : Ext w u) => winners_any v s u (hv.mono hu) ho)
  have HT := hid (fun (u : World) (hu : Ext w u) => without_any v s i u (hv.mono hu) ho hi)
  have HW2 := hid (fun (r : Value) (u : World) (hr : ListsAt u r (without s i).offers) => winners_any r (without s i) u hr (ho.without i))
  have hl := (wn_length ho).2.1
  have hl2 := (wn_length (ho.without i)).2.1
  have HND := hid (wn_nodup s)
  have HE : Hid (lost s i = (wn (without s i)).filter fun b => !decide (b ∈ wn s)) := hid rfl
  generalize without s i = s2 at *
  generalize wn s2 = l2 at *
  generalize wn s = l at *
  obtain ⟨a, cap, rfl, ⟨hcap, hlen⟩, _⟩ := hv
  clear ho hi
  unfold saleW at HW HT HW2 ⊢
  have hmm := @run_makeMap Try.prog
  gi_enter Try.func88, Try.ntmps88
  gi_upto_region 3 with (gi_at_call 73; ((with_reducible refine (HW.out _ (((Ext.refl _).alloc _).alloc _)).mono ?_); rintro e w1 ⟨r, rfl, hx1, hr⟩; have HR := hid hr.1; obtain ⟨⟨a2, cap2, rfl, _, _⟩, _⟩ := hr; have HB := hid (hx1.block two_new); have HM := hid ((MapBlk.made (w.alloc (.cells #[.int .i64 s.crans, .int .i64 s.least, .slice a s.offers.length cap, fnV 68] 71))).mono hx1); rw [World.size_alloc] at HM; have HX := hid ((((Ext.refl w).alloc _).alloc _).trans hx1); clear hx1))
  clear hmm
  obtain ⟨a3, cap3, e3, ⟨hcap3, hlen3⟩, hc3⟩ := HR.out
  cases e3
  have HC := hid hc3
  clear hc3 HR HW
  gi_loopw [15] (fun i wr => ∃ k : Nat, k ≤ l.length ∧ i = .int .i64 k ∧ Hid (PastC w.heap.size w1 wr ∧ MapBlk wr (w.heap.size + 1) (l.take k))) (fun i _ => l.length - (intOf i).toNat)
  case atStart => exact ⟨0, Nat.zero_le _, rfl, hid ⟨PastC.of_ext (Ext.refl _), by rw [List.take_zero]; exact HM.out⟩⟩
  case round =>
    obtain ⟨k, hk, rfl, HI⟩ := hrel
    clear HM
    by_cases hlt : k < l.length
    · obtain ⟨b, off, rfl, hbb, hc0, hc1, hc2⟩ := HC.out k hlt
      have hc0 := HI.out.1.cell hc0
      have hc1 := HI.out.1.cell hc1
      have hc2 := HI.out.1.cell hc2
      have hno : l[k] ∉ l.take k := fun h => by
        obtain ⟨j, hj, he⟩ := List.mem_take_iff_getElem.1 h
        have := (List.getElem_inj (h₀ := by omega) (h₁ := hlt) HND.out).1 he
        omega
      have HS : Hid (l.take (k + 1) = l.take k ++ [l[k]]) := hid (List.take_succ_eq_append_getElem hlt)
      have hxa := (Ext.refl wr).alloc (.cells #[.int .i64 (l[k].buyer : Int), .int .i64 (l[k].place : Int), .int .i64 l[k].offer] 102)
      obtain ⟨o, hu, hm2⟩ := run_update_bd (HI.out.2.mono hxa) l[k] hno
      unfold bidV at hu
      have HI2 := hid (And.intro ((HI.out.1.trans (PastC.of_ext hxa)).trans (PastC.putMap (by omega) (HI.out.2.mono hxa) o)) hm2)
      rw [← HS.out] at HI2
      clear HI HS hm2 hno hxa
      generalize l[k] = x at *
      gi_wp2
      go_roundw
      case rel => exact ⟨k + 1, by omega, by go_num, HI2⟩
      case measure => simp [intOf]; omega
    · obtain rfl : k = l.length := by omega
      have hxw := HI.out.1.past.below (n := w.heap.size) HX.out (Nat.le_refl _) (Nat.le_refl _)
      have hmm := HI.out.2
      rw [List.take_length] at hmm
      have hbx := HI.out.1.cells HB.out
      have hlb := lt_of_block hbx
      have cb := cell_of hbx
      have HXW := hid (show Ext w wr from hxw)
      have HMM := hid hmm
      clear HI HX HB hmm hbx hxw HC
      gi_upto_region 9 with (first | (gi_at_call 94; ((with_reducible refine (HT.out _ HXW.out).mono ?_); rintro e w2 ⟨r, rfl, hx2, hr2⟩)) | (gi_at_call 73; ((with_reducible refine (HW2.out _ _ hr2).mono ?_); rintro e w3 ⟨r3, rfl, hx3, hr3⟩; have HR3 := hid hr3.1; obtain ⟨⟨a4, cap4, rfl, _, _⟩, _⟩ := hr3; have HX3 := hid (HXW.out.trans (hx2.trans hx3)); have HM3 := hid (HMM.out.mono (hx2.trans hx3)))))
      obtain ⟨a5, cap5, e5, ⟨hcap5, hlen5⟩, hc5⟩ := HR3.out
      cases e5
      have HC5 := hid hc5
      clear hc5 HR3 hx2 hx3 hr2 HT HW2 cb
      gi_loopw [8, 27] (fun v i wr => ∃ k : Nat, k ≤ l2.length ∧ i = .int .i64 k ∧ Hid (Ext w3 wr ∧ Row wr 102 3 v ((l2.take k).filter fun b => !decide (b ∈ l)).length (flatB ((l2.take k).filter fun b => !decide (b ∈ l)) ((l2.take k).filter fun b => !decide (b ∈ l)).length) ∧ ∀ g, v.ownBlock = some g → w3.heap.size ≤ g)) (fun _ i _ => l2.length - (intOf i).toNat)
      case atStart => exact ⟨0, Nat.zero_le _, rfl, hid ⟨Ext.refl _, by rw [List.take_zero]; exact Row.nil _ _ _, fun g hg => by simp [Value.ownBlock] at hg⟩⟩
      case round =>
        obtain ⟨k, hk, rfl, HI⟩ := hrel
        by_cases hlt : k < l2.length
        · obtain ⟨b, off, rfl, hbb, hc0, hc1, hc2⟩ := HC5.out k hlt
          rw [← HI.out.1.cell (p := ⟨b, _, none⟩) hbb] at hc0 hc1 hc2
          have HS := hid (filter_snoc (fun b => !decide (b ∈ l)) l2 k hlt)
          have hLl : ((l2.take k).filter fun b => !decide (b ∈ l)).length ≤ 40 := by
            have h1 := List.length_filter_le (fun b => !decide (b ∈ l)) (l2.take k)
            rw [List.length_take] at h1; omega
          have hxa := (Ext.refl wr).alloc (.cells #[.int .i64 (l2[k].buyer : Int), .int .i64 (l2[k].place : Int), .int .i64 l2[k].offer] 102)
          have hlk := run_lookup_bd ((HM3.out.mono HI.out.1).mono hxa) l2[k]
          generalize (l2.take k).filter (fun b => !decide (b ∈ l)) = L at *
          by_cases hin : l2[k] ∈ l
          · have HS2 : Hid ((l2.take (k + 1)).filter (fun b => !decide (b ∈ l)) = L) := hid (by rw [HS.out]; simp [hin])
            rw [decide_eq_true hin] at hlk
            unfold bidV at hlk
            have HI2 := hid (And.intro (HI.out.1.trans hxa) (And.intro (HI.out.2.1.mono hxa) HI.out.2.2))
            clear HI HS hin hxa
            generalize l2[k] = x at *
            gi_wp2
            go_roundw
            case rel => exact ⟨k + 1, by omega, by go_num, by rw [HS2.out]; exact HI2⟩
            case measure => simp [intOf]; omega
          · have HS2 : Hid ((l2.take (k + 1)).filter (fun b => !decide (b ∈ l)) = L ++ [l2[k]]) := hid (by rw [HS.out]; simp [hin])
            rw [decide_eq_false hin] at hlk
            unfold bidV at hlk
            have HFS := hid (flatB_snoc L l2[k])
            generalize l2[k] = x at *
            have HX4 := hid HI.out.1
            have HOWN := hid HI.out.2.2
            have hxb := hxa.alloc (.cells #[.int .i64 (x.buyer : Int), .int .i64 (x.place : Int), .int .i64 x.offer] 102)
            have HRW := hid (HI.out.2.1.mono hxb)
            have HXB := hid hxb
            have HNW : Hid (∀ j u, (bidCells x)[j]? = some u → ((wr.alloc (.cells #[.int .i64 (x.buyer : Int), .int .i64 (x.place : Int), .int .i64 x.offer] 102)).alloc (.cells #[.int .i64 (x.buyer : Int), .int .i64 (x.place : Int), .int .i64 x.offer] 102)).cell? ((⟨wr.heap.size + 1, 0, none⟩ : Addr).add j) = some u) := fun j u hj => by
              rw [Addr.add_mid, Nat.zero_add, new_cell _ _ (by simp)]; simpa [bidCells] using hj
            obtain ⟨i0, hi0, hz0, hz1, hz2⟩ := info_parts info102
            have HZ := hid (And.intro hi0 (And.intro hz0 (And.intro hz1 hz2)))
            have hmax : L.length + 1 ≤ 1000000000 := by omega
            have hsw := HX4.out.size
            clear HI HS hin hxa hxb hi0 hz0 hz1 hz2
            gi_wp2_with (refine wpIn_append_row (fun _ => trivial) rfl (.tmp 35) (.tmp 37) rfl Try.underlying98 HZ.out.1 HZ.out.2.1 HZ.out.2.2.1 HZ.out.2.2.2 (by simp [Value.cells]) (by omega) (v := u8) rfl HRW.out ⟨wr.heap.size + 1, 0, none⟩ 1 rfl (bidCells x) rfl HNW.out (fun u hu => by simp [bidCells] at hu; rcases hu with rfl | rfl | rfl <;> rfl) hmax (by omega) ?_; intro v' w' hrow' hgr' how'; obtain ⟨sa', sn', sc', rfl⟩ := hrow'.isSlice)
            have hx4 : Ext w3 w' := ext_grown (HX4.out.trans HXB.out) hgr' fun g hg => HOWN.out g hg
            have hown' : ∀ g, (Value.slice sa' sn' sc').ownBlock = some g → w3.heap.size ≤ g := fun g hg => by
              rcases how' with e | e
              · exact HOWN.out g (by rw [← e]; exact hg)
              · rw [hg] at e; cases e; simp; omega
            have HI2 := hid (And.intro hx4 (And.intro hrow' hown'))
            clear hx4 hrow' hgr' how' hown'
            go_roundw
            case rel => exact ⟨k + 1, by omega, by go_num, by rw [HS2.out, HFS.out, show (L ++ [x]).length = L.length + 1 from by simp]; exact HI2⟩
            case measure => simp [intOf]; omega
        · obtain rfl : k = l2.length := by omega
          have hr := HI.out.2.1
          rw [List.take_length, ← HE.out] at hr
          have hll : (lost s i).length ≤ 40 := by rw [HE.out]; have := List.length_filter_le (fun b => !decide (b ∈ l)) l2; omega
          have HB := hid (BidsAt.of_row hr (by omega))
          have HXF := hid (HX3.out.trans HI.out.1)
          clear HI hr
          gi_wp2
          go_ret
          exact ⟨_, rfl, HXF.out, HB.out⟩

end Go.Proofs.Ytfkehbhlagpmcaa
