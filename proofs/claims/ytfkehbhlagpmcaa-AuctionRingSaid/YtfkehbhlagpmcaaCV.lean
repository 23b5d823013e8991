/- Whether lots are such. -/
import Derived.Test.YtfkehbhlagpmcaaCU
set_option linter.unusedSimpArgs false
set_option linter.unusedVariables false
namespace Go.Proofs.Ytfkehbhlagpmcaa
open Go Go.RowKit Go.Shelf
open Au
def intsV (xs : List Int) : List Value := xs.map fun x => .int .i64 x
theorem intsV_get {xs : List Int} {i : Nat} (h : i < xs.length) : (intsV xs)[i]? = some (.int .i64 xs[i]) := by unfold intsV; simp [h]
theorem IntsAt.of_row {w : World} {v : Value} {xs : List Int} (h : Row w 3 1 v xs.length (intsV xs)) (hl : xs.length ≤ 1000000000000000) : IntsAt w v xs := by
  obtain ⟨_, h⟩ := h
  rcases h with ⟨rfl, h0⟩ | ⟨g, cap, cur, rfl, hg, h1, h2, h3, h4⟩
  · exact ⟨none, 0, by rw [h0], ⟨by omega, by omega⟩, fun i hi => by omega⟩
  · refine ⟨_, cap, rfl, ⟨h1, hl⟩, fun i hi => ⟨g, 0, rfl, lt_of_block hg, ?_⟩⟩
    rw [cell_of hg, Nat.zero_add, ← intsV_get hi, ← h4, List.getElem?_take, if_pos (by omega), Array.getElem?_toList]
/-- Where lots end. -/
def endsL (l : List Spn) (f : List Int) : List Int := f.drop 1 ++ [(l.length : Int)]
theorem endsL_length (l : List Spn) {f : List Int} (h : 0 < f.length) : (endsL l f).length = f.length := by unfold endsL; simp; omega
def alG (l : List Spn) (f : List Int) (k : Nat) : Bool :=
  decide (f.getD k 0 < (endsL l f).getD k 0) && (decide ((endsL l f).getD k 0 ≤ (l.length : Int)) && lotB ((l.drop (f.getD k 0).toNat).take ((endsL l f).getD k 0 - f.getD k 0).toNat))
def areLotsB (l : List Spn) (f : List Int) : Bool := decide (f.length ≠ 0) && (decide (f.getD 0 0 = 0) && allTo (alG l f) f.length)
theorem ends_next (l : List Spn) (f : List Int) (k : Nat) (h : k + 1 < f.length) : (endsL l f).getD k 0 = f.getD (k + 1) 0 := by
  unfold endsL
  simp only [List.getD_eq_getElem?_getD]
  rw [List.getElem?_append_left (by simp; omega), List.getElem?_drop, Nat.add_comm]
theorem ends_last (l : List Spn) (f : List Int) (k : Nat) (h : k + 1 = f.length) : (endsL l f).getD k 0 = (l.length : Int) := by
  unfold endsL
  simp only [List.getD_eq_getElem?_getD]
  rw [List.getElem?_append_right (by simp; omega)]
  simp [show k - (f.length - 1) = 0 by omega]
theorem SpansAt.cut {w : World} {b off n cap : Nat} {l : List Spn} (h : SpansAt w (.slice (some ⟨b, off, none⟩) n cap) l) {i m : Nat} (hm : i + m ≤ l.length) : SpansAt w (.slice (some ⟨b, off + i * 2, none⟩) m m) ((l.drop i).take m) := by
  obtain ⟨a, c, e, hl, hc⟩ := h
  cases e
  have hlen : ((l.drop i).take m).length = m := by simp; omega
  refine ⟨_, m, by rw [hlen], by rw [hlen]; omega, fun j hj => ?_⟩
  rw [hlen] at hj
  obtain ⟨b', off', e, hb, h0, h1⟩ := hc (i + j) (by omega)
  cases e
  have he : ((l.drop i).take m)[j]'(by rw [hlen]; exact hj) = l[i + j]'(by omega) := by simp
  rw [he]
  exact ⟨b, off + i * 2, rfl, hb, by rw [← h0]; congr 2; omega, by rw [← h1]; congr 2; omega⟩
theorem oneGrade_take {l : List Spn} {m a b : Nat} (h : b ≤ m) (hm : m ≤ l.length) : OneGrade (l.take m) a b ↔ OneGrade l a b := by
  have hg : ∀ i, i < m → (l.take m).getD i noSpn = l.getD i noSpn := fun i hi => by
    simp only [List.getD_eq_getElem?_getD, List.getElem?_take, if_pos hi]
  unfold OneGrade
  constructor
  · rintro ⟨x, hx⟩
    exact ⟨x, fun i h1 h2 => by rw [← hg i (by omega)]; exact hx i h1 h2⟩
  · rintro ⟨x, hx⟩
    exact ⟨x, fun i h1 h2 => by rw [hg i (by omega)]; exact hx i h1 h2⟩
theorem lotB_cut {l : List Spn} {a b : Nat} (h : a < b) (hb : b ≤ l.length) : lotB ((l.drop a).take (b - a)) = true ↔ OneGrade l a b := by
  have hlen : ((l.drop a).take (b - a)).length = b - a := by simp; omega
  rw [lotB_iff (by rw [hlen]; omega), hlen, oneGrade_take (Nat.le_refl _) (by simp; omega), oneGrade_drop, Nat.zero_add, show b - a + a = b from by omega]
theorem lotEnd_eq (l : List Spn) (f : List Nat) {k : Nat} (h : k < f.length) : (endsL l (f.map fun i : Nat => (i : Int))).getD k 0 = (lotEnd l f k : Int) := by
  unfold lotEnd
  by_cases hk : k + 1 < f.length
  · rw [if_pos hk, ends_next _ _ _ (by simpa using hk)]
    simp [List.getElem?_eq_getElem hk]
  · rw [if_neg hk, ends_last _ _ _ (by simp; omega)]
theorem getD_map (f : List Nat) (k : Nat) : (f.map fun i : Nat => (i : Int)).getD k 0 = ((f.getD k 0 : Nat) : Int) := by
  by_cases h : k < f.length
  · simp [List.getElem?_eq_getElem h]
  · simp [List.getElem?_eq_none (show f.length ≤ k by omega)]
theorem areLots_iff {l : List Spn} {f : List Nat} : areLotsB l (f.map fun i : Nat => (i : Int)) = true ↔ AreLots l f := by
  unfold areLotsB
  simp only [Bool.and_eq_true, decide_eq_true_eq, List.length_map]
  constructor
  · rintro ⟨h1, h2, h3⟩
    rw [getD_map] at h2
    refine ⟨by omega, by omega, fun k hk => ?_⟩
    unfold allTo at h3
    rw [List.all_eq_true] at h3
    have := h3 k (List.mem_range.2 hk)
    unfold alG at this
    rw [lotEnd_eq l f hk, getD_map] at this
    simp only [Bool.and_eq_true, decide_eq_true_eq] at this
    obtain ⟨h4, h5, h6⟩ := this
    refine ⟨by omega, by omega, ?_⟩
    rw [Int.toNat_natCast, show ((lotEnd l f k : Int) - (f.getD k 0 : Nat)).toNat = lotEnd l f k - f.getD k 0 from by omega] at h6
    exact (lotB_cut (by omega) (by omega)).1 h6
  · rintro ⟨h1, h2, h3⟩
    refine ⟨by omega, by rw [getD_map, h2]; rfl, allTo_yes fun k hk => ?_⟩
    obtain ⟨h4, h5, h6⟩ := h3 k hk
    unfold alG
    rw [lotEnd_eq l f hk, getD_map]
    simp only [Bool.and_eq_true, decide_eq_true_eq]
    refine ⟨by omega, by omega, ?_⟩
    rw [Int.toNat_natCast, show ((lotEnd l f k : Int) - (f.getD k 0 : Nat)).toNat = lotEnd l f k - f.getD k 0 from by omega]
    exact (lotB_cut h4 h5).2 h6
theorem areLots_nat {l : List Spn} {f : List Int} (h : areLotsB l f = true) : f = (f.map Int.toNat).map (fun i : Nat => (i : Int)) := by
  unfold areLotsB at h
  simp only [Bool.and_eq_true, decide_eq_true_eq] at h
  obtain ⟨_, h2, h3⟩ := h
  have hp : ∀ k, k < f.length → 0 ≤ f.getD k 0 := by
    intro k
    induction k with
    | zero => intro _; omega
    | succ k ih =>
      intro hk
      have := ih (by omega)
      unfold allTo at h3
      rw [List.all_eq_true] at h3
      have h4 := h3 k (List.mem_range.2 (by omega))
      unfold alG at h4
      simp only [Bool.and_eq_true, decide_eq_true_eq] at h4
      rw [ends_next l f k hk] at h4
      omega
  rw [List.map_map]
  conv => lhs; rw [← List.map_id f]
  apply List.map_congr_left
  intro x hx
  obtain ⟨k, hk, rfl⟩ := List.getElem_of_mem hx
  have := hp k hk
  rw [getD_of hk] at this
  simp; omega
set_option maxRecDepth 100000 in
set_option maxHeartbeats 8000000 in
theorem areLots_any (v : Value) (l : List Spn) (fv : Value) (f : List Int) (w : World) (hv : SpansAt w v l) (h0 : 0 < l.length) (hl40 : l.length ≤ 40) (hf : IntsAt w fv f) (hfl : f.length ≤ 100000000) :
    Cal 66 #[v, fv] w fun e w' => e = .returned (.bool (areLotsB l f)) ∧ Ext w w' := by
  have HV := hid hv
  obtain ⟨b, off, cap, rfl, hcap⟩ : ∃ b off cap, v = .slice (some ⟨b, off, none⟩) l.length cap ∧ l.length ≤ cap := by
    obtain ⟨a, cap, rfl, ⟨hcap, _⟩, hc⟩ := hv
    obtain ⟨b, off, rfl, _⟩ := hc 0 h0
    exact ⟨b, off, cap, rfl, hcap⟩
  obtain ⟨af, cf, rfl, ⟨hcf, hlf⟩, hc⟩ := hf
  have HC := hid hc
  clear hv hc
  by_cases hn0 : f.length = 0
  · have HE : Hid (areLotsB l f = false) := hid (by unfold areLotsB; simp [hn0])
    have hn1 : (f.length : Int) = 0 := by omega
    clear hn0
    gi_enter Try.func66, Try.ntmps66
    gi_wp2
    go_ret
    exact ⟨by rw [HE.out]; rfl, Ext.refl _⟩
  · obtain ⟨bf, of, rfl, hbf, hf0⟩ := HC.out 0 (by omega)
    rw [Nat.add_zero] at hf0
    have hn1 : ¬ (f.length : Int) = 0 := by omega
    have hn2 : 0 < f.length := by omega
    by_cases hz : f[0] = 0
    · rw [hz] at hf0
      have HE : Hid (areLotsB l f = allTo (alG l f) f.length) := hid (by unfold areLotsB; rw [getD_of hn2]; simp [hz, hn0])
      have HZ0 : Hid (f.getD 0 0 = 0) := hid (by rw [getD_of hn2]; exact hz)
      have HNX := hid (ends_next l f)
      have HLA := hid (ends_last l f)
      have HEL := hid (endsL_length l hn2)
      obtain ⟨i0, hi0, hz0, hz1, hz2⟩ := info_parts info3
      have hxa : Ext w (w.alloc (.cells #[.int .i64 (l.length : Int)] 3)) := (Ext.refl _).alloc _
      have hap : ∃ v' w', (Builtin.append_ #[35, 35] 35 #[.slice (if f.length = 1 then some ⟨bf, of, none⟩ else some ⟨bf, of + 1, none⟩) (f.length - 1) (f.length - 1), .slice (some ⟨w.heap.size, 0, none⟩) 1 1]).run Try.prog (w.alloc (.cells #[.int .i64 (l.length : Int)] 3)) = .ok v' w' ∧ Row w' 3 1 v' (f.length - 1 + 1) (intsV (f.drop 1) ++ [.int .i64 (l.length : Int)]) ∧ Ext (w.alloc (.cells #[.int .i64 (l.length : Int)] 3)) w' ∧ v'.ownBlock = some (w.alloc (.cells #[.int .i64 (l.length : Int)] 3)).heap.size := by
        refine append_full (sz := 1) (bytes := 8) Try.underlying35 hi0 hz0 hz1 hz2 (by simp [Value.cells]) (by omega) (by simp [intsV]) (fun h => by split at h <;> cases h) (fun p hp j u hu => ?_) ⟨w.heap.size, 0, none⟩ 1 [.int .i64 (l.length : Int)] rfl (fun j u hj => by rw [Addr.add_mid, Nat.zero_add, new_cell _ _ rfl]; simpa using hj) (by omega) (by omega)
        have hj : j < f.length - 1 := by have := (List.getElem?_eq_some_iff.1 hu).1; simp [intsV] at this; omega
        rw [if_neg (by omega)] at hp
        cases hp
        obtain ⟨b', o', e, hb', hcell⟩ := HC.out (j + 1) (by omega)
        cases e
        rw [Addr.add_mid, hxa.cell (p := ⟨bf, of + 1 + j, none⟩) hb', show of + 1 + j = of + (j + 1) from by omega, hcell, ← hu]
        unfold intsV
        simp [Nat.add_comm]
        rw [List.getElem?_eq_getElem (by omega)]
        simp [Nat.add_comm]
      obtain ⟨v', w', hrun, hrow, hxw, hown⟩ := hap
      have HEN : Hid (IntsAt w' v' (endsL l f)) := hid (IntsAt.of_row (by
        rw [show intsV (endsL l f) = intsV (f.drop 1) ++ [.int .i64 (l.length : Int)] from by simp [endsL, intsV]]
        rw [HEL.out, show f.length = f.length - 1 + 1 from by omega]
        simpa using hrow) (by have := HEL.out; omega))
      have HXW := hid (hxa.trans hxw)
      have HRUN := hid hrun
      clear hrun hrow hxw hown hxa hi0 hz0 hz1 hz2 hz hn0
      have hfe : ¬ f = [] := by intro h; rw [h] at hn2; simp at hn2
      gi_enter Try.func66, Try.ntmps66
      gi_wp2_with (refine wpIn_append_at (fun _ => trivial) rfl (w.alloc (.cells #[.int .i64 (l.length : Int)] 3)) (.tmp 23) (.tmp 26) 35 rfl (by with_reducible rfl) HRUN.out rfl rfl rfl ?_)
      · have H1 := hid h
        clear h
        obtain ⟨ae, ce, rfl, ⟨hce, hle⟩, hce2⟩ := id HEN.out
        have HCE := hid hce2
        clear hce2
        gi_loopw [30] (fun i wr => ∃ k : Nat, k ≤ f.length ∧ i = .int .i64 k ∧ Hid (Ext w' wr ∧ (k < f.length → 0 ≤ f.getD k 0) ∧ ∀ j, j < k → alG l f j = true)) (fun i _ => f.length - (intOf i).toNat)
        case atStart => exact ⟨0, Nat.zero_le _, rfl, hid ⟨Ext.refl _, fun _ => by rw [HZ0.out]; exact Int.le_refl _, fun _ h => absurd h (by omega)⟩⟩
        case round =>
          obtain ⟨k, hk, rfl, HI⟩ := hrel
          by_cases hlt : k < f.length
          · have hk1 : (k : Int) < 1 := by have := H1.out; omega
            have hk2 : k < 1 := by have := H1.out; omega
            obtain ⟨b1, o1, e1, hb1, hck1⟩ := HC.out k hlt
            cases e1
            obtain ⟨b2, o2, rfl, hb2, hck2⟩ := HCE.out k (by have := HEL.out; omega)
            rw [← (HXW.out.trans HI.out.1).cell (p := ⟨bf, _, none⟩) hb1] at hck1
            rw [← HI.out.1.cell (p := ⟨b2, _, none⟩) hb2] at hck2
            have hlt2 : k < (endsL l f).length := by have := HEL.out; omega
            have hp0 := HI.out.2.1 hlt
            have HAL : Hid (alG l f k = (decide (f[k] < (endsL l f)[k]) && (decide ((endsL l f)[k] ≤ (l.length : Int)) && lotB ((l.drop f[k].toNat).take ((endsL l f)[k] - f[k]).toNat)))) := hid (by unfold alG; rw [getD_of hlt, getD_of hlt2])
            have HF : Hid (alG l f k = false → areLotsB l f = false) := hid fun h => by rw [HE.out]; exact allTo_no hlt h
            have HT : Hid (alG l f k = true → ∀ j, j < k + 1 → alG l f j = true) := hid (upTo_succ HI.out.2.2)
            have HNE : Hid (k + 1 < f.length → f.getD (k + 1) 0 = (endsL l f)[k]) := hid fun h => by rw [← HNX.out k h, getD_of hlt2]
            rw [getD_of hlt] at hp0
            have HX := hid HI.out.1
            have HXL := hid (HXW.out.trans HI.out.1)
            clear HI
            generalize f[k] = p at *
            generalize (endsL l f)[k] = q at *
            by_cases hpq : p < q
            · obtain ⟨p, rfl⟩ : ∃ n : Nat, p = (n : Int) := ⟨p.toNat, by omega⟩
              obtain ⟨q, rfl⟩ : ∃ n : Nat, q = (n : Int) := ⟨q.toNat, by omega⟩
              have hpq2 : p < q := by omega
              have hpq3 : ¬ (p : Int) ≥ (q : Int) := by omega
              by_cases hql : (q : Int) ≤ (l.length : Int)
              · have hql2 : q ≤ l.length := by omega
                have hql3 : ¬ (q : Int) > (l.length : Int) := by omega
                have hql4 : q ≤ cap := by omega
                have HCUT := hid ((HV.out.mono HXL.out).cut (i := p) (m := q - p) (by omega))
                have hml : 0 < ((l.drop p).take (q - p)).length := by simp; omega
                have HAL2 : Hid (alG l f k = lotB ((l.drop p).take (q - p))) := hid (by rw [HAL.out, Int.toNat_natCast, show ((q : Int) - (p : Int)).toNat = q - p from by omega]; simp [hpq2, hql2])
                have HLB := hid (isLot_any _ _ wr HCUT.out hml)
                clear hml
                have hne1 : ¬ q - p = 0 := by omega
                have hne2 : ¬ q = p := by omega
                have hle2 : p ≤ q := by omega
                cases hlb : lotB ((l.drop p).take (q - p)) with
                | true =>
                  rw [hlb] at HLB HAL2
                  have HT2 := hid (HT.out HAL2.out)
                  clear hlb hpq hql
                  gi_wp2_with (gi_at_call 85; ((with_reducible refine (HLB.out).mono ?_); rintro e w1 ⟨rfl, hx1⟩))
                  go_roundw
                  case rel => exact ⟨k + 1, by omega, by go_num, hid ⟨HX.out.trans hx1, fun h => by rw [HNE.out h]; omega, HT2.out⟩⟩
                  case measure => simp [intOf]; omega
                | false =>
                  rw [hlb] at HLB HAL2
                  have HF2 := hid (HF.out HAL2.out)
                  clear hlb hpq hql
                  gi_wp2_with (gi_at_call 85; ((with_reducible refine (HLB.out).mono ?_); rintro e w1 ⟨rfl, hx1⟩))
                  go_ret
                  exact ⟨by rw [HF2.out]; rfl, HXL.out.trans hx1⟩
              · have HF2 := hid (HF.out (by rw [HAL.out, decide_eq_false hql]; simp))
                have hql3 : (q : Int) > (l.length : Int) := by omega
                clear hql hpq
                gi_wp2
                go_ret
                exact ⟨by rw [HF2.out]; rfl, HXL.out⟩
            · have HF2 := hid (HF.out (by rw [HAL.out, decide_eq_false hpq]; rfl))
              have hpq3 : p ≥ q := by omega
              clear hpq
              gi_wp2
              go_ret
              exact ⟨by rw [HF2.out]; rfl, HXL.out⟩
          · obtain rfl : k = f.length := by omega
            have hk1 : ¬ (f.length : Int) < 1 := by have := H1.out; omega
            have hk2 : ¬ f.length < 1 := by have := H1.out; omega
            have HT2 : Hid (areLotsB l f = true) := hid (by rw [HE.out]; exact allTo_yes HI.out.2.2)
            have HXL := hid (HXW.out.trans HI.out.1)
            clear HI
            gi_wp2
            go_ret
            exact ⟨by rw [HT2.out]; rfl, HXL.out⟩
      · obtain ⟨ae, ce, rfl, ⟨hce, hle⟩, hce2⟩ := id HEN.out
        have HCE := hid hce2
        clear hce2
        gi_loopw [30] (fun i wr => ∃ k : Nat, k ≤ f.length ∧ i = .int .i64 k ∧ Hid (Ext w' wr ∧ (k < f.length → 0 ≤ f.getD k 0) ∧ ∀ j, j < k → alG l f j = true)) (fun i _ => f.length - (intOf i).toNat)
        case atStart => exact ⟨0, Nat.zero_le _, rfl, hid ⟨Ext.refl _, fun _ => by rw [HZ0.out]; exact Int.le_refl _, fun _ h => absurd h (by omega)⟩⟩
        case round =>
          obtain ⟨k, hk, rfl, HI⟩ := hrel
          by_cases hlt : k < f.length
          · obtain ⟨b1, o1, e1, hb1, hck1⟩ := HC.out k hlt
            cases e1
            obtain ⟨b2, o2, rfl, hb2, hck2⟩ := HCE.out k (by have := HEL.out; omega)
            rw [← (HXW.out.trans HI.out.1).cell (p := ⟨bf, _, none⟩) hb1] at hck1
            rw [← HI.out.1.cell (p := ⟨b2, _, none⟩) hb2] at hck2
            have hlt2 : k < (endsL l f).length := by have := HEL.out; omega
            have hp0 := HI.out.2.1 hlt
            have HAL : Hid (alG l f k = (decide (f[k] < (endsL l f)[k]) && (decide ((endsL l f)[k] ≤ (l.length : Int)) && lotB ((l.drop f[k].toNat).take ((endsL l f)[k] - f[k]).toNat)))) := hid (by unfold alG; rw [getD_of hlt, getD_of hlt2])
            have HF : Hid (alG l f k = false → areLotsB l f = false) := hid fun h => by rw [HE.out]; exact allTo_no hlt h
            have HT : Hid (alG l f k = true → ∀ j, j < k + 1 → alG l f j = true) := hid (upTo_succ HI.out.2.2)
            have HNE : Hid (k + 1 < f.length → f.getD (k + 1) 0 = (endsL l f)[k]) := hid fun h => by rw [← HNX.out k h, getD_of hlt2]
            rw [getD_of hlt] at hp0
            have HX := hid HI.out.1
            have HXL := hid (HXW.out.trans HI.out.1)
            clear HI
            generalize f[k] = p at *
            generalize (endsL l f)[k] = q at *
            by_cases hpq : p < q
            · obtain ⟨p, rfl⟩ : ∃ n : Nat, p = (n : Int) := ⟨p.toNat, by omega⟩
              obtain ⟨q, rfl⟩ : ∃ n : Nat, q = (n : Int) := ⟨q.toNat, by omega⟩
              have hpq2 : p < q := by omega
              have hpq3 : ¬ (p : Int) ≥ (q : Int) := by omega
              by_cases hql : (q : Int) ≤ (l.length : Int)
              · have hql2 : q ≤ l.length := by omega
                have hql3 : ¬ (q : Int) > (l.length : Int) := by omega
                have hql4 : q ≤ cap := by omega
                have HCUT := hid ((HV.out.mono HXL.out).cut (i := p) (m := q - p) (by omega))
                have hml : 0 < ((l.drop p).take (q - p)).length := by simp; omega
                have HAL2 : Hid (alG l f k = lotB ((l.drop p).take (q - p))) := hid (by rw [HAL.out, Int.toNat_natCast, show ((q : Int) - (p : Int)).toNat = q - p from by omega]; simp [hpq2, hql2])
                have HLB := hid (isLot_any _ _ wr HCUT.out hml)
                clear hml
                have hne1 : ¬ q - p = 0 := by omega
                have hne2 : ¬ q = p := by omega
                have hle2 : p ≤ q := by omega
                cases hlb : lotB ((l.drop p).take (q - p)) with
                | true =>
                  rw [hlb] at HLB HAL2
                  have HT2 := hid (HT.out HAL2.out)
                  clear hlb hpq hql
                  gi_wp2_with (gi_at_call 85; ((with_reducible refine (HLB.out).mono ?_); rintro e w1 ⟨rfl, hx1⟩))
                  go_roundw
                  case rel => exact ⟨k + 1, by omega, by go_num, hid ⟨HX.out.trans hx1, fun h => by rw [HNE.out h]; omega, HT2.out⟩⟩
                  case measure => simp [intOf]; omega
                | false =>
                  rw [hlb] at HLB HAL2
                  have HF2 := hid (HF.out HAL2.out)
                  clear hlb hpq hql
                  gi_wp2_with (gi_at_call 85; ((with_reducible refine (HLB.out).mono ?_); rintro e w1 ⟨rfl, hx1⟩))
                  go_ret
                  exact ⟨by rw [HF2.out]; rfl, HXL.out.trans hx1⟩
              · have HF2 := hid (HF.out (by rw [HAL.out, decide_eq_false hql]; simp))
                have hql3 : (q : Int) > (l.length : Int) := by omega
                clear hql hpq
                gi_wp2
                go_ret
                exact ⟨by rw [HF2.out]; rfl, HXL.out⟩
            · have HF2 := hid (HF.out (by rw [HAL.out, decide_eq_false hpq]; rfl))
              have hpq3 : p ≥ q := by omega
              clear hpq
              gi_wp2
              go_ret
              exact ⟨by rw [HF2.out]; rfl, HXL.out⟩
          · obtain rfl : k = f.length := by omega
            have HT2 : Hid (areLotsB l f = true) := hid (by rw [HE.out]; exact allTo_yes HI.out.2.2)
            have HXL := hid (HXW.out.trans HI.out.1)
            clear HI
            gi_wp2
            go_ret
            exact ⟨by rw [HT2.out]; rfl, HXL.out⟩
    · have HE : Hid (areLotsB l f = false) := hid (by unfold areLotsB; rw [getD_of hn2]; simp [hz])
      generalize f[0] = x at *
      have hzb : (x != 0) = true := by simpa using hz
      clear hz
      gi_enter Try.func66, Try.ntmps66
      gi_wp2
      go_ret
      exact ⟨by rw [HE.out]; rfl, Ext.refl _⟩

end Go.Proofs.Ytfkehbhlagpmcaa
