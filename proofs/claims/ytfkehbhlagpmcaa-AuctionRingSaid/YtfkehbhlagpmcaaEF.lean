/- Helpers of the laws: Pick, order; baskets as an argument. -/
import Derived.Test.YtfkehbhlagpmcaaEE
import Derived.Test.YtfkehbhlagpmcaaCH
import Derived.Test.YtfkehbhlagpmcaaCU
set_option linter.unusedSimpArgs false
set_option linter.unusedVariables false
namespace Go.Proofs.Ytfkehbhlagpmcaa
open Go Go.RowKit Go.Shelf
open Au
/-- A number from lo to hi, as a number chooses it. -/
def pickI (xs : List Int) (k : Int) : Int := if xs.length = 0 then 0 else xs.getD (modI k xs.length).toNat 0
theorem Pick_any (v : Value) (xs : List Int) (k : Int) (w : World) (h : IntsAt w v xs) :
    Cal 37 #[v, .int .i64 k] w fun e w' => e = .returned (.int .i64 (pickI xs k)) ∧ Ext w w' := by
  obtain ⟨a, cap, rfl, hl, hc⟩ := h
  gi_enter Try.func37, Try.ntmps37
  by_cases h0 : xs.length = 0
  · have HP : Hid (pickI xs k = 0) := if_pos h0
    have hz : ((xs.length : Int) == 0) = true := by rw [beq_iff_eq]; omega
    clear hc h0
    gi_wp2
    go_ret
    exact ⟨by rw [HP.out]; rfl, Ext.refl _⟩
  · have hz : ((xs.length : Int) == 0) = false := by rw [beq_eq_false_iff_ne]; omega
    have hmo := modI_ok k (m := (xs.length : Int)) (by omega)
    obtain ⟨j, hj⟩ : ∃ j : Nat, modI k xs.length = j := ⟨(modI k xs.length).toNat, by omega⟩
    have hjl : j < xs.length := by omega
    obtain ⟨b, off, rfl, hb, hcell⟩ := hc j hjl
    have HP : Hid (pickI xs k = xs[j]) := by
      show _ = _
      unfold pickI
      rw [if_neg h0, hj, Int.toNat_natCast, getD_of hjl]
    have HM := hid (mod_any k xs.length w (by omega))
    rw [hj] at HM
    clear hc h0 hmo hj
    generalize xs[j] = y at *
    gi_wp2_with (gi_at_call 36; ((with_reducible refine HM.out.mono ?_); rintro e w5 ⟨rfl, rfl⟩))
    go_ret
    exact ⟨by rw [HP.out]; rfl, Ext.refl _⟩
/-- The buyers in an order that a number chooses. -/
def ordV (n : Nat) (c : Int) (k : Nat) : Int := if modI c 2 = 1 then modI (modI c n - k) n else modI (modI c n + k) n
def ordT (n : Nat) (c : Int) (k : Nat) : List Nat := (List.range k).map fun i => (ordV n c i).toNat
theorem ordT_succ (n : Nat) (c : Int) (k : Nat) : ordT n c (k + 1) = ordT n c k ++ [(ordV n c k).toNat] := by simp [ordT, List.range_succ]
theorem ordT_len (n : Nat) (c : Int) (k : Nat) : (ordT n c k).length = k := by simp [ordT]
theorem ordV_ok {n : Nat} (hn : 0 < n) (c : Int) (k : Nat) : 0 ≤ ordV n c k ∧ ordV n c k < n := by
  unfold ordV
  split
  · exact modI_ok _ (by omega)
  · exact modI_ok _ (by omega)
set_option maxRecDepth 100000 in
set_option maxHeartbeats 4000000 in
theorem order_any (n : Nat) (c : Int) (w : World) (hn : 1 ≤ n ∧ n ≤ 1000) :
    Cal 40 #[.int .i64 (n : Int), .int .i64 c] w fun e w' => ∃ r, e = .returned r ∧ Ext w w' ∧ IntsAt w' r ((ordT n c n).map fun i : Nat => (i : Int)) := by
  have hP := modI_ok c (m := (n : Int)) (by omega)
  have HM1 := hid (fun (u : World) => mod_any c (n : Int) u (by omega))
  have HM2 := hid (fun (u : World) => mod_any c 2 u (by omega))
  have HMA := hid (fun (x : Int) (u : World) => mod_any x (n : Int) u (by omega))
  have hm2 := modI_ok c (m := 2) (by omega)
  have HV := hid (show ∀ k, ordV n c k = if modI c 2 = 1 then modI (modI c n - k) n else modI (modI c n + k) n from fun _ => rfl)
  have HVO := hid (fun k => ordV_ok (n := n) (by omega) c k)
  have HTS := hid (ordT_succ n c)
  have HTL := hid (ordT_len n c)
  have HT0 : Hid (natsV (ordT n c 0) = []) := hid rfl
  generalize modI c n = P at *
  generalize hq : modI c 2 = q at *
  clear hq
  generalize hT : ordT n c = T at *
  clear hT
  generalize hVV : ordV n c = V at *
  clear hVV
  gi_enter Try.func40, Try.ntmps40
  gi_upto_region 2 with (fail)
  gi_wp2_with fail
  gi_loopw [5, 6] (fun v i wr => ∃ k : Nat, k ≤ n ∧ i = .int .i64 k ∧ Hid (Ext w wr ∧ Row wr 3 1 v k (natsV (T k)) ∧ ∀ g, v.ownBlock = some g → w.heap.size ≤ g)) (fun _ i _ => n - (intOf i).toNat)
  case atStart => exact ⟨0, Nat.zero_le _, rfl, hid ⟨Ext.refl _, ⟨by rw [HT0.out]; rfl, .inl ⟨rfl, rfl⟩⟩, fun g hg => by cases hg⟩⟩
  case round =>
    obtain ⟨k, hk, rfl, HI⟩ := hrel
    by_cases hlt : k < n
    · have HX := hid HI.out.1
      have HRW := hid HI.out.2.1
      have HOWN := hid HI.out.2.2
      clear HI
      obtain ⟨i0, hi0, hz0, hz1, hz2⟩ := info_parts info3
      have HZ := hid (And.intro hi0 (And.intro hz0 (And.intro hz1 hz2)))
      have hmax : k + 1 ≤ 1000000000 := by omega
      clear hi0 hz0 hz1 hz2
      have HK := hid (HV.out k)
      have HKO := hid (HVO.out k)
      have W1 := IntKind.wrap_i64
      have w1 : IntKind.i64.wrap (P + (k : Int)) = P + (k : Int) := by rw [IntKind.wrap_i64]; omega
      have w2 : IntKind.i64.wrap (P - (k : Int)) = P - (k : Int) := by rw [IntKind.wrap_i64]; omega
      clear W1
      have HA := hid (HMA.out (P + (k : Int)))
      have HB := hid (HMA.out (P - (k : Int)))
      by_cases hq1 : q = 1
      · have hqb : (q == 1) = true := by rw [hq1]; rfl
        have HY : Hid (V k = modI (P - (k : Int)) n) := hid (HK.out.trans (if_pos hq1))
        have HYN : Hid ((((V k).toNat : Nat) : Int) = modI (P - (k : Int)) n) := hid (by rw [← HY.out]; have := HKO.out; omega)
        clear hq1
        generalize modI (P - (k : Int)) n = y at *
        gi_upto_region 8 with (first | (gi_at_call 36; ((with_reducible refine (HM1.out _).mono ?_); rintro e wa ⟨rfl, rfl⟩)) | (gi_at_call 36; ((with_reducible refine (HA.out _).mono ?_); rintro e wb ⟨rfl, rfl⟩)) | (gi_at_call 36; ((with_reducible refine (HM2.out _).mono ?_); rintro e wc ⟨rfl, rfl⟩)) | (gi_at_call 36; ((with_reducible refine (HB.out _).mono ?_); rintro e wd ⟨rfl, rfl⟩)))
        have hxn := (Ext.refl wr).alloc (.cells #[.int .i64 y] 3)
        have HRA := hid (HRW.out.mono hxn)
        have HXA := hid (HX.out.trans hxn)
        have HNW : Hid (∀ j z, ([.int .i64 y] : List Value)[j]? = some z → (wr.alloc (.cells #[.int .i64 y] 3)).cell? ((⟨wr.heap.size, 0, none⟩ : Addr).add j) = some z) := fun j z hj => by rw [Addr.add_mid, Nat.zero_add, new_cell _ _ rfl]; simpa using hj
        clear hxn
        gi_wp2_with (refine wpIn_append_row (fun _ => trivial) rfl (.tmp 30) (.tmp 32) rfl Try.underlying35 HZ.out.1 HZ.out.2.1 HZ.out.2.2.1 HZ.out.2.2.2 (by simp [Value.cells]) (by omega) (v := u5) rfl HRA.out ⟨wr.heap.size, 0, none⟩ 1 rfl [.int .i64 y] rfl HNW.out (fun u hu => by simp at hu; subst hu; rfl) hmax (by omega) ?_; intro v' w' hrow' hgr' how'; obtain ⟨sa', sn', sc', rfl⟩ := hrow'.isSlice)
        have hx4 : Ext w w' := ext_grown HXA.out hgr' fun g hg => HOWN.out g hg
        have hown' : ∀ g, (Value.slice sa' sn' sc').ownBlock = some g → w.heap.size ≤ g := fun g hg => by
          rcases how' with e | e
          · exact HOWN.out g (by rw [← e]; exact hg)
          · rw [hg] at e; cases e; have := HX.out.size; simp; omega
        have HN := hid (And.intro hx4 (And.intro (show Row w' 3 1 (.slice sa' sn' sc') (k + 1) (natsV (T (k + 1))) from by rw [HTS.out, natsV_snoc, HYN.out]; exact hrow') hown'))
        clear hx4 hown' hrow' hgr' how'
        go_roundw
        case rel => exact ⟨k + 1, by omega, by go_num, HN⟩
        case measure => simp [intOf]; omega
      · have hqb : (q == 1) = false := by simpa using hq1
        have HY : Hid (V k = modI (P + (k : Int)) n) := hid (HK.out.trans (if_neg hq1))
        have HYN : Hid ((((V k).toNat : Nat) : Int) = modI (P + (k : Int)) n) := hid (by rw [← HY.out]; have := HKO.out; omega)
        clear hq1
        generalize modI (P + (k : Int)) n = y at *
        gi_upto_region 8 with (first | (gi_at_call 36; ((with_reducible refine (HM1.out _).mono ?_); rintro e wa ⟨rfl, rfl⟩)) | (gi_at_call 36; ((with_reducible refine (HA.out _).mono ?_); rintro e wb ⟨rfl, rfl⟩)) | (gi_at_call 36; ((with_reducible refine (HM2.out _).mono ?_); rintro e wc ⟨rfl, rfl⟩)) | (gi_at_call 36; ((with_reducible refine (HB.out _).mono ?_); rintro e wd ⟨rfl, rfl⟩)))
        have hxn := (Ext.refl wr).alloc (.cells #[.int .i64 y] 3)
        have HRA := hid (HRW.out.mono hxn)
        have HXA := hid (HX.out.trans hxn)
        have HNW : Hid (∀ j z, ([.int .i64 y] : List Value)[j]? = some z → (wr.alloc (.cells #[.int .i64 y] 3)).cell? ((⟨wr.heap.size, 0, none⟩ : Addr).add j) = some z) := fun j z hj => by rw [Addr.add_mid, Nat.zero_add, new_cell _ _ rfl]; simpa using hj
        clear hxn
        gi_wp2_with (refine wpIn_append_row (fun _ => trivial) rfl (.tmp 30) (.tmp 32) rfl Try.underlying35 HZ.out.1 HZ.out.2.1 HZ.out.2.2.1 HZ.out.2.2.2 (by simp [Value.cells]) (by omega) (v := u5) rfl HRA.out ⟨wr.heap.size, 0, none⟩ 1 rfl [.int .i64 y] rfl HNW.out (fun u hu => by simp at hu; subst hu; rfl) hmax (by omega) ?_; intro v' w' hrow' hgr' how'; obtain ⟨sa', sn', sc', rfl⟩ := hrow'.isSlice)
        have hx4 : Ext w w' := ext_grown HXA.out hgr' fun g hg => HOWN.out g hg
        have hown' : ∀ g, (Value.slice sa' sn' sc').ownBlock = some g → w.heap.size ≤ g := fun g hg => by
          rcases how' with e | e
          · exact HOWN.out g (by rw [← e]; exact hg)
          · rw [hg] at e; cases e; have := HX.out.size; simp; omega
        have HN := hid (And.intro hx4 (And.intro (show Row w' 3 1 (.slice sa' sn' sc') (k + 1) (natsV (T (k + 1))) from by rw [HTS.out, natsV_snoc, HYN.out]; exact hrow') hown'))
        clear hx4 hown' hrow' hgr' how'
        go_roundw
        case rel => exact ⟨k + 1, by omega, by go_num, HN⟩
        case measure => simp [intOf]; omega
    · obtain rfl : k = n := by omega
      have HF := hid (And.intro HI.out.1 (ints_row (f := T k) (by rw [HTL.out]; exact HI.out.2.1) (by rw [HTL.out]; omega)))
      clear HI
      gi_wp2
      go_ret
      exact ⟨_, rfl, HF.out.1, HF.out.2⟩

end Go.Proofs.Ytfkehbhlagpmcaa
