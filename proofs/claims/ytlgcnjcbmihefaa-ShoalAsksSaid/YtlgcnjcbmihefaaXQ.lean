/- Lists of numbers: rising ones, which comes first, the search for the fewest numbers that cover everything; the small functions that read or make such lists. -/
import Derived.Test.YtlgcnjcbmihefaaXM
set_option linter.unusedSimpArgs false
set_option linter.unusedVariables false
namespace Go.Proofs.Ytlgcnjcbmihefaa
open Go Go.RowKit Go.Shelf

/-- A list that comes before another one. -/
def befL : List Nat → List Nat → Bool
  | [], [] => false
  | [], _ :: _ => true
  | _ :: _, [] => false
  | a :: az, b :: bs => if a = b then befL az bs else decide (a < b)
/-- Rising numbers below n, none less than k. -/
def rises (n : Nat) : Nat → List Nat → Prop
  | _, [] => True
  | k, a :: az => k ≤ a ∧ a < n ∧ rises n (a + 1) az
theorem rises_len {n : Nat} : ∀ {t : List Nat} {k : Nat}, rises n k t → t.length ≤ n - k
  | [], _, _ => Nat.zero_le _
  | a :: az, k, h => by
    have := rises_len h.2.2
    have h1 := h.1
    have h2 := h.2.1
    rw [List.length_cons]; omega
theorem rises_lt {n : Nat} : ∀ {t : List Nat} {k : Nat}, rises n k t → ∀ i ∈ t, i < n
  | [], _, _, _, hi => by cases hi
  | a :: az, k, h, i, hi => by
    rcases List.mem_cons.mp hi with rfl | hi
    · exact h.2.1
    · exact rises_lt h.2.2 i hi
theorem rises_step {n : Nat} : ∀ {t : List Nat} {k : Nat}, rises n k t → ∀ i (h : i + 1 < t.length), t[i]'(by omega) < t[i + 1]
  | [], _, _, i, h => absurd h (by simp)
  | [a], _, _, i, h => absurd h (by simp)
  | a :: b :: az, k, h, 0, _ => by
    have := h.2.2.1
    simp only [List.getElem_cons_zero, List.getElem_cons_succ]
    omega
  | a :: b :: az, k, h, i + 1, hi => by
    have := rises_step h.2.2 i (by simp only [List.length_cons] at hi ⊢; omega)
    simpa only [List.getElem_cons_succ] using this
theorem rises_weak {n : Nat} {k j : Nat} (hk : j ≤ k) : ∀ {t : List Nat}, rises n k t → rises n j t
  | [], _ => trivial
  | _ :: _, h => ⟨Nat.le_trans hk h.1, h.2⟩
theorem rises_filter {n : Nat} (f : Nat → Bool) : ∀ (len s : Nat), s + len ≤ n → rises n s ((List.range' s len).filter f)
  | 0, s, _ => trivial
  | len + 1, s, h => by
    have ih := rises_filter (n := n) f len (s + 1) (by omega)
    rw [List.range'_succ, List.filter_cons]
    cases f s with
    | true => exact ⟨Nat.le_refl _, by omega, ih⟩
    | false => exact rises_weak (Nat.le_succ s) ih
theorem findSome_range {α : Type} (f : Nat → Option α) : ∀ (len s a : Nat) (r : α), s ≤ a → a < s + len → f a = some r → ∃ i q, s ≤ i ∧ i ≤ a ∧ f i = some q ∧ (List.range' s len).findSome? f = some q
  | 0, s, a, r, h1, h2, _ => absurd h2 (by omega)
  | len + 1, s, a, r, h1, h2, hr => by
    rw [List.range'_succ, List.findSome?_cons]
    cases hs : f s with
    | some q => exact ⟨s, q, Nat.le_refl _, h1, hs, rfl⟩
    | none =>
      have hne : s ≠ a := fun e => by rw [e, hr] at hs; cases hs
      obtain ⟨i, q, h3, h4, h5, h6⟩ := findSome_range f len (s + 1) a r (by omega) (by omega) hr
      exact ⟨i, q, by omega, h4, h5, h6⟩
section
variable {P : Type} (cov : Nat → P → Bool) (n : Nat)
def seekG : Nat → List Nat → List P → Option (List Nat)
  | 0, ch, ps => if ps.length = 0 then some ch else none
  | m + 1, ch, ps => (List.range' (nextI ch) (n - nextI ch)).findSome? fun i => seekG m (ch ++ [i]) (ps.filter fun p => !cov i p)
def coverB (t : List Nat) (ps : List P) : Prop := ∀ p ∈ ps, ∃ i ∈ t, cov i p = true
theorem nextI_add (ch : List Nat) (i : Nat) : nextI (ch ++ [i]) = i + 1 := by
  unfold nextI
  rw [if_neg (by simp)]
  simp
theorem seekG_sound : ∀ (m : Nat) (ch : List Nat) (ps : List P) (l : List Nat), seekG cov n m ch ps = some l → ∃ t, l = ch ++ t ∧ t.length = m ∧ rises n (nextI ch) t ∧ coverB cov t ps
  | 0, ch, ps, l, h => by
    unfold seekG at h
    split at h
    · rename_i h0
      cases h
      have : ps = [] := List.eq_nil_of_length_eq_zero h0
      subst this
      exact ⟨[], by simp, rfl, trivial, fun p hp => by cases hp⟩
    · cases h
  | m + 1, ch, ps, l, h => by
    unfold seekG at h
    obtain ⟨i, hi, hs⟩ := List.exists_of_findSome?_eq_some h
    have hi2 := List.mem_range'_1.mp hi
    obtain ⟨t, rfl, ht, hr, hc⟩ := seekG_sound m _ _ _ hs
    rw [nextI_add] at hr
    refine ⟨i :: t, by simp, by simp [ht], ⟨hi2.1, by omega, hr⟩, fun p hp => ?_⟩
    cases hp2 : cov i p with
    | true => exact ⟨i, List.mem_cons_self, hp2⟩
    | false =>
      obtain ⟨j, hj, hc2⟩ := hc p (List.mem_filter.mpr ⟨hp, by rw [hp2]; rfl⟩)
      exact ⟨j, List.mem_cons_of_mem _ hj, hc2⟩
theorem befL_irrefl : ∀ l, befL l l = false
  | [] => rfl
  | a :: az => by unfold befL; rw [if_pos rfl]; exact befL_irrefl az
theorem seekG_least : ∀ (m : Nat) (ch : List Nat) (ps : List P) (t : List Nat), rises n (nextI ch) t → t.length = m → coverB cov t ps → ∃ u, seekG cov n m ch ps = some (ch ++ u) ∧ befL t u = false
  | 0, ch, ps, t, hr, ht, hc => by
    have : t = [] := List.eq_nil_of_length_eq_zero ht
    subst this
    have hp : ps = [] := by
      cases ps with
      | nil => rfl
      | cons p ps => obtain ⟨i, hi, _⟩ := hc p List.mem_cons_self; cases hi
    subst hp
    exact ⟨[], by unfold seekG; simp, rfl⟩
  | m + 1, ch, ps, [], hr, ht, hc => absurd ht (by simp)
  | m + 1, ch, ps, a :: az, hr, ht, hc => by
    obtain ⟨u, hu, hb⟩ := seekG_least m (ch ++ [a]) (ps.filter fun p => !cov a p) az (by rw [nextI_add]; exact hr.2.2) (by simpa using ht) (fun p hp => by
      obtain ⟨h1, h2⟩ := List.mem_filter.mp hp
      obtain ⟨i, hi, hci⟩ := hc p h1
      rcases List.mem_cons.mp hi with rfl | hi
      · rw [hci] at h2; cases h2
      · exact ⟨i, hi, hci⟩)
    have h1 := hr.1
    have h2 := hr.2.1
    obtain ⟨i, q, h3, h4, h5, h6⟩ := findSome_range (fun i => seekG cov n m (ch ++ [i]) (ps.filter fun p => !cov i p)) (n - nextI ch) (nextI ch) a _ h1 (by omega) hu
    obtain ⟨v, rfl, hv, _, _⟩ := seekG_sound cov n _ _ _ _ h5
    refine ⟨i :: v, by unfold seekG; rw [h6]; simp, ?_⟩
    unfold befL
    by_cases e : a = i
    · subst e
      rw [if_pos rfl]
      have h5' : seekG cov n m (ch ++ [a]) (ps.filter fun p => !cov a p) = some (ch ++ [a] ++ v) := h5
      rw [hu] at h5'
      have : u = v := List.append_cancel_left (Option.some.inj h5')
      rw [← this]; exact hb
    · rw [if_neg e, decide_eq_false_iff_not]; omega
def fcG (ps : List P) : Option (List Nat) := (List.range' 0 n).findSome? fun k => seekG cov n (k + 1) [] ps
theorem fcG_none {ps : List P} (h : fcG cov n ps = none) (hp : ps ≠ []) (t : List Nat) (hr : rises n 0 t) : ¬ coverB cov t ps := fun hc => by
  have hl := rises_len hr
  cases t with
  | nil =>
    cases ps with
    | nil => exact hp rfl
    | cons p ps => obtain ⟨i, hi, _⟩ := hc p List.mem_cons_self; cases hi
  | cons a az =>
    obtain ⟨u, hu, _⟩ := seekG_least cov n (az.length + 1) [] ps (a :: az) hr rfl hc
    obtain ⟨i, q, _, _, _, h6⟩ := findSome_range (fun k => seekG cov n (k + 1) [] ps) n 0 az.length _ (Nat.zero_le _) (by simp only [List.length_cons] at hl; omega) hu
    unfold fcG at h
    rw [h6] at h; cases h
theorem fcG_some {ps : List P} {l : List Nat} (h : fcG cov n ps = some l) (hp : ps ≠ []) : rises n 0 l ∧ coverB cov l ps ∧ ∀ t, rises n 0 t → coverB cov t ps → l.length ≤ t.length ∧ (t.length = l.length → befL t l = false) := by
  have h0 := h
  unfold fcG at h
  obtain ⟨k, hk, hs⟩ := List.exists_of_findSome?_eq_some h
  obtain ⟨t, rfl, ht, hr, hc⟩ := seekG_sound cov n _ _ _ _ hs
  refine ⟨hr, hc, fun t' hr' hc' => ?_⟩
  have hl := rises_len hr'
  cases t' with
  | nil =>
    cases ps with
    | nil => exact absurd rfl hp
    | cons p ps => obtain ⟨i, hi, _⟩ := hc' p List.mem_cons_self; cases hi
  | cons a az =>
    obtain ⟨u, hu, hb⟩ := seekG_least cov n (az.length + 1) [] ps (a :: az) hr' rfl hc'
    obtain ⟨i, q, _, h4, h5, h6⟩ := findSome_range (fun k => seekG cov n (k + 1) [] ps) n 0 az.length _ (Nat.zero_le _) (by simp only [List.length_cons] at hl; omega) hu
    rw [h6] at h
    cases h
    obtain ⟨t2, e2, ht2, _, _⟩ := seekG_sound cov n _ _ _ _ h5
    simp only [List.nil_append] at e2 hu ⊢
    subst e2
    refine ⟨by rw [ht2, List.length_cons]; omega, fun e => ?_⟩
    have : i = az.length := by rw [ht2, List.length_cons] at e; omega
    subst this
    have h5' : seekG cov n (az.length + 1) [] ps = some _ := h5
    rw [hu] at h5'
    cases h5'
    exact hb
end

/-- A list of numbers as a slice. -/
def NatsAt (w : World) (v : Value) (l : List Nat) : Prop := ∃ a cap, v = .slice a l.length cap ∧ ∀ k (hk : k < l.length), ∃ g, a = some ⟨g, 0, none⟩ ∧ g < w.heap.size ∧ w.cell? ⟨g, k, none⟩ = some (.int .i64 (l[k] : Nat))
theorem NatsAt.mono {w w' : World} {v : Value} {l : List Nat} (h : NatsAt w v l) (hx : Ext w w') : NatsAt w' v l := by
  obtain ⟨a, cap, rfl, hc⟩ := h
  refine ⟨a, cap, rfl, fun k hk => ?_⟩
  obtain ⟨g, e, hg, hcell⟩ := hc k hk
  exact ⟨g, e, Nat.lt_of_lt_of_le hg hx.size, (hx.cell (p := ⟨g, k, none⟩) hg).trans hcell⟩
theorem Row.nats {w : World} {v : Value} {l : List Nat} (h : Row w 3 1 v l.length (natVals l)) : NatsAt w v l := by
  obtain ⟨a, cap, rfl, hc⟩ := h.shape
  refine ⟨a, cap, rfl, fun k hk => ?_⟩
  obtain ⟨g, e, hg, hcell⟩ := hc k (by unfold natVals; rw [List.length_map]; exact hk)
  exact ⟨g, e, hg, by rw [hcell]; simp [natVals]⟩

def bitB (b i : Int) : Bool := bits BinOp.and IntKind.i64 (b / 2 ^ i.toNat) 1 == 1
theorem Bit_any (b i : Int) (w : World) (hb : 0 ≤ b ∧ b ≤ 1000) (hi : 0 ≤ i ∧ i ≤ 8) :
    Cal 73 #[.int .i64 b, .int .i64 i] w fun e w' => e = .returned (.bool (bitB b i)) ∧ w = w' := by
  gi_enter Try.func73, Try.ntmps73
  gi_wp2
  go_ret
  exact ⟨rfl, rfl⟩
def membersF (b : Int) (n : Nat) : List Nat := (List.range n).filter fun i => bitB b i
theorem membersF_succ (b : Int) (k : Nat) : membersF b (k + 1) = membersF b k ++ if bitB b k then [k] else [] := by
  unfold membersF
  rw [List.range_succ, List.filter_append]
  congr 1
  cases h : bitB b k <;> simp [h]
theorem membersF_rises (b : Int) (n : Nat) : rises n 0 (membersF b n) := by
  unfold membersF
  rw [List.range_eq_range']
  exact rises_filter _ n 0 (by omega)
theorem all_bits : ((List.range 9).all fun n => (List.range n).all fun i => bitB (2 ^ n - 1) i) = true := by kernel_rfl
theorem membersF_all {n : Nat} (h : n ≤ 8) (i : Nat) (hi : i < n) : i ∈ membersF (2 ^ n - 1) n := by
  have h1 := List.all_eq_true.mp all_bits n (List.mem_range.mpr (by omega))
  have h2 := List.all_eq_true.mp h1 i (List.mem_range.mpr hi)
  exact List.mem_filter.mpr ⟨List.mem_range.mpr hi, h2⟩

set_option maxHeartbeats 1000000 in
theorem Members_any (b : Int) (n : Nat) (w : World) (hb : 0 ≤ b ∧ b ≤ 1000) (hn : n ≤ 8) :
    Cal 41 #[.int .i64 b, .int .i64 n] w fun e w' => ∃ v, e = .returned v ∧ Ext w w' ∧ Hid (NatsAt w' v (membersF b n)) := by
  gi_enter Try.func41, Try.ntmps41
  gi_wp2_with fail
  gi_loopw [5, 6] (fun v i wr => ∃ k : Nat, k ≤ n ∧ i = .int .i64 k ∧ Hid (Ext w wr ∧ Row wr 3 1 v (membersF b k).length (natVals (membersF b k)) ∧ ∀ g, v.ownBlock = some g → w.heap.size ≤ g)) (fun _ i _ => n - (intOf i).toNat)
  case atStart => exact ⟨0, Nat.zero_le _, rfl, Ext.refl _, Row.nil _ _ _, fun g hg => by simp [Value.ownBlock] at hg⟩
  case round =>
    obtain ⟨k, hk, rfl, hI⟩ := hrel
    by_cases hlt : k < n
    · have HBIT := hid (Bit_any b k wr hb (by omega))
      have HTO := hid (membersF_succ b k)
      have hll : (membersF b k).length ≤ k := Nat.le_trans (List.length_filter_le _ _) (by simp)
      have HI := hid hI.out
      clear hI
      cases hbb : bitB b k with
      | false =>
        rw [hbb] at HBIT HTO
        gi_wp2_with (gi_at_call 73; ((with_reducible refine HBIT.out.mono ?_); rintro e w5 ⟨rfl, rfl⟩))
        go_roundw
        case rel => exact ⟨k + 1, by omega, by go_num, HI.out.1, by rw [HTO.out]; simpa using HI.out.2.1, HI.out.2.2⟩
        case measure => simp [intOf]; omega
      | true =>
        rw [hbb] at HBIT HTO
        obtain ⟨i0, hi0, hz0, hz1, hz2⟩ := info_parts info3
        have HZ := hid (And.intro hi0 (And.intro hz0 (And.intro hz1 hz2)))
        clear hi0 hz0 hz1 hz2
        have hmax : (membersF b k).length + 1 ≤ 1000000000 := by omega
        have HRWW := hid (HI.out.2.1.mono ((Ext.refl wr).alloc (.cells #[.int .i64 k] 3)))
        have HNW : Hid (∀ j u, [Value.int .i64 k][j]? = some u → (wr.alloc (.cells #[.int .i64 k] 3)).cell? ((⟨wr.heap.size, 0, none⟩ : Addr).add j) = some u) := (fun j u hj => by rw [Addr.add_mid, Nat.zero_add, new_cell _ _ rfl]; simpa using hj)
        gi_wp2_with (first | (gi_at_call 73; ((with_reducible refine HBIT.out.mono ?_); rintro e w5 ⟨rfl, rfl⟩)) | (refine wpIn_append_row (fun _ => trivial) rfl (.tmp 15) (.tmp 17) rfl Try.underlying22 HZ.out.1 HZ.out.2.1 HZ.out.2.2.1 HZ.out.2.2.2 (by simp [Value.cells]) (by omega) (v := u5) rfl HRWW.out ⟨wr.heap.size, 0, none⟩ 1 rfl [.int .i64 k] rfl HNW.out (fun u hu => by simp at hu; subst hu; rfl) hmax (by omega) ?_; intro v' w' hrow' hgr' how'))
        have hxb : Ext wr (wr.alloc (.cells #[.int .i64 k] 3)) := Ext.alloc (Ext.refl _) _
        have hbel : Ext w w' := Below.trans (Ext.trans HI.out.1 hxb) ⟨hgr'.os, hgr'.tape, hgr'.output, hgr'.size, fun j hj => hgr'.block j (by have := (Ext.trans HI.out.1 hxb).size; omega) (fun e => by have := HI.out.2.2 j e.symm; omega)⟩
        have hsz := (Ext.trans HI.out.1 hxb).size
        go_roundw
        case rel =>
          refine ⟨k + 1, by omega, by go_num, hbel, ?_, fun g hg => ?_⟩
          · rw [HTO.out]
            show Row w' 3 1 v' (membersF b k ++ [k]).length (natVals (membersF b k ++ [k]))
            rw [natVals_append, List.length_append]
            exact hrow'
          · rcases how' with e | e
            · exact HI.out.2.2 g (by rw [← e]; exact hg)
            · rw [hg] at e; cases e; exact hsz
        case measure => simp [intOf]; omega
    · obtain rfl : k = n := by omega
      have HI := hid hI.out
      clear hI
      gi_wp2
      go_ret
      exact ⟨u5, rfl, HI.out.1, HI.out.2.1.nats⟩

set_option maxHeartbeats 1000000 in
theorem Rising_any (v : Value) (l : List Nat) (n : Nat) (w : World) (h : NatsAt w v l) (hr : rises n 0 l) (hn : n ≤ 1000) :
    Cal 35 #[v, .int .i64 n] w fun e w' => e = .returned (.bool true) ∧ Ext w w' := by
  obtain ⟨la, lcap, rfl, hc⟩ := h
  have HC0 := hid hc
  have HLT := hid (rises_lt hr)
  have HST := hid (rises_step hr)
  have hlen : l.length ≤ n := by have := rises_len hr; omega
  clear hc hr
  gi_enter Try.func35, Try.ntmps35
  gi_wp2_with fail
  gi_loopw [5] (fun i wr => ∃ k : Nat, k ≤ l.length ∧ i = .int .i64 k ∧ Ext w wr) (fun i _ => l.length - (intOf i).toNat)
  case atStart => exact ⟨0, Nat.zero_le _, rfl, Ext.refl _⟩
  case round =>
    obtain ⟨k, hk, rfl, hx⟩ := hrel
    by_cases hlt : k < l.length
    · obtain ⟨g, rfl, hg, hcell⟩ := HC0.out k hlt
      have hln := HLT.out l[k] (List.getElem_mem _)
      have hin : inB (l[k] : Nat) 0 ((n : Int) - 1) = true := by unfold inB; simp; omega
      have HIN := hid fun e : Later wr => in_b (l[k] : Nat) 0 ((n : Int) - 1) true e.val hin
      have HX := hid hx
      by_cases hk0 : k = 0
      · subst hk0
        have HC := hid fun e : Later wr => ((Ext.trans hx e.grown).cell (p := ⟨g, _, none⟩) hg |>.trans hcell)
        clear hcell hg hx hin HC0
        generalize l[0] = x at *
        gi_wp2_with fail
        refine quiet_wide 24 (by kernel_rfl) (by kernel_rfl) ?_
        simp only [List.take_succ_cons, List.take_zero, List.drop_succ_cons, List.drop_zero]
        have q1 := HC.out
        repeat (any_goals (first | go_big_quiet_step ((go_at_call 39; with_reducible exact Cal.quiet_same (HIN.out _))) | quiet_step ((go_at_call 39; with_reducible exact Cal.quiet_same (HIN.out _)))))
        refine wpQuiet_nil ?_
        rintro w5 ⟨⟨_, hx5⟩, rfl⟩
        clear q1 HC HIN
        gi_wp2
        go_roundw
        case rel => exact ⟨0 + 1, by omega, by go_num, HX.out.trans hx5⟩
        case measure => simp [intOf]; omega
      · obtain ⟨m, hm⟩ : ∃ m, k = m + 1 := ⟨k - 1, by omega⟩
        obtain ⟨g', hg', hgl, hcell'⟩ := HC0.out m (by omega)
        cases hg'
        have HST2 := HST.out m (by omega)
        have hle : decide ((l[k] : Int) ≤ (l[m]'(by omega) : Nat)) = false := by
          rw [decide_eq_false_iff_not]
          subst hm
          omega
        have hle2 : decide (l[k] ≤ (l[m]'(by omega))) = false := by
          rw [decide_eq_false_iff_not]
          subst hm
          omega
        have hpos : decide ((0 : Int) < (k : Int)) = true := by rw [decide_eq_true_eq]; omega
        have hpos2 : decide (0 < k) = true := by rw [decide_eq_true_eq]; omega
        have hkm : (k : Int) - 1 = m := by omega
        have HC := hid fun e : Later wr => And.intro ((Ext.trans hx e.grown).cell (p := ⟨g, _, none⟩) hg |>.trans hcell) ((Ext.trans hx e.grown).cell (p := ⟨g, _, none⟩) hgl |>.trans hcell')
        have hml : m < l.length := by omega
        clear hcell hcell' hgl hg hx hin HC0 HST2 HST
        have hx0 := hln
        generalize l[k] = x at *
        generalize l[m]'hml = y at *
        clear hx0
        have HM := hid hm
        clear hm
        gi_wp2_with fail
        refine quiet_wide 24 (by kernel_rfl) (by kernel_rfl) ?_
        simp only [List.take_succ_cons, List.take_zero, List.drop_succ_cons, List.drop_zero]
        have q1 := HC.out
        repeat (any_goals (first | go_big_quiet_step ((go_at_call 39; with_reducible exact Cal.quiet_same (HIN.out _))) | quiet_step ((go_at_call 39; with_reducible exact Cal.quiet_same (HIN.out _)))))
        refine wpQuiet_nil ?_
        rintro w5 ⟨⟨_, hx5⟩, rfl⟩
        clear q1 HC HIN
        gi_wp2
        go_roundw
        case rel => exact ⟨k + 1, by omega, by go_num, HX.out.trans hx5⟩
        case measure => simp [intOf]; omega
    · obtain rfl : k = l.length := by omega
      gi_wp2
      go_ret
      exact ⟨rfl, hx⟩

set_option maxHeartbeats 1000000 in
theorem Before_any (v1 v2 : Value) (xs ys : List Nat) (w : World) (h1 : NatsAt w v1 xs) (h2 : NatsAt w v2 ys) (hl : xs.length = ys.length) (hn : xs.length ≤ 1000) :
    Cal 36 #[v1, v2] w fun e w' => e = .returned (.bool (befL xs ys)) ∧ Ext w w' := by
  obtain ⟨a1, c1, rfl, hc1⟩ := h1
  obtain ⟨a2, c2, rfl, hc2⟩ := h2
  have HC1 := hid hc1
  have HC2 := hid hc2
  have HL := hid hl
  rw [← hl]
  clear hc1 hc2 hl
  gi_enter Try.func36, Try.ntmps36
  gi_wp2_with fail
  gi_loopw [5] (fun i wr => ∃ k : Nat, k ≤ xs.length ∧ i = .int .i64 k ∧ Hid (befL (xs.drop k) (ys.drop k) = befL xs ys) ∧ Ext w wr) (fun i _ => xs.length - (intOf i).toNat)
  case atStart => exact ⟨0, Nat.zero_le _, rfl, rfl, Ext.refl _⟩
  case round =>
    obtain ⟨k, hk, rfl, hI, hx⟩ := hrel
    by_cases hlt : k < xs.length
    · obtain ⟨g1, rfl, hg1, hcell1⟩ := HC1.out k hlt
      have hlt2 : k < ys.length := by rw [← HL.out]; exact hlt
      obtain ⟨g2, rfl, hg2, hcell2⟩ := HC2.out k hlt2
      have HC := hid fun e : Later wr => And.intro ((Ext.trans hx e.grown).cell (p := ⟨g1, _, none⟩) hg1 |>.trans hcell1) ((Ext.trans hx e.grown).cell (p := ⟨g2, _, none⟩) hg2 |>.trans hcell2)
      have HX := hid hx
      have HB : Hid (befL xs ys = if xs[k] = ys[k] then befL (xs.drop (k + 1)) (ys.drop (k + 1)) else decide (xs[k] < ys[k])) := by
        show _ = _
        rw [← hI.out, List.drop_eq_getElem_cons hlt, List.drop_eq_getElem_cons hlt2, befL]
      clear hcell1 hcell2 hg1 hg2 hx hI HC1 HC2
      generalize xs[k] = x at *
      generalize ys[k] = y at *
      by_cases hxy : x = y
      · subst hxy
        rw [if_pos rfl] at HB
        have hd : ((x : Int) != (x : Int)) = false := by simp
        gi_wp2_with fail
        refine quiet_wide 9 (by kernel_rfl) (by kernel_rfl) ?_
        simp only [List.take_succ_cons, List.take_zero, List.drop_succ_cons, List.drop_zero]
        have q1 := HC.out
        repeat (any_goals (first | go_big_quiet_step (fail) | quiet_step (fail)))
        refine wpQuiet_nil ?_
        rintro w5 ⟨⟨_, hx5⟩, rfl⟩
        clear q1 HC
        gi_wp2
        go_roundw
        case rel => exact ⟨k + 1, by omega, by go_num, HB.out.symm, HX.out.trans hx5⟩
        case measure => simp [intOf]; omega
      · rw [if_neg hxy] at HB
        have hd : ((x : Int) != (y : Int)) = true := by simp; omega
        gi_wp2_with fail
        refine quiet_wide 9 (by kernel_rfl) (by kernel_rfl) ?_
        simp only [List.take_succ_cons, List.take_zero, List.drop_succ_cons, List.drop_zero]
        have q1 := HC.out
        repeat (any_goals (first | go_big_quiet_step (fail) | quiet_step (fail)))
        refine wpQuiet_nil ?_
        rintro w5 ⟨⟨_, hx5⟩, rfl⟩
        clear q1
        have HC' := hid fun e : Later w5 => HC.out (Later.mk e.val (Ext.trans hx5 e.grown))
        clear HC
        gi_wp2_with fail
        refine quiet_wide 10 (by kernel_rfl) (by kernel_rfl) ?_
        simp only [List.take_succ_cons, List.take_zero, List.drop_succ_cons, List.drop_zero]
        have q1 := HC'.out
        repeat (any_goals (first | go_big_quiet_step (fail) | quiet_step (fail)))
        refine wpQuiet_nil ?_
        rintro w6 ⟨⟨_, hx6⟩, rfl⟩
        clear q1 HC'
        gi_wp2
        go_ret
        exact ⟨by rw [HB.out]; simp, HX.out.trans (Ext.trans hx5 hx6)⟩
    · obtain rfl : k = xs.length := by omega
      have HB : Hid (befL xs ys = false) := by
        show _ = _
        rw [← hI.out, List.drop_length, HL.out, List.drop_length, befL]
      clear hI
      have hd : decide ((xs.length : Int) < (xs.length : Int)) = false := by simp
      gi_wp2
      go_ret
      exact ⟨by rw [HB.out]; simp, hx⟩
end Go.Proofs.Ytlgcnjcbmihefaa
