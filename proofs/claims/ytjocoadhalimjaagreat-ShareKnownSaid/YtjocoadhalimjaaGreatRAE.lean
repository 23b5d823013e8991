/- slices.Values, AppendSeq, Collect and SortedFunc at the shares. -/
import Derived.Test.YtjocoadhalimjaaGreatRAD
import Derived.Test.YtjocoadhalimjaaGreatRAB
import Derived.StringKeys
set_option linter.unusedSimpArgs false
set_option linter.unusedVariables false
namespace Go.Proofs.YtjocoadhalimjaaGreat
section
open Go Go.RowKit Go.Shelf

theorem keepsFrom_grownS {B : Nat} {W W' : World} {T : TypeId} {sz : Nat} {v : Value} {n : Nat} {xs : List Value} (hr : Row W T sz v n xs) (hg : W.grownBy W' v.ownBlock) : KeepsFrom B W W' :=
  ⟨hg.size, fun k o _ ho hc => grownBy_block hg ho fun e => by have := hr.isCells e.symm ho; rw [this] at hc; cases hc⟩
theorem keepsFrom_extS {B : Nat} {W W' : World} (h : Ext W W') : KeepsFrom B W W' := ⟨h.size, fun k o _ ho _ => h.block ho⟩
/-- The values of a slice of shares, one after the other. -/
theorem values_iter (bx : Nat) (v : Value) (l : List Shr) : IterP (fun _ => False) 122 #[] #[.pointer (some ⟨bx, 0, none⟩)] (l.map fun s => #[shrV s]) (fun W => W.heap[bx]? = some (.cells #[v] 105 (0, 0)) ∧ SharesAt W v l) := by
  intro l0 J Jx W hFt hJ hJx hY h0
  show CallsIn Fence.wide 0 Tryz.prog 122 #[.func (.yield l0) #[] #[], .pointer (some ⟨bx, 0, none⟩)] W _
  have HFt := hid hFt
  have HJ := hid hJ
  have HJx := hid hJx
  have HY := hid hY
  have H0 := hid h0
  have hb := (hFt _ _ h0).1
  obtain ⟨a, cap, rfl, ⟨hcap, hlen⟩, _⟩ := (hFt _ _ h0).2
  have HLM : Hid ((l.map fun s => #[shrV s]).length = l.length) := hid (by simp)
  have cb := cell_of hb
  clear hFt hJ hJx hY h0 hb
  gi_enter Tryz.func122, Tryz.ntmps122
  gi_wp2_with fail
  clear cb
  gi_loopw [4, 7] (fun u4 i wr => ∃ k : Nat, k ≤ l.length ∧ i = .int .i64 k ∧ Hid (J k wr)) (fun _ i _ => l.length - (intOf i).toNat)
  case atStart => exact ⟨0, Nat.zero_le _, rfl, H0⟩
  case round =>
    obtain ⟨k, hk, rfl, HI⟩ := hrel
    clear H0
    by_cases hlt : k < l.length
    · have hki : (k : Int) < (l.length : Int) := by omega
      obtain ⟨a', cap', e, _, hcs⟩ := (HFt.out _ _ HI.out).2
      cases e
      obtain ⟨b, off, rfl, hbb, c0, c1, c2, c3⟩ := hcs k hlt
      have HEL := hid (show (l.map fun s => #[shrV s])[k]'(by rw [HLM.out]; exact hlt) = #[shrV l[k]] by rw [List.getElem_map])
      clear hcs
      generalize hs : l[k] = s at *
      clear hs
      have hx : Ext wr (wr.alloc (.cells #[.string s.name, .int .i64 s.weight, .int .i64 s.pence, .int .i64 s.rest] 146)) := (Ext.refl _).alloc _
      have hn : (wr.alloc (.cells #[.string s.name, .int .i64 s.weight, .int .i64 s.pence, .int .i64 s.rest] 146)).heap[wr.heap.size]? = some (.cells #[.string s.name, .int .i64 s.weight, .int .i64 s.pence, .int .i64 s.rest] 146 (0, 0)) := Ext.new (Ext.refl _)
      gi_upto_region 3 with fail
      have HI := hid (HJ.out _ _ _ HI.out hx)
      clear c0 c1 c2 c3 hx
      generalize wr.alloc (.cells #[.string s.name, .int .i64 s.weight, .int .i64 s.pence, .int .i64 s.rest] 146) = W2 at *
      have cn := cell_of hn
      gi_wp2_with fail
      clear cn
      obtain ⟨fn, tm, asg, bd, hy, hR⟩ := HY.out k (by rw [HLM.out]; exact hlt) W2 HI.out
      rw [HEL.out] at hy
      unfold shrV at hy
      have HR := hid hR
      clear hR
      rw [hy, Oper.uponIn_round]
      clear hy
      refine ⟨fun h => (by cases h), HR.out.mono ?_⟩
      rintro e W' ⟨hkt, ⟨rfl, hJ'⟩ | ⟨rfl, hJx'⟩⟩
      · have HN := hid hJ'
        clear hJ' hkt
        gi_wp2
        go_roundw
        case rel => exact ⟨k + 1, by omega, by go_num, HN⟩
        case measure => simp [intOf]; omega
      · have HX' := hid hJx'
        clear hJx' hkt
        gi_wp2
        exact bodyPost_ret (v := .tuple #[]) (by simp [results, Tryz.results122, go_sem]) rfl ⟨⟨_, rfl⟩, .inr ⟨k, by rw [HLM.out]; exact hlt, HX'.out⟩⟩
    · obtain rfl : k = l.length := by omega
      gi_wp2_with fail
      go_end0
      exact ⟨⟨_, rfl⟩, .inl (by rw [HLM.out]; exact HI.out)⟩
def shrA (x : Shr) : Array Value := #[.string x.name, .int .i64 x.weight, .int .i64 x.pence, .int .i64 x.rest]
set_option maxRecDepth 100000 in
set_option maxHeartbeats 4000000 in
theorem appendSeq_any (bx : Nat) (sv : Value) (l : List Shr) (w : World) (hl : l.length ≤ 1000) (hb : w.heap[bx]? = some (.cells #[sv] 105 (0, 0))) (hs : SharesAt w sv l) :
    Cal 134 #[.slice none 0 0, .func (.func 122) #[] #[.pointer (some ⟨bx, 0, none⟩)]] w fun e w' => ∃ v, e = .returned v ∧ Ext w w' ∧ Row w' 146 4 v l.length (flatS l l.length) ∧ ∀ g, v.ownBlock = some g → w.heap.size ≤ g := by
  have HIT := hid (values_iter bx sv l)
  have HFW := hid (fun (u : World) (hu : Ext w u) => And.intro (hu.block hb) (hs.mono hu))
  have HLM : Hid ((l.map fun s => #[shrV s]).length = l.length) := hid (by simp)
  have HSF := hid (fun (k : Nat) (h : k < l.length) => flatS_succ l h)
  clear hb hs
  refine callsIn_of_wp_marks Tryz.func134 rfl trivial ?_
  simp only [Tryz.ntmps134, List.size_toArray, List.length_cons, List.length_nil, Nat.reduceAdd, Nat.reduceSub, Array.replicate_succ, Array.replicate_zero, List.push_toArray, List.append_toArray, List.nil_append, List.cons_append]
  gi_wp2_with fail
  have hW : Ext w (w.alloc (.cells #[.slice none 0 0] 105)) := (Ext.refl _).alloc _
  have hW0 : (w.alloc (.cells #[.slice none 0 0] 105)).heap[w.heap.size]? = some (.cells #[.slice none 0 0] 105 (0, 0)) := Ext.new (Ext.refl _)
  generalize w.alloc (.cells #[.slice none 0 0] 105) = W at *
  have HWS := hid (show w.heap.size + 1 ≤ W.heap.size by have h := lt_of_block hW0; omega)
  have hbel : Below w.heap.size w W := hW
  refine range_boxedC rfl (enters_of Tryz.func122 (by kernel_rfl) rfl) HIT.out
    (fun r W' => Below w.heap.size w W' ∧ Hid (∃ v, W'.heap[w.heap.size]? = some (.cells #[v] 105 (0, 0)) ∧ Row W' 146 4 v r (flatS l r) ∧ ∀ g, v.ownBlock = some g → W.heap.size ≤ g))
    (fun _ _ _ => False)
    (fun r W' W'' h hp => ⟨hp.past.below h.1 hbel.size (Nat.le_refl _), by obtain ⟨v, h1, h2, h3⟩ := h.2.out; exact ⟨v, hp.cells h1, h2.pastC hp, h3⟩⟩)
    (fun _ _ _ _ h _ => h) (fun r W' h => HFW.out W' h.1) (fun r h => by simp) ⟨hbel, _, hW0, Row.nil _ _ _, fun g hg => by simp [Value.ownBlock] at hg⟩
    (fun r Bx => { tmps := #[.slice none 0 0, .func (.func 122) #[] #[.pointer (some ⟨bx, 0, none⟩)], .pointer (some ⟨w.heap.size, 0, none⟩), undef, .slice none 0 0, .pointer (some ⟨Bx, 0, none⟩), .func (.func 122) #[] #[.pointer (some ⟨bx, 0, none⟩)], .agg (shrA (l.getD r noShr)), undef, undef, undef, undef, undef], defers := [] })
    (fun r => shrA (l.getD r noShr)) 146 ?assign ?body ?done ?stop
  case assign =>
    intro l0 r h W1 K' hK
    have he : (l.map fun s => #[shrV s])[r] = #[.agg (shrA (l.getD r noShr))] := by
      rw [List.getElem_map, getD_of (by rw [← HLM.out]; exact h)]; rfl
    rw [he]
    generalize l.getD r noShr = s at *
    gi_wp2_with (refine wpIn_store_fresh (fun _ => trivial) 146 (.tmp 5) (.tmp 7) rfl (W := W1) (c' := shrA s) rfl rfl rfl size146 rfl (by simp [shrA, Value.oneCell']) ?_)
    exact hK
  case stop =>
    rintro D r c W2 hD hi hf hK
    exact hf.elim
  case body =>
    rintro l0 r Bx W2 hi hl0 hrr ⟨hbelW, HI⟩ hBx hbx
    have hil : r < l.length := by rw [← HLM.out]; exact hi
    have HF1 := hid (HSF.out r hil)
    have hgd : l.getD r noShr = l[r] := getD_of hil
    rw [← hgd] at HF1
    clear hgd HSF
    generalize l.getD r noShr = s at *
    obtain ⟨v, hb2, hrow, hown⟩ := HI.out
    clear HI
    unfold shrA at hbx ⊢
    have hws := HWS.out
    have cB := cell_of hb2
    have c5 := cell_of hbx
    have HBE := hid (show Ext w W2 from hbelW)
    have HB := hid hb2
    have HOWN := hid hown
    have HRW := hid (hrow.mono ((Ext.refl W2).alloc (.cells #[.string s.name, .int .i64 s.weight, .int .i64 s.pence, .int .i64 s.rest] 146)))
    have HB2 := hid (((Ext.refl W2).alloc (.cells #[.string s.name, .int .i64 s.weight, .int .i64 s.pence, .int .i64 s.rest] 146)).block hb2)
    have HNW : Hid (∀ j u, (shrCells s)[j]? = some u → (W2.alloc (.cells #[.string s.name, .int .i64 s.weight, .int .i64 s.pence, .int .i64 s.rest] 146)).cell? ((⟨W2.heap.size, 0, none⟩ : Addr).add j) = some u) := fun j u hj => by rw [Addr.add_mid, Nat.zero_add, new_cell _ _ rfl]; simpa [shrCells] using hj
    obtain ⟨i0, hi0, hz0, hz1, hz2⟩ := info_parts info146
    have HZ := hid (And.intro hi0 (And.intro hz0 (And.intro hz1 hz2)))
    have hmax : r + 1 ≤ 1000000000 := by omega
    have hlb := lt_of_block hb2
    have hBl := lt_of_block hbx
    clear hi0 hz0 hz1 hz2 hrow hown hb2 hbx hbelW hrr
    gi_wp2_with (refine wpIn_append_row (fun _ => trivial) rfl (.tmp 8) (.tmp 10) rfl Tryz.underlying105 HZ.out.1 HZ.out.2.1 HZ.out.2.2.1 HZ.out.2.2.2 (by simp [Value.cells]) (by omega) (v := v) rfl HRW.out ⟨W2.heap.size, 0, none⟩ 1 rfl (shrCells s) rfl HNW.out (fun u hu => by simp [shrCells] at hu; rcases hu with rfl | rfl | rfl | rfl <;> rfl) hmax (by omega) ?_; intro v' w' hrow' hgr' how'; obtain ⟨sa', sn', sc', rfl⟩ := hrow'.isSlice; have hbv' := grownBy_block hgr' HB2.out (fun e => by have := HOWN.out _ e.symm; omega); have hcv' := cell_of hbv'; have hfv' := free_of hbv')
    have hbel' : Ext w w' := Below.trans (HBE.out.alloc _) ⟨hgr'.os, hgr'.tape, hgr'.output, hgr'.size, fun j hj => hgr'.block j (by simp; omega) (fun e => by have := HOWN.out j e.symm; omega)⟩
    have hsz := HBE.out.size
    have hown' : ∀ g, (Value.slice sa' sn' sc').ownBlock = some g → W.heap.size ≤ g := fun g hg => by
      rcases how' with e | e
      · exact HOWN.out g (by rw [← e]; exact hg)
      · rw [hg] at e; cases e; simp; omega
    refine ⟨⟨(keepsFrom_extS ((Ext.refl W2).alloc _)).trans ((keepsFrom_grownS HRW.out hgr').trans ((KeepsOthers.setCell _ _ _).from _)), hbel'.set (Nat.le_refl _) _ _, hid ⟨_, set_same hbv' 0 _, ?_, hown'⟩⟩, KeepP.nothing _ _⟩
    rw [HF1.out]
    exact hrow'.set (fun e => by have := hown' _ e; omega) _ _
  case done =>
    rintro D W2 hD ⟨hbelW, hb2⟩ hK
    obtain ⟨v, e1, e2, e3⟩ := hb2.out
    have hcy := cell_of e1
    have HRW := hid (And.intro e1 (And.intro e2 e3))
    have HBW := hid (show Ext w W2 from hbelW)
    clear e1 e2 e3 hb2 hbelW
    rw [HLM.out] at HRW
    gi_wp2_with fail
    have hws := HWS.out
    refine leave_mark hK (v := v) (by simp [results, Tryz.results134, go_sem]) ⟨v, rfl, ?_, ?_, ?_⟩
    · exact (put_past (B := w.heap.size) _ _ (by omega)).below HBW.out (Nat.le_refl _) (Nat.le_refl _)
    · exact HRW.out.2.1.kept fun k o hk ho => by
        rw [World.putObj_heap_other (by rintro rfl; have h := HRW.out.2.1.isCells hk ho; rw [hK] at ho; cases ho; cases h)]; exact ho
    · intro g hg
      have := HRW.out.2.2 g hg; omega
end
section
open Go Go.RowKit Go.Shelf Go.Lib Go.Sort

def ltFn (a : Nat) : Value := .func (.func 122) #[] #[.pointer (some ⟨a, 0, none⟩)]
set_option maxHeartbeats 1000000 in
theorem valuesF_any (a : Option Addr) (n cap : Nat) (w : World) : Cal 114 #[.slice a n cap] w fun e w' => e = .returned (.func (.func 122) #[] #[.pointer (some ⟨w.heap.size, 0, none⟩)]) ∧ w' = w.alloc (.cells #[.slice a n cap] 105) := by
  gi_enter Tryz.func114, Tryz.ntmps114
  gi_wp2
  go_ret
  exact ⟨rfl, rfl⟩
set_option maxHeartbeats 1000000 in
theorem collect_any (bx : Nat) (sv : Value) (l : List Shr) (w : World) (hl : l.length ≤ 1000) (hb : w.heap[bx]? = some (.cells #[sv] 105 (0, 0))) (hs : SharesAt w sv l) :
    Cal 120 #[.func (.func 122) #[] #[.pointer (some ⟨bx, 0, none⟩)]] w fun e w' => ∃ v, e = .returned v ∧ Ext w w' ∧ Row w' 146 4 v l.length (flatS l l.length) ∧ ∀ g, v.ownBlock = some g → w.heap.size ≤ g := by
  have HA := hid (appendSeq_any bx sv l w hl hb hs)
  clear hb hs
  gi_enter Tryz.func120, Tryz.ntmps120
  gi_wp2_with (gi_at_call 134; ((with_reducible refine HA.out.mono ?_); rintro e w1 ⟨v, rfl, hx, hr, ho⟩))
  go_ret
  exact ⟨v, rfl, hx, hr, ho⟩
set_option maxHeartbeats 1000000 in
theorem sortedF_any (bx : Nat) (sv : Value) (l : List Shr) (w : World) (hl : l.length ≤ 1000) (hb : w.heap[bx]? = some (.cells #[sv] 105 (0, 0))) (hs : SharesAt w sv l) :
    Cal 113 #[.func (.func 122) #[] #[.pointer (some ⟨bx, 0, none⟩)], fnV 92] w fun e w' => ∃ v m, e = .returned v ∧ Ext w w' ∧ m.Perm l ∧ byRests m ∧ ShB w' v m := by
  have HA := hid (collect_any bx sv l w hl hb hs)
  have HS := hid (fun (v : Value) (u : World) (hr : Row u 146 4 v l.length (flatS l l.length)) => sortS_any l hl v u hr)
  clear hb hs
  gi_enter Tryz.func113, Tryz.ntmps113
  gi_wp2_with (first | (gi_at_call 120; ((with_reducible refine HA.out.mono ?_); rintro e w1 ⟨v, rfl, hx, hr, ho⟩)) | (gi_at_call 121; ((with_reducible refine (HS.out _ _ hr).mono ?_); rintro e w2 ⟨rfl, hg, m, hm1, hm2, hm3⟩)))
  go_ret
  exact ⟨v, m, rfl, ⟨hg.os.trans hx.os, hg.tape.trans hx.tape, hg.output.trans hx.output, Nat.le_trans hx.size hg.size, fun j hj => (hg.block j (by have := hx.size; omega) (fun e => by have := ho j e.symm; omega)).trans (Below.block hx j hj)⟩, hm1, hm2, hm3⟩
/-- The one order in which the shares get a penny more. -/
def sortR (l : List Shr) : List Shr := l.mergeSort fun a b => !restLt b a
theorem restLt_irr (a : Shr) : restLt a a = false := by simp [restLt, nmLt_irr]
theorem restLt_n {x y z : Shr} (h : restLt x y = false) (k : restLt y z = false) : restLt x z = false := by
  have := swoRest.ntrans x y z (by rw [ltRest]; exact h) (by rw [ltRest]; exact k)
  rwa [ltRest] at this
theorem restLt_asym {x y : Shr} (h : restLt x y = true) : restLt y x = false := by
  cases hk : restLt y x with
  | false => rfl
  | true =>
    have := swoRest.trans x y x (by rw [ltRest]; exact h) (by rw [ltRest]; exact hk)
    rw [ltRest, restLt_irr] at this; cases this
theorem sortR_perm (l : List Shr) : (sortR l).Perm l := List.mergeSort_perm _ _
theorem sortR_pair (l : List Shr) : byRests (sortR l) := by
  have h := List.pairwise_mergeSort (le := fun a b : Shr => !restLt b a) (fun a b c h k => by
    rw [Bool.not_eq_true'] at *; exact restLt_n k h) (fun a b => by
    cases h : restLt b a with
    | false => rfl
    | true => rw [restLt_asym h]; rfl) l
  exact h.imp fun {a b} h => by simpa using h
theorem names_inj {a b : ByteArray} (h : a.toList = b.toList) : a = b := by
  rw [Lib.toList_data, Lib.toList_data] at h
  cases a; cases b
  exact congrArg ByteArray.mk (Array.toList_inj.1 h)
theorem nodup_eq {l : List Shr} (hn : (l.map (·.name)).Nodup) {a b : Shr} (ha : a ∈ l) (hb : b ∈ l) (he : a.name = b.name) : a = b := by
  induction l with
  | nil => cases ha
  | cons x l ih =>
    rw [List.map_cons, List.nodup_cons] at hn
    rcases List.mem_cons.1 ha with rfl | ha' <;> rcases List.mem_cons.1 hb with rfl | hb'
    · rfl
    · exact absurd (List.mem_map.2 ⟨b, hb', he.symm⟩) hn.1
    · exact absurd (List.mem_map.2 ⟨a, ha', he⟩) hn.1
    · exact ih hn.2 ha' hb'
theorem sortR_eq {l m : List Shr} (hn : (l.map (·.name)).Nodup) (hp : m.Perm l) (hs : byRests m) : m = sortR l := by
  refine List.Perm.eq_of_pairwise (le := fun a b : Shr => restLt b a = false) (fun a b ha hb h1 h2 => ?_) hs (sortR_pair l) (hp.trans (sortR_perm l).symm)
  have ha' := hp.mem_iff.1 ha
  have hb' := (sortR_perm l).mem_iff.1 hb
  refine nodup_eq hn ha' hb' (names_inj ?_)
  simp only [restLt, Bool.or_eq_false_iff, Bool.and_eq_false_iff, decide_eq_false_iff_not, beq_eq_false_iff_ne] at h1 h2
  have e : a.rest = b.rest := by omega
  exact nmLt_tot (h2.2.resolve_left fun h => h e) (h1.2.resolve_left fun h => h e.symm)
end
section
open Go Go.RowKit Go.Shelf Go.MapKept

/-- A map as the list of its entries; its keys are different. -/
abbrev NMap := List (ByteArray × Value)
def NMap.find (m : NMap) (s : ByteArray) : Option Value := (List.find? (fun e => e.1.toList == s.toList) m).map (·.2)
def NMapAt (w : World) (bm : Nat) (m : NMap) : Prop :=
  ∃ es clock, w.heap[bm]? = some (.map es clock) ∧ es.toList.map (fun e => (e.key, e.val)) = m.map (fun e => (Value.string e.1, e.2)) ∧ (m.map (·.1)).Nodup
theorem find_none {m : NMap} {s : ByteArray} (h : ∀ e ∈ m, e.1 ≠ s) : m.find s = none := by
  unfold NMap.find
  rw [List.find?_eq_none.2 fun e he hb => h e he (names_inj (by simpa using hb))]; rfl
theorem find_at {m : NMap} {s : ByteArray} (hn : (m.map (·.1)).Nodup) {v : Value} (h : (s, v) ∈ m) : m.find s = some v := by
  induction m with
  | nil => cases h
  | cons e m ih =>
    rw [List.map_cons, List.nodup_cons] at hn
    unfold NMap.find
    rw [List.find?_cons]
    rcases List.mem_cons.1 h with rfl | h'
    · simp
    · have hne : e.1 ≠ s := fun he => hn.1 (by rw [he]; exact List.mem_map.2 ⟨_, h', rfl⟩)
      have : (e.1.toList == s.toList) = false := by
        rw [beq_eq_false_iff_ne]; exact fun hb => hne (names_inj hb)
      rw [this]
      exact ih hn.2 h'
theorem find_keyN (w : World) (s : ByteArray) (es : List MapEntry) (m : NMap) (h : es.map (fun e => (e.key, e.val)) = m.map (fun e => (Value.string e.1, e.2))) (hn : (m.map (·.1)).Nodup) :
    ∃ r, (Instr.findKey 9 (.string s) es).run Tryz.prog w = .ok r w ∧ r.map (·.2) = m.find s ∧ (∀ j v, r = some (j, v) → ∃ e, m[j]? = some e ∧ e.1 = s) := by
  have hlen : es.length = m.length := by have := congrArg List.length h; simpa using this
  have hget : ∀ j (hj : j < es.length), es[j].key = .string (m[j]'(by omega)).1 ∧ es[j].val = (m[j]'(by omega)).2 := fun j hj => by
    have h1 : (es.map (fun e => (e.key, e.val)))[j]? = (m.map (fun e => (Value.string e.1, e.2)))[j]? := by rw [h]
    rw [List.getElem?_map, List.getElem?_map, List.getElem?_eq_getElem hj, List.getElem?_eq_getElem (by omega)] at h1
    simp at h1
    exact h1
  have hks : ∀ x ∈ es, IsKey .string x.key := fun x hx => by
    obtain ⟨j, hj, rfl⟩ := List.getElem_of_mem hx
    rw [(hget j hj).1]; trivial
  rcases findNow_spec (d := .string) (k := .string s) trivial es 0 hks with ⟨h1, h2⟩ | ⟨j, e, h1, h2, h3⟩
  · refine ⟨none, run_findKey Tryz.underlying9 h1, ?_, fun j v hj => by cases hj⟩
    rw [find_none]; rfl
    intro e he hs
    obtain ⟨j, hj, rfl⟩ := List.getElem_of_mem he
    exact h2 es[j] (List.getElem_mem _) (by rw [(hget j (by omega)).1, hs])
  · have hj : j < es.length := by
      rw [List.getElem?_eq_some_iff] at h2; exact h2.1
    have he : es[j] = e := by rw [List.getElem?_eq_getElem hj] at h2; exact Option.some.inj h2
    have hk : (m[j]'(by omega)).1 = s := by
      have := (hget j hj).1
      rw [he, h3] at this
      exact (Value.string.inj this).symm
    refine ⟨some (0 + j, e.val), run_findKey Tryz.underlying9 h1, ?_, fun j' v hj' => ?_⟩
    · have hv := (hget j hj).2
      rw [he] at hv
      rw [find_at hn (v := e.val) (s := s) (by rw [hv, ← hk]; exact List.getElem_mem _)]; rfl
    · simp at hj'
      obtain ⟨rfl, _⟩ := hj'
      exact ⟨m[j], List.getElem?_eq_getElem (by omega), hk⟩
theorem check_name (e : Bool) (s : ByteArray) (w : World) : (Instr.checkKey e 10000 9 (.string s)).run Tryz.prog w = .ok () w := run_checkKey Tryz.underlying9 (k := .string s) trivial e 9999
theorem lookup_name {w : World} {bm : Nat} {m : NMap} (h : NMapAt w bm m) (s : ByteArray) {t e : TypeId} {z : Value} (ht : Tryz.prog.underlying t = some (.map 9 e)) (hz : (zeroValue e).run Tryz.prog w = .ok z w) :
    (Instr.lookup t (.map (some bm)) (.string s) false).run Tryz.prog w = .ok ((m.find s).getD z) w := by
  obtain ⟨es, clock, hb, hm, hn⟩ := h
  obtain ⟨r, hr, hf, _⟩ := find_keyN w s es.toList m hm hn
  have hg : (getObj bm).run Tryz.prog w = .ok (.map es clock) w := by simp [getObj, Sem.run, hb]
  unfold Instr.lookup
  simp only [Sem.run_bind, run_underlying ht, Result.andThen_ok, Sem.run_pure, hg, check_name, hr]
  cases r with
  | none =>
    simp at hf
    rw [← hf]
    simp [go_sem, hz]
  | some x =>
    obtain ⟨i, v⟩ := x
    simp at hf
    rw [← hf]
    simp [go_sem]
theorem update_name {w : World} {bm : Nat} {m : NMap} (h : NMapAt w bm m) (s : ByteArray) (v : Value) (hno : m.find s = none) {t e : TypeId} (ht : Tryz.prog.underlying t = some (.map 9 e)) :
    ∃ o, (Instr.mapUpdate t (.map (some bm)) (.string s) v).run Tryz.prog w = .ok () (w.putObj bm o) ∧ NMapAt (w.putObj bm o) bm (m ++ [(s, v)]) := by
  obtain ⟨es, clock, hb, hm, hn⟩ := h
  obtain ⟨r, hr, hf, _⟩ := find_keyN w s es.toList m hm hn
  rw [hno] at hf
  have hrn : r = none := by cases r <;> simp at hf ⊢
  subst hrn
  have hg : (getObj bm).run Tryz.prog w = .ok (.map es clock) w := by simp [getObj, Sem.run, hb]
  refine ⟨.map (es.push { key := .string s, val := v, born := clock }) (clock + 1), ?_, _, _, World.putObj_heap_same (lt_of_block hb), ?_, ?_⟩
  · unfold Instr.mapUpdate
    simp only [Sem.run_bind, run_underlying ht, Result.andThen_ok, Sem.run_pure, hg, check_name, hr]
    simp [setObj, Sem.run, hb, World.putObj]
  · simp [hm]
  · rw [List.map_append, List.nodup_append]
    refine ⟨hn, by simp, fun a ha b hb' hab => ?_⟩
    simp at hb'
    subst hb'
    subst hab
    obtain ⟨e, he, hs⟩ := List.mem_map.1 ha
    have := find_at hn (s := a) (v := e.2) (by rw [← hs]; exact he)
    rw [hno] at this; cases this
end
end Go.Proofs.YtjocoadhalimjaaGreat
