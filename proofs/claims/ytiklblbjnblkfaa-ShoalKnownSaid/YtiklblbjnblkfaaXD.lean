/- The fewest casts; Sure, as it is called from outside. -/
import Derived.Test.YtiklblbjnblkfaaXC
set_option linter.unusedSimpArgs false
set_option linter.unusedVariables false
namespace Go.Proofs.Ytiklblbjnblkfaa
open Go Go.RowKit Go.Shelf

def fcF (D : SeaD) (cs : List Cst) (ps : List (Int × Int)) : Option (List Nat) := (List.range' 0 cs.length).findSome? fun k => seekF D cs (k + 1) [] ps
def fcRes (D : SeaD) (cs : List Cst) (ps : List (Int × Int)) (v : Value) (u : World) : Prop :=
  (fcF D cs ps = none ∧ v = .slice none 0 0) ∨ ∃ l g n c, fcF D cs ps = some l ∧ v = .slice (some ⟨g, 0, none⟩) n c ∧ Row u 3 1 v l.length (natVals l)

set_option maxRecDepth 100000 in
set_option maxHeartbeats 1000000 in
theorem fewestCasts_any (D : SeaD) (cs : List Cst) (hb : seaB D = true) (hcs : cs.length ≤ 8 ∧ ∀ c ∈ cs, (0 ≤ c.cell ∧ c.cell ≤ 1000)) (kv mv : Value) (ps : List (Int × Int)) (w : World) (hpl : ps.length ≤ 80)
    (hpb : ∀ p ∈ ps, (-1000 ≤ p.1 ∧ p.1 ≤ 1000) ∧ (-1000 ≤ p.2 ∧ p.2 ≤ 1000)) (hmv : placesP ps mv w) (hkv : Row w 104 4 kv cs.length (flatC (seaOf D) cs)) :
    Cal 70 #[mv, kv] w fun e w' => ∃ v, e = .returned v ∧ Ext w w' ∧ Hid (fcRes D cs ps v w') := by
  obtain ⟨ka, kc, rfl⟩ := Row.isSliceN hkv
  have HMV := hid hmv
  have HKV := hid hkv
  have HPB := hid hpb
  clear hmv hkv hpb
  gi_enter Try.func70, Try.ntmps70
  gi_wp2_with fail
  have hx0 : Ext w ((w.alloc (.cells #[.slice ka cs.length kc] 100)).alloc (.cells #[.func (.func 96) #[] #[.pointer (some ⟨w.heap.size, 0, none⟩), .pointer (some ⟨w.heap.size + 1, 0, none⟩)]] 137)) := ((Ext.refl w).alloc _).alloc _
  have hb1 : ((w.alloc (.cells #[.slice ka cs.length kc] 100)).alloc (.cells #[.func (.func 96) #[] #[.pointer (some ⟨w.heap.size, 0, none⟩), .pointer (some ⟨w.heap.size + 1, 0, none⟩)]] 137)).heap[w.heap.size]? = some (.cells #[.slice ka cs.length kc] 100 (0, 0)) := two_new
  have hb2 : ((w.alloc (.cells #[.slice ka cs.length kc] 100)).alloc (.cells #[.func (.func 96) #[] #[.pointer (some ⟨w.heap.size, 0, none⟩), .pointer (some ⟨w.heap.size + 1, 0, none⟩)]] 137)).heap[w.heap.size + 1]? = some (.cells #[.func (.func 96) #[] #[.pointer (some ⟨w.heap.size, 0, none⟩), .pointer (some ⟨w.heap.size + 1, 0, none⟩)]] 137 (0, 0)) := by
    have := Ext.new (w := w.alloc (.cells #[.slice ka cs.length kc] 100)) (o := .cells #[.func (.func 96) #[] #[.pointer (some ⟨w.heap.size, 0, none⟩), .pointer (some ⟨w.heap.size + 1, 0, none⟩)]] 137) (Ext.refl _)
    simpa using this
  generalize (w.alloc (.cells #[.slice ka cs.length kc] 100)).alloc (.cells #[.func (.func 96) #[] #[.pointer (some ⟨w.heap.size, 0, none⟩), .pointer (some ⟨w.heap.size + 1, 0, none⟩)]] 137) = w0 at *
  have HX0 := hid hx0
  have HB1 := hid hb1
  have HB2 := hid hb2
  clear hx0 hb1 hb2
  gi_loopw [11] (fun i wr => ∃ k : Nat, i = .int .i64 k ∧ k ≤ cs.length ∧ Hid (Ext w0 wr ∧ fcF D cs ps = (List.range' k (cs.length - k)).findSome? fun k => seekF D cs (k + 1) [] ps)) (fun i _ => cs.length - (intOf i).toNat)
  case atStart => exact ⟨0, rfl, Nat.zero_le _, Ext.refl _, rfl⟩
  case round =>
    obtain ⟨k, rfl, hk, hI⟩ := hrel
    by_cases hlt : k < cs.length
    · have hfs : (List.range' k (cs.length - k)).findSome? (fun k => seekF D cs (k + 1) [] ps) = (seekF D cs (k + 1) [] ps).or ((List.range' (k + 1) (cs.length - (k + 1))).findSome? fun k => seekF D cs (k + 1) [] ps) := by
        have e1 : cs.length - k = (cs.length - (k + 1)) + 1 := by omega
        rw [e1, List.range'_succ, List.findSome?_cons]
        cases seekF D cs (k + 1) [] ps <;> rfl
      have HFS : Hid (fcF D cs ps = (seekF D cs (k + 1) [] ps).or ((List.range' (k + 1) (cs.length - (k + 1))).findSome? fun k => seekF D cs (k + 1) [] ps)) := hI.out.2.trans hfs
      have hxw := HX0.out.trans hI.out.1
      have HSK := hid (seek_any D cs hb hcs w.heap.size (w.heap.size + 1) (.slice ka cs.length kc) (k + 1) [] (.slice none 0 0) mv ps wr (by omega) (by simp; omega) (fun c hc => by simp at hc) (fun h => by simp at h) hpl HPB.out (Row.nil _ _ _) (fun _ => rfl) (Row.mono HMV.out hxw) (hI.out.1.block HB1.out) (hI.out.1.block HB2.out) (HKV.out.mono hxw))
      have hk1 : ((k + 1 : Nat) : Int) = (k : Int) + 1 := by omega
      rw [hk1] at HSK
      have hcb := cell_of (hI.out.1.block HB2.out)
      have h8 := hcs.1
      have HI := hid hI.out.1
      clear hfs hI hxw hk1
      gi_wp2_with (gi_at_call 96; ((with_reducible refine HSK.out.mono ?_); rintro e w5 ⟨v5, rfl, hx5, hr5⟩; rcases hr5.out with ⟨hn, rfl⟩ | ⟨l, fg, fn, fc, hs, rfl, hrl⟩))
      · go_roundw
        case rel => exact ⟨k + 1, by go_num, by omega, Ext.trans HI.out hx5, by rw [HFS.out, hn]; rfl⟩
        case measure => simp [intOf]; omega
      · go_ret
        exact ⟨_, rfl, HX0.out.trans (Ext.trans HI.out hx5), .inr ⟨l, fg, fn, fc, by rw [HFS.out, hs]; rfl, rfl, hrl⟩⟩
    · obtain rfl : k = cs.length := by omega
      have HI := hid hI.out
      rw [Nat.sub_self] at HI
      clear hI
      gi_wp2
      go_ret
      exact ⟨_, rfl, HX0.out.trans HI.out.1, .inl ⟨HI.out.2, rfl⟩⟩

def sureErr (D : SeaD) (rs : List Rep) (wrong hour : Int) (cs : List Cst) : Int :=
  if searchErr D rs wrong hour cs ≠ 0 then searchErr D rs wrong hour cs else if fcF D cs (placesOf D (canF D rs wrong hour.toNat)) = none then 4 else 0
def sureList (D : SeaD) (rs : List Rep) (wrong hour : Int) (cs : List Cst) : List Nat :=
  if searchErr D rs wrong hour cs ≠ 0 then [] else (fcF D cs (placesOf D (canF D rs wrong hour.toNat))).getD []
theorem seekF_ne (D : SeaD) (cs : List Cst) : ∀ (m : Nat) (ch : List Nat) (ps : List (Int × Int)) (l : List Nat), seekF D cs m ch ps = some l → l.length = ch.length + m
  | 0, ch, ps, l, h => by
    unfold seekF at h
    split at h
    · cases h; rfl
    · cases h
  | m + 1, ch, ps, l, h => by
    unfold seekF at h
    obtain ⟨i, _, hi⟩ := List.exists_of_findSome?_eq_some h
    have := seekF_ne D cs m _ _ l hi
    rw [this]; simp; omega
theorem fcF_ne {D : SeaD} {cs : List Cst} {ps : List (Int × Int)} {l : List Nat} (h : fcF D cs ps = some l) : l.length ≠ 0 := by
  obtain ⟨k, _, hk⟩ := List.exists_of_findSome?_eq_some h
  have := seekF_ne D cs _ _ _ _ hk
  rw [this]; simp

set_option maxRecDepth 100000 in
set_option maxHeartbeats 1000000 in
theorem Sure_any (D : SeaD) (lv dv rv cv : Value) (rs : List Rep) (wrong hour : Int) (cs : List Cst) (w : World) (hl : IntsAt w lv D.land) (hd : StepsAt w dv D.drift) (hr : RepsAt w rv rs) (hc : CastsAt w cv cs) :
    Cal 30 #[seaVal D lv dv, rv, .int .i64 wrong, .int .i64 hour, cv] w fun e w' => ∃ v, e = .returned (.tuple #[v, .int .i64 (sureErr D rs wrong hour cs)]) ∧ Ext w w' ∧ Hid (Row w' 3 1 v (sureList D rs wrong hour cs).length (natVals (sureList D rs wrong hour cs))) := by
  unfold seaVal
  gi_enter Try.func30, Try.ntmps30
  have hx := (Ext.refl w).alloc (.cells #[.int .i64 D.wide, .int .i64 D.high, lv, .int .i64 D.hours, dv, .int .i64 D.speed] 25)
  have HN := hid (newSearch_any D lv dv rv cv rs wrong hour cs _ (hl.mono hx) (hd.mono hx) (hr.mono hx) (hc.mono hx))
  rw [seaVal] at HN
  clear hl hd hr hx hc
  by_cases h0 : searchErr D rs wrong hour cs = 0
  rotate_left
  · have HR : Hid (sureErr D rs wrong hour cs = searchErr D rs wrong hour cs) := if_pos h0
    have HL : Hid (sureList D rs wrong hour cs = []) := if_pos h0
    have HA : Hid (∀ e w', NewSearch D rs wrong hour cs e w' → e = .returned (.tuple #[.slice none 0 0, .slice none 0 0, .int .i64 (searchErr D rs wrong hour cs)])) := fun e w' h => by
      rcases h with h | h
      · exact h.2
      · exact absurd h.1 h0
    have hne : (searchErr D rs wrong hour cs != 0) = true := by simpa using h0
    clear h0
    generalize searchErr D rs wrong hour cs = ae at *
    gi_wp2_with (gi_at_call 66; ((with_reducible refine HN.out.mono ?_); rintro e w1 ⟨hx1, hN⟩; have he := HA.out _ _ hN; subst he; clear hN HN))
    exact bodyPost_ret (v := .tuple #[.slice none 0 0, .int .i64 ae]) (results_tmp2 (fn := Try.f30) (t := 10) (u := 11) rfl _ _ _) rfl ⟨_, by rw [HR.out], Ext.after hx1, by rw [HL.out]; exact Row.nil _ _ _⟩
  have HA : Hid (∀ e w', NewSearch D rs wrong hour cs e w' → seaB D = true ∧ castsB (D.wide * D.high) cs = true ∧ ∃ v1 v2, e = .returned (.tuple #[v1, v2, .int .i64 0]) ∧ Hid (Row w' 81 2 v1 (canF D rs wrong hour.toNat).length (flatP (placesOf D (canF D rs wrong hour.toNat))) ∧ Row w' 104 4 v2 cs.length (flatC (seaOf D) cs))) := fun e w' h => by
    rcases h with h | h
    · exact absurd h0 h.1
    · exact ⟨h.2.2.1, h.2.2.2.1, h.2.2.2.2.2⟩
  have HL : Hid (sureList D rs wrong hour cs = (fcF D cs (placesOf D (canF D rs wrong hour.toNat))).getD []) := if_neg (fun h => h h0)
  have HE : Hid (sureErr D rs wrong hour cs = if fcF D cs (placesOf D (canF D rs wrong hour.toNat)) = none then 4 else 0) := if_neg (fun h => h h0)
  clear h0
  gi_wp2_with (first | (gi_at_call 66; ((with_reducible refine HN.out.mono ?_); rintro e w1 ⟨hx1, hN⟩; obtain ⟨hb, hcb, v1, v2, rfl, hrows⟩ := HA.out _ _ hN; clear hN HN HA; have hpl : (placesOf D (canF D rs wrong hour.toNat)).length = (canF D rs wrong hour.toNat).length := (by unfold placesOf; rw [List.length_map]); have hp80 := canF_len D hb rs wrong hour.toNat; rw [← hpl] at hrows hp80; have hco := casts_ok hb hcb; have HFC := hid (fewestCasts_any D cs hb ⟨hco.1, fun c hc => (hco.2.2 c hc).1⟩ v2 v1 _ w1 hp80 (places_ok hb (fun c h => canF_lt h)) hrows.out.1 hrows.out.2); clear hpl hp80 hco)) | (gi_at_call 70; ((with_reducible refine HFC.out.mono ?_); rintro e w2 ⟨v3, rfl, hx2, hres⟩; rcases hres.out with ⟨hn, rfl⟩ | ⟨l, fg, fn, fc, hs, rfl, hrl⟩; rotate_left; obtain ⟨_, _, he3⟩ := hrl.isSliceN; cases he3; have hl0 : ((l.length : Int) == 0) = false := (by have := fcF_ne hs; simpa using this); rotate_left)))
  · exact bodyPost_ret (v := .tuple #[.slice none 0 0, .int .i64 4]) (results_tmp2 (fn := Try.f30) (t := 10) (u := 11) rfl _ _ _) rfl ⟨_, by rw [HE.out, if_pos hn], (Ext.after hx1).trans hx2, by rw [HL.out, hn]; exact Row.nil _ _ _⟩
  · exact bodyPost_ret (v := .tuple #[.slice (some ⟨fg, 0, none⟩) l.length fc, .int .i64 0]) (results_tmp2 (fn := Try.f30) (t := 10) (u := 11) rfl _ _ _) rfl ⟨_, by rw [HE.out, if_neg (by rw [hs]; simp)], (Ext.after hx1).trans hx2, by rw [HL.out, hs]; exact hrl⟩
end Go.Proofs.Ytiklblbjnblkfaa
