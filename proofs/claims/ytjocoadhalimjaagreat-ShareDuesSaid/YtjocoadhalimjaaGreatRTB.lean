/- The reference's shares: of; a name put into its place; rows built of several parts in a drawn region. -/
import Derived.Test.YtjocoadhalimjaaGreatRTA
import Derived.Test.YtjocoadhalimjaaGreatRBV
import Derived.Test.YtjocoadhalimjaaGreatRBM
import Derived.Test.YtjocoadhalimjaaGreatRBS
import Derived.Test.YtjocoadhalimjaaGreatRBH
import Derived.Test.YtjocoadhalimjaaGreatRBJ
set_option linter.unusedSimpArgs false
set_option linter.unusedVariables false
namespace Go.Proofs.YtjocoadhalimjaaGreat
section
open Go Go.RowKit Go.Shelf

def duOf (V : Voy) (nm : ByteArray) : Du := ⟨nm, dvv V nm 0, dvv V nm 1, dvv V nm 2⟩
theorem duF_of (V : Voy) (ns : List ByteArray) : duF (ns.map (duOf V)) = dueF V ns := by
  unfold duF dueF
  rw [List.flatMap_map]; rfl
theorem dues_at {V : Voy} {ns : List ByteArray} {w : World} {v : Value} (h : Row w 53 4 v ns.length (dueF V ns)) (hl : ns.length ≤ 30) : DuAt w v (ns.map (duOf V)) := by
  refine DuAt.of_row (l := ns.map (duOf V)) ?_ (by rw [List.length_map]; omega)
  rw [List.length_map, duF_of]; exact h
theorem row_ne {w : World} {T ty : TypeId} {sz n b : Nat} {v : Value} {xs : List Value} {cs : Array Value} (h : Row w T sz v n xs) (hb : w.heap[b]? = some (.cells cs ty (0, 0))) (hT : T ≠ ty) : ∀ g, v.ownBlock = some g → g ≠ b := by
  rintro g hg rfl
  rcases h.2 with ⟨rfl, _⟩ | ⟨g', cap, cur, rfl, hc, _⟩
  · simp [Value.ownBlock] at hg
  · simp [Value.ownBlock] at hg; subst hg
    rw [hb] at hc; cases hc; exact hT rfl
/-- What a name gets of a part. -/
def ofV (P : Int) (l : List Stk) (nm : ByteArray) : Int := valTo l (giveTo P l) nm l.length
theorem val_none (l : List Stk) (nm : ByteArray) : ∀ k, valTo l (giveTo 0 l) nm k = 0
  | 0 => rfl
  | k + 1 => by
    unfold valTo
    rw [give_none, val_none l nm k]; simp
theorem val_miss {l : List Stk} {A : Nat → Int} {nm : ByteArray} : ∀ k, (∀ j, j < k → (l.getD j noStk).name ≠ nm) → valTo l A nm k = 0
  | 0, _ => rfl
  | k + 1, h => by
    unfold valTo
    rw [if_neg (h k (by omega))]; exact val_miss k fun j hj => h j (by omega)
set_option maxRecDepth 100000 in
set_option maxHeartbeats 8000000 in
theorem of_any (P : Int) (v : Value) (l : List Stk) (nm : ByteArray) (w : World) (hv : StakesAt w v l) (hc : CanDiv P l) : Cal 61 #[.int .i64 P, v, .string nm] w fun e w' => e = .returned (.int .i64 (ofV P l nm)) ∧ Ext w w' := by
  have HWH := hid (whole_any v l w hv (fun s hs => by have := hc.w s hs; omega) (by have := hc.len; omega))
  have HS0 : Hid (0 ≤ sumW l) := hid (sumW_nonneg fun s hs => (hc.w s hs).1)
  have HDV := hid (fun (hA : 0 < sumW l) => refdiv_any P v l w hv hc.pb hc.w hc.len hA hc.nd)
  have HCD := hid hc
  obtain ⟨a, cap, rfl, ⟨hcap, hlen⟩, hcl⟩ := hv
  have HC := hid hcl
  have HL := hid hc.len
  clear hc hcl
  gi_enter Tryz.func61, Tryz.ntmps61
  gi_wp2_with fail
  gi_loopw [7] (fun i wr => wr = w ∧ ∃ k : Nat, k ≤ l.length ∧ i = .int .i64 k ∧ Hid (∀ j, j < k → (l.getD j noStk).name ≠ nm ∨ sumW l = 0)) (fun i _ => l.length - (intOf i).toNat)
  case atStart => exact ⟨rfl, 0, Nat.zero_le _, rfl, hid fun j h => by omega⟩
  case round =>
    obtain ⟨rfl, k, hk, rfl, HI⟩ := hrel
    have hl10 := HL.out
    by_cases hlt : k < l.length
    · have hki : (k : Int) < (l.length : Int) := by omega
      obtain ⟨b, off, rfl, hbb, c0, c1⟩ := HC.out k hlt
      have HLT := hid hlt
      by_cases he : l[k].name.toList = nm.toList
      · have heb : (l[k].name.toList == nm.toList) = true := by simpa using he
        by_cases hA : sumW l = 0
        · have HN : Hid (∀ j, j < k + 1 → (l.getD j noStk).name ≠ nm ∨ sumW l = 0) := hid fun j _ => .inr hA
          rw [hA] at HWH
          have hg0 : ¬ (0 : Int) < 0 := by omega
          generalize l[k].name = x at *
          clear he hA HDV HI
          gi_wp2_with (gi_at_call 51; ((with_reducible refine (HWH.out).mono ?_); rintro e w3 ⟨rfl, rfl⟩))
          go_roundw
          case rel => first | exact ⟨rfl, k + 1, HLT.out, by go_num, HN⟩ | exact ⟨trivial, k + 1, HLT.out, by go_num, HN⟩
          case measure => simp [intOf]; have := HLT.out; omega
        · have hpos : 0 < sumW l := by have := HS0.out; omega
          have HOF : Hid (ofV P l nm = giveTo P l k) := hid (by
            unfold ofV
            have hx : nm = (l.getD k noStk).name := by rw [getD_of hlt]; exact (names_inj he).symm
            rw [hx]; exact val_at HCD.out.nd _ (Nat.le_refl _) k hlt)
          have HDW := hid (HDV.out hpos)
          generalize sumW l = S at *
          generalize l[k].name = x at *
          clear he hA HI HCD HS0 HDV
          gi_upto_region 5 with (gi_at_call 51; ((with_reducible refine (HWH.out).mono ?_); rintro e w3 ⟨rfl, rfl⟩))
          clear c0 c1
          gi_wp2_with (gi_at_call 52; ((with_reducible refine (HDW.out).mono ?_); rintro e w4 ⟨r, rfl, hx4, HR⟩; obtain ⟨g, cap2, cur, rfl, hcp, hg, hcl, hrest⟩ := HR.out.1.cells1 HLT.out; have hval : (intsF l.length (giveTo P l))[k]? = some (.int .i64 (giveTo P l k)) := (by simp [intsF, HLT.out]); rw [hval] at hcl; have HX4 := hid hx4; clear hx4 hval hrest))
          go_ret
          exact ⟨by rw [HOF.out]; rfl, HX4.out⟩
      · have HN : Hid (∀ j, j < k + 1 → (l.getD j noStk).name ≠ nm ∨ sumW l = 0) := hid fun j hj => by
          by_cases h : j < k
          · exact HI.out j h
          · obtain rfl : j = k := by omega
            left
            rw [getD_of hlt]
            intro e; exact he (congrArg ByteArray.toList e)
        have heb : (l[k].name.toList == nm.toList) = false := by simpa using he
        generalize l[k].name = x at *
        clear he HDV HI
        gi_wp2_with fail
        go_roundw
        case rel => first | exact ⟨rfl, k + 1, HLT.out, by go_num, HN⟩ | exact ⟨trivial, k + 1, HLT.out, by go_num, HN⟩
        case measure => simp [intOf]; have := HLT.out; omega
    · obtain rfl : k = l.length := by omega
      have hki : ¬ (l.length : Int) < (l.length : Int) := by omega
      have HOF : Hid (ofV P l nm = 0) := hid (by
        rcases HCD.out.pos with h0 | hA
        · subst h0; exact val_none l nm _
        · exact val_miss _ fun j hj => (HI.out j hj).resolve_right (by omega))
      gi_wp2_with fail
      go_ret
      exact ⟨by rw [HOF.out]; rfl, Ext.refl _⟩
/-- A name, put into its place. -/
def insN (ns : List ByteArray) (p : Nat) (nm : ByteArray) : List ByteArray := ns.take p ++ nm :: ns.drop p
theorem ins_mem (ns : List ByteArray) (p : Nat) (nm y : ByteArray) : y ∈ insN ns p nm ↔ y = nm ∨ y ∈ ns := by
  unfold insN
  rw [List.mem_append, List.mem_cons]
  have h : y ∈ ns ↔ y ∈ ns.take p ∨ y ∈ ns.drop p := by rw [← List.mem_append, List.take_append_drop]
  rw [h]
  constructor
  · rintro (h | h | h)
    · exact .inr (.inl h)
    · exact .inl h
    · exact .inr (.inr h)
  · rintro (h | h | h)
    · exact .inr (.inl h)
    · exact .inl h
    · exact .inr (.inr h)
theorem ins_len (ns : List ByteArray) {p : Nat} (nm : ByteArray) (hp : p ≤ ns.length) : (insN ns p nm).length = ns.length + 1 := by
  unfold insN
  rw [List.length_append, List.length_cons, List.length_take, List.length_drop]; omega
theorem nmLt_of {a b : ByteArray} (h : nmLt a b = false) (hne : a ≠ b) : nmLt b a = true := by
  cases hb : nmLt b a with
  | true => rfl
  | false => exact absurd (names_inj (nmLt_tot h hb)) hne
theorem ins_rise {ns : List ByteArray} {p : Nat} {nm : ByteArray} (h : ns.Pairwise fun a b => nmLt a b = true) (hlo : ∀ j (hj : j < ns.length), j < p → nmLt ns[j] nm = true) (hhi : ∀ hj : p < ns.length, nmLt ns[p] nm = false ∧ ns[p] ≠ nm) : (insN ns p nm).Pairwise fun a b => nmLt a b = true := by
  unfold insN
  have hlt : ∀ x ∈ ns.take p, nmLt x nm = true := fun x hx => by
    obtain ⟨j, hj, rfl⟩ := List.mem_take_iff_getElem.1 hx
    exact hlo j (by omega) (by omega)
  have hgt : ∀ y ∈ ns.drop p, nmLt nm y = true := fun y hy => by
    obtain ⟨j, hj, rfl⟩ := List.getElem_of_mem hy
    rw [List.length_drop] at hj
    rw [List.getElem_drop]
    have hp : p < ns.length := by omega
    have h1 := nmLt_of (hhi hp).1 (hhi hp).2
    by_cases h0 : j = 0
    · subst h0; simpa using h1
    · exact nmLt_tr h1 (List.pairwise_iff_getElem.1 h p (p + j) hp (by omega) (by omega))
  rw [List.pairwise_append, List.pairwise_cons]
  refine ⟨h.sublist (List.take_sublist _ _), ⟨hgt, h.sublist (List.drop_sublist _ _)⟩, fun x hx y hy => ?_⟩
  rcases List.mem_cons.1 hy with rfl | hy
  · exact hlt x hx
  · exact nmLt_tr (hlt x hx) (hgt y hy)
theorem dueF_app (V : Voy) (a b : List ByteArray) : dueF V (a ++ b) = dueF V a ++ dueF V b := by unfold dueF; rw [List.flatMap_append]
theorem dueF_len (V : Voy) : ∀ ns : List ByteArray, (dueF V ns).length = ns.length * 4
  | [] => rfl
  | a :: l => by
    have := dueF_len V l
    unfold dueF at this ⊢
    rw [List.flatMap_cons, List.length_append, this, List.length_cons]
    simp [dueC]; omega
theorem dueF_one (V : Voy) (ns : List ByteArray) : ∀ u ∈ dueF V ns, u.oneCell' = true := by
  intro u hu
  unfold dueF at hu
  obtain ⟨x, _, hx⟩ := List.mem_flatMap.1 hu
  simp [dueC] at hx
  rcases hx with rfl | rfl | rfl | rfl <;> rfl
theorem dueF_ins (V : Voy) (ns : List ByteArray) (p : Nat) (nm : ByteArray) : dueF V (insN ns p nm) = dueF V (ns.take p) ++ dueC V nm ++ dueF V (ns.drop p) := by
  unfold insN
  rw [dueF_app, List.append_assoc]
  rfl
theorem dueF_take (V : Voy) (ns : List ByteArray) (p j : Nat) (u : Value) (h : (dueF V (ns.take p))[j]? = some u) : (dueF V ns)[j]? = some u := by
  have e : dueF V ns = dueF V (ns.take p) ++ dueF V (ns.drop p) := by rw [← dueF_app, List.take_append_drop]
  rw [e, List.getElem?_append_left (List.getElem?_eq_some_iff.1 h).1]; exact h
theorem dueF_drop (V : Voy) (ns : List ByteArray) {p : Nat} (hp : p ≤ ns.length) (j : Nat) (u : Value) (h : (dueF V (ns.drop p))[j]? = some u) : (dueF V ns)[p * 4 + j]? = some u := by
  have e : dueF V ns = dueF V (ns.take p) ++ dueF V (ns.drop p) := by rw [← dueF_app, List.take_append_drop]
  have hl : (dueF V (ns.take p)).length = p * 4 := by rw [dueF_len, List.length_take]; omega
  rw [e, List.getElem?_append_right (by omega), hl, show p * 4 + j - p * 4 = j by omega]; exact h
theorem stk_cellsN {w : World} {p : Addr} {n sc : Nat} {l : List Stk} (h : StakesAt w (.slice (some p) n sc) l) (j : Nat) (u : Value) (hj : (stkF l)[j]? = some u) : w.cell? (p.add j) = some u := by
  obtain ⟨a', c', e, _, hc⟩ := h
  cases e
  have hj2 : j < l.length * 2 := by rw [← stkF_len]; exact (List.getElem?_eq_some_iff.1 hj).1
  obtain ⟨q, r, hr, rfl⟩ : ∃ q r, r < 2 ∧ j = q * 2 + r := ⟨j / 2, j % 2, by omega, by omega⟩
  have hq : q < l.length := by omega
  obtain ⟨b, o, e, _, c0, c1⟩ := hc q hq
  cases e
  have k := stkF_get l q hq
  rw [Addr.add_mid]
  rcases (by omega : r = 0 ∨ r = 1) with rfl | rfl
  · rw [Nat.add_zero, k.1] at hj; cases hj; exact c0
  · rw [k.2] at hj; cases hj; rw [← Nat.add_assoc]; exact c1
theorem stkF_oneN (l : List Stk) : ∀ u ∈ stkF l, u.oneCell' = true := by
  intro u hu
  unfold stkF at hu
  obtain ⟨x, _, hx⟩ := List.mem_flatMap.1 hu
  simp [stkC] at hx
  rcases hx with rfl | rfl <;> rfl
theorem stkF_appN (a b : List Stk) : stkF (a ++ b) = stkF a ++ stkF b := by unfold stkF; rw [List.flatMap_append]
/-- The append of a list that lies in memory. -/
theorem Bld.list {v0 w0 u : World} {b : Nat} {T : TypeId} {sz : Nat} {cur : Value} {n : Nat} {xs : List Value} {made : Bool} {bx : Value} {m : Nat} {ne : List Value} (h : Bld v0 w0 u b T sz cur n xs made bx m ne) {t ty : TypeId} {bytes : Nat} {i : TypeInfo} {z : Value} (ht : Tryz.prog.underlying t = some (.slice T)) (hi : Tryz.prog.info? T = some i) (hz : i.zero = some z) (hs : i.size = sz) (hby : i.bytes = bytes) (hzs : z.cells.size = sz) (hsz : 0 < sz)
    {xa : Option Addr} {k xc : Nat} (news : List Value) (hl : news.length = k * sz) (hc : 0 < k → ∃ p, xa = some p ∧ ∀ j q, news[j]? = some q → u.cell? (p.add j) = some q) (h1 : ∀ u ∈ news, u.oneCell' = true) (h63 : n + k ≤ 1000000000) (hbytes : bytes ≤ 1000) :
    ∃ v' u', (Builtin.append_ #[t, t] ty #[cur, .slice xa k xc]).run Tryz.prog u = .ok v' u' ∧ Bld v0 w0 u' b T sz v' (n + k) (xs ++ news) made bx m ne ∧ u.grownBy u' cur.ownBlock := by
  by_cases h0 : k = 0
  · subst h0
    obtain ⟨ca, cc, rfl, hcc⟩ := h.row.slice_le
    have : news = [] := List.eq_nil_of_length_eq_zero (by simpa using hl)
    subst this
    exact ⟨_, u, append_none (w := u) (ty := ty) ht hi hcc xa xc, by simpa using h, ⟨rfl, rfl, rfl, Nat.le_refl _, fun _ h _ => rfl⟩⟩
  · obtain ⟨p, rfl, hp⟩ := hc (by omega)
    obtain ⟨v', u', k1, k2, k3, k4⟩ := append_rows (ty := ty) ht hi hz hs hby hzs hsz (m := k) (by omega) h.row p xc news hl hp h1 h63 hbytes
    exact ⟨v', u', k1, h.grow k2 k3 k4, k3⟩
/-- A row of three parts: a0 the empty row, a1, a2, a3 the appends, ib the box that the second one appends (if there is one). -/
def ch4J (v0 w0 : World) (b : Nat) (T : TypeId) (sz a0 a1 a2 a3 ib : Nat) (n1 n2 n3 : Nat) (xs1 xs2 xs3 : List Value) (m : Nat) (ne : List Value) (blk : Obj) : InvJ := fun L x u =>
  Bld v0 w0 u b T sz (if L a3 then x a3 else if L a2 then x a2 else if L a1 then x a1 else if L a0 then x a0 else .slice none 0 0) (if L a3 then n3 else if L a2 then n2 else if L a1 then n1 else 0) (if L a3 then xs3 else if L a2 then xs2 else if L a1 then xs1 else []) (L ib) (x ib) m ne ∧
  u.heap[b]? = some blk ∧ (L a3 = true → L a2 = true) ∧ (L a2 = true → L a1 = true) ∧ (L a1 = true → L a0 = true)
section
variable {v0 w0 u u' : World} {b : Nat} {T : TypeId} {sz a0 a1 a2 a3 ib : Nat} {n1 n2 n3 : Nat} {xs1 xs2 xs3 : List Value} {m : Nat} {ne : List Value} {blk : Obj} {L : Nat → Bool} {x : Nat → Value} {v : Value}
theorem ch4_start (h : Ext v0 u) (hb : v0.heap.size ≤ b ∧ b < u.heap.size) (hc : u.heap[b]? = some blk) : ch4J v0 u b T sz a0 a1 a2 a3 ib n1 n2 n3 xs1 xs2 xs3 m ne blk (fun _ => false) (fun _ => undef) { u with drawn := u.drawn + 1 } :=
  ⟨⟨h.trans (Ext.drawn _), KM.of_ext (Ext.drawn _), hb, Row.nil _ _ _, fun g hg => by simp [Value.ownBlock] at hg, fun h => by cases h⟩, hc, fun h => (by cases h), fun h => (by cases h), fun h => (by cases h)⟩
theorem ch4_skip {k : Nat} (hk : (a0 != k && a1 != k && a2 != k && a3 != k && ib != k) = true) (h : ch4J v0 w0 b T sz a0 a1 a2 a3 ib n1 n2 n3 xs1 xs2 xs3 m ne blk L x u) : ch4J v0 w0 b T sz a0 a1 a2 a3 ib n1 n2 n3 xs1 xs2 xs3 m ne blk (updL L k) x u := by
  simp only [Bool.and_eq_true, bne_iff_ne, ne_eq] at hk
  unfold ch4J at *
  rw [updL_ne hk.1.1.1.1, updL_ne hk.1.1.1.2, updL_ne hk.1.1.2, updL_ne hk.1.2, updL_ne hk.2]
  exact h
theorem ch4_low (h : ch4J v0 w0 b T sz a0 a1 a2 a3 ib n1 n2 n3 xs1 xs2 xs3 m ne blk L x u) : (L a0 = false → L a1 = false) ∧ (L a1 = false → L a2 = false) ∧ (L a2 = false → L a3 = false) := by
  obtain ⟨_, _, a, b, c⟩ := h
  refine ⟨fun e => ?_, fun e => ?_, fun e => ?_⟩
  · cases hh : L a1 with | false => rfl | true => rw [c hh] at e; cases e
  · cases hh : L a2 with | false => rfl | true => rw [b hh] at e; cases e
  · cases hh : L a3 with | false => rfl | true => rw [a hh] at e; cases e
theorem ch4_0 (hk : (a1 != a0 && a2 != a0 && a3 != a0 && ib != a0) = true) (h : ch4J v0 w0 b T sz a0 a1 a2 a3 ib n1 n2 n3 xs1 xs2 xs3 m ne blk L x u) (hL : L a0 = false) : ch4J v0 w0 b T sz a0 a1 a2 a3 ib n1 n2 n3 xs1 xs2 xs3 m ne blk (updL L a0) (updX x a0 (.slice (some ⟨u.heap.size, 0, none⟩) 0 0)) (u.alloc (.cells #[] T)) := by
  simp only [Bool.and_eq_true, bne_iff_ne, ne_eq] at hk
  have hlow := ch4_low h
  have l1 := hlow.1 hL
  have l2 := hlow.2.1 l1
  have l3 := hlow.2.2 l2
  obtain ⟨k1, k2, _, _, _⟩ := h
  rw [l3, l2, l1] at k1
  unfold ch4J
  rw [updL_ne hk.1.1.1, updL_ne hk.1.1.2, updL_ne hk.1.2, updL_ne hk.2, updL_eq, updX_ne hk.1.1.1, updX_ne hk.1.1.2, updX_ne hk.1.2, updX_ne hk.2, updX_eq, l1, l2, l3]
  exact ⟨k1.empty, ((Ext.refl u).alloc _).block k2, fun e => (by cases e), fun e => (by cases e), fun _ => rfl⟩
theorem ch4_at1 (h : ch4J v0 w0 b T sz a0 a1 a2 a3 ib n1 n2 n3 xs1 xs2 xs3 m ne blk L x u) (h0 : L a0 = true) (hL : L a1 = false) : Bld v0 w0 u b T sz (x a0) 0 [] (L ib) (x ib) m ne := by
  have hlow := ch4_low h
  have l2 := hlow.2.1 hL
  have l3 := hlow.2.2 l2
  have k1 := h.1
  rw [l3, l2, hL, h0] at k1
  exact k1
theorem ch4_to1 (hk : (a0 != a1 && a2 != a1 && a3 != a1 && ib != a1) = true) (h : ch4J v0 w0 b T sz a0 a1 a2 a3 ib n1 n2 n3 xs1 xs2 xs3 m ne blk L x u) (h0 : L a0 = true) (hL : L a1 = false) (hB : Bld v0 w0 u' b T sz v n1 xs1 (L ib) (x ib) m ne) (hg : u.grownBy u' (x a0).ownBlock) : ch4J v0 w0 b T sz a0 a1 a2 a3 ib n1 n2 n3 xs1 xs2 xs3 m ne blk (updL L a1) (updX x a1 v) u' := by
  simp only [Bool.and_eq_true, bne_iff_ne, ne_eq] at hk
  have hlow := ch4_low h
  have l2 := hlow.2.1 hL
  have l3 := hlow.2.2 l2
  have hb := (ch4_at1 h h0 hL).keep hg h.2.1
  unfold ch4J
  rw [updL_ne hk.1.1.1, updL_ne hk.1.1.2, updL_ne hk.1.2, updL_ne hk.2, updL_eq, updX_ne hk.1.1.1, updX_ne hk.1.1.2, updX_ne hk.1.2, updX_ne hk.2, updX_eq, l2, l3]
  exact ⟨hB, hb, fun e => (by cases e), fun e => (by cases e), fun _ => h0⟩
theorem ch4_at2 (h : ch4J v0 w0 b T sz a0 a1 a2 a3 ib n1 n2 n3 xs1 xs2 xs3 m ne blk L x u) (h1 : L a1 = true) (hL : L a2 = false) : Bld v0 w0 u b T sz (x a1) n1 xs1 (L ib) (x ib) m ne := by
  have l3 := (ch4_low h).2.2 hL
  have k1 := h.1
  rw [l3, hL, h1] at k1
  exact k1
theorem ch4_to2 (hk : (a0 != a2 && a1 != a2 && a3 != a2 && ib != a2) = true) (h : ch4J v0 w0 b T sz a0 a1 a2 a3 ib n1 n2 n3 xs1 xs2 xs3 m ne blk L x u) (h1 : L a1 = true) (hL : L a2 = false) (hB : Bld v0 w0 u' b T sz v n2 xs2 (L ib) (x ib) m ne) (hg : u.grownBy u' (x a1).ownBlock) : ch4J v0 w0 b T sz a0 a1 a2 a3 ib n1 n2 n3 xs1 xs2 xs3 m ne blk (updL L a2) (updX x a2 v) u' := by
  simp only [Bool.and_eq_true, bne_iff_ne, ne_eq] at hk
  have l3 := (ch4_low h).2.2 hL
  have hb := (ch4_at2 h h1 hL).keep hg h.2.1
  unfold ch4J
  rw [updL_ne hk.1.1.1, updL_ne hk.1.1.2, updL_ne hk.1.2, updL_ne hk.2, updL_eq, updX_ne hk.1.1.1, updX_ne hk.1.1.2, updX_ne hk.1.2, updX_ne hk.2, updX_eq, l3]
  exact ⟨hB, hb, fun e => (by cases e), fun _ => h1, h.2.2.2.2⟩
theorem ch4_at3 (h : ch4J v0 w0 b T sz a0 a1 a2 a3 ib n1 n2 n3 xs1 xs2 xs3 m ne blk L x u) (h2 : L a2 = true) (hL : L a3 = false) : Bld v0 w0 u b T sz (x a2) n2 xs2 (L ib) (x ib) m ne := by
  have k1 := h.1
  rw [hL, h2] at k1
  exact k1
theorem ch4_to3 (hk : (a0 != a3 && a1 != a3 && a2 != a3 && ib != a3) = true) (h : ch4J v0 w0 b T sz a0 a1 a2 a3 ib n1 n2 n3 xs1 xs2 xs3 m ne blk L x u) (h2 : L a2 = true) (hL : L a3 = false) (hB : Bld v0 w0 u' b T sz v n3 xs3 (L ib) (x ib) m ne) (hg : u.grownBy u' (x a2).ownBlock) : ch4J v0 w0 b T sz a0 a1 a2 a3 ib n1 n2 n3 xs1 xs2 xs3 m ne blk (updL L a3) (updX x a3 v) u' := by
  simp only [Bool.and_eq_true, bne_iff_ne, ne_eq] at hk
  have hb := (ch4_at3 h h2 hL).keep hg h.2.1
  unfold ch4J
  rw [updL_ne hk.1.1.1, updL_ne hk.1.1.2, updL_ne hk.1.2, updL_ne hk.2, updL_eq, updX_ne hk.1.1.1, updX_ne hk.1.1.2, updX_ne hk.1.2, updX_ne hk.2, updX_eq]
  exact ⟨hB, hb, fun _ => h2, h.2.2.2.1, h.2.2.2.2⟩
theorem ch4_make (hk : (a0 != ib && a1 != ib && a2 != ib && a3 != ib) = true) (h : ch4J v0 w0 b T sz a0 a1 a2 a3 ib n1 n2 n3 xs1 xs2 xs3 m ne blk L x u) {cs : Array Value} (hcs : cs = ne.toArray) : ch4J v0 w0 b T sz a0 a1 a2 a3 ib n1 n2 n3 xs1 xs2 xs3 m ne blk (updL L ib) (updX x ib (.slice (some ⟨u.heap.size, 0, none⟩) m m)) (u.alloc (.cells cs T)) := by
  simp only [Bool.and_eq_true, bne_iff_ne, ne_eq] at hk
  obtain ⟨k1, k2, k3⟩ := h
  unfold ch4J
  rw [updL_ne hk.1.1.1, updL_ne hk.1.1.2, updL_ne hk.1.2, updL_ne hk.2, updL_eq, updX_ne hk.1.1.1, updX_ne hk.1.1.2, updX_ne hk.1.2, updX_ne hk.2, updX_eq]
  exact ⟨k1.make hcs, ((Ext.refl u).alloc _).block k2, k3⟩
theorem ch4_end (h : ch4J v0 w0 b T sz a0 a1 a2 a3 ib n1 n2 n3 xs1 xs2 xs3 m ne blk L x u) (h3 : L a3 = true) : Bld v0 w0 u b T sz (x a3) n3 xs3 (L ib) (x ib) m ne ∧ u.heap[b]? = some blk := by
  have k1 := h.1
  rw [h3] at k1
  exact ⟨k1, h.2.1⟩
end
/-- One box, beside calls: made by operation i, filled by j. -/
def box1J (w0 : World) (Z C : Array Value) (T : TypeId) (i j : Nat) : InvJ := fun L x u => Ext w0 u ∧
  (L i = true → ∃ g, x i = .pointer (some ⟨g, 0, none⟩) ∧ w0.heap.size ≤ g ∧ u.heap[g]? = some (.cells (if L j then C else Z) T (0, 0))) ∧ (L j = true → L i = true)
section
variable {w0 u u' : World} {Z C : Array Value} {T : TypeId} {i j : Nat} {L : Nat → Bool} {x : Nat → Value}
theorem box1_start (h : Ext w0 u) : box1J w0 Z C T i j (fun _ => false) (fun _ => undef) { u with drawn := u.drawn + 1 } := ⟨h.trans (Ext.drawn _), fun h => (by cases h), fun h => (by cases h)⟩
theorem box1_skip {k : Nat} (hk : (i != k && j != k) = true) (h : box1J w0 Z C T i j L x u) (hx : Ext u u') : box1J w0 Z C T i j (updL L k) x u' := by
  simp only [Bool.and_eq_true, bne_iff_ne, ne_eq] at hk
  unfold box1J at *
  rw [updL_ne hk.1, updL_ne hk.2]
  refine ⟨h.1.trans hx, fun e => ?_, h.2.2⟩
  obtain ⟨g, k1, k2, k3⟩ := h.2.1 e
  exact ⟨g, k1, k2, hx.block k3⟩
theorem box1_make (hk : (j != i) = true) (h : box1J w0 Z C T i j L x u) (hL : L i = false) : box1J w0 Z C T i j (updL L i) (updX x i (.pointer (some ⟨u.heap.size, 0, none⟩))) (u.alloc (.cells Z T)) := by
  have hk : j ≠ i := by simpa using hk
  have hLj : L j = false := by cases hh : L j with | false => rfl | true => rw [h.2.2 hh] at hL; cases hL
  unfold box1J
  rw [updL_ne hk, updL_eq, updX_eq, hLj]
  exact ⟨h.1.trans ((Ext.refl u).alloc _), fun _ => ⟨_, rfl, h.1.size, Ext.new (Ext.refl _)⟩, fun e => by cases e⟩
theorem box1_fill (hk : (i != j) = true) (h : box1J w0 Z C T i j L x u) (hi : L i = true) {g : Nat} (hg : x i = .pointer (some ⟨g, 0, none⟩)) (hk2 : Ext w0 u') (hb : u'.heap[g]? = some (.cells C T (0, 0))) : box1J w0 Z C T i j (updL L j) x u' := by
  have hk : i ≠ j := by simpa using hk
  unfold box1J
  rw [updL_ne hk, updL_eq]
  refine ⟨hk2, fun e => ?_, fun _ => hi⟩
  obtain ⟨g', e1, e2, _⟩ := h.2.1 hi
  rw [hg] at e1; cases e1
  exact ⟨g, hg, e2, hb⟩
end
end
section
open Go Go.RowKit Go.Shelf

theorem clm_get (l : List Stk) (S : LSt) {i : Nat} (hi : i < l.length) : (clm l S l.length)[i]'(by rw [clm_len]; exact hi) = ⟨l[i].name, (S i).2⟩ := by simp [clm, hi]
theorem clm_take (l : List Stk) (S : LSt) {k : Nat} (hk : k < l.length) : stkF ((clm l S l.length).take (k + 1)) = stkF ((clm l S l.length).take k) ++ [.string l[k].name, .int .i64 (S k).2] := by
  unfold stkF
  rw [List.take_succ_eq_append_getElem (by rw [clm_len]; exact hk), List.flatMap_append, clm_get l S hk]
  rfl
set_option maxRecDepth 100000 in
set_option maxHeartbeats 8000000 in
theorem rShares_bad (V : Voy) (s : VS) (w : World) (h : VoyAt w V s) (hE : voyE V ≠ 0) : Cal 26 #[.agg (voyA V s)] w fun e w' => e = .returned (.tuple #[.slice none 0 0, .int .i64 (voyE V)]) ∧ Ext w w' := by
  have HX0 : Hid (Ext w (w.alloc (.cells (voyA V s) 32))) := hid ((Ext.refl _).alloc _)
  have HB0 : Hid ((w.alloc (.cells (voyA V s) 32)).heap[w.heap.size]? = some (.cells (voyA V s) 32 (0, 0))) := hid (Ext.new (Ext.refl _))
  have HV := hid (fun (u : World) (hu : Ext w u) => rParts_bad V s u (h.mono hu) hE)
  have hz : (voyE V == 0) = false := by simpa using hE
  have hz2 : (voyE V != 0) = true := by simpa using hE
  clear h
  generalize voyE V = E at *
  unfold voyA at *
  gi_enter Tryz.func26, Tryz.ntmps26
  gi_upto_region 1 with fail
  generalize w.alloc (.cells _ 32) = wa at *
  generalize w.heap.size = bx at *
  have c0 := cell_of HB0.out
  gi_wp2_with (gi_at_call 24; ((with_reducible refine (HV.out _ HX0.out).mono ?_); rintro e w1 ⟨rfl, hx1⟩; have HX1 := hid (HX0.out.trans hx1); clear hx1))
  exact bodyPost_ret (v := .tuple #[.slice none 0 0, .int .i64 E]) (by simp [results, Tryz.results26, go_sem]) rfl ⟨rfl, HX1.out⟩
/-- The names met so far. -/
def metS (A : List Stk) (k : Nat) (y : ByteArray) : Prop := ∃ j, j < k ∧ j < A.length ∧ (A.getD j noStk).name = y
theorem mem_next {A : List Stk} {k : Nat} {nm : ByteArray} (h : k < A.length ∧ (A.getD k noStk).name = nm) (y : ByteArray) : metS A (k + 1) y ↔ y = nm ∨ metS A k y := by
  unfold metS
  constructor
  · rintro ⟨j, h1, h2, h3⟩
    by_cases hj : j = k
    · subst hj; left; rw [← h.2, h3]
    · exact .inr ⟨j, by omega, h2, h3⟩
  · rintro (rfl | ⟨j, h1, h2, h3⟩)
    · exact ⟨k, by omega, h.1, h.2⟩
    · exact ⟨j, by omega, h2, h3⟩
def allS (V : Voy) : List Stk := V.ow ++ partL V 1 ++ V.ha
theorem allS_len (V : Voy) : (allS V).length = V.ow.length + V.le.length + V.ha.length := by
  unfold allS
  rw [List.length_append, List.length_append]
  show _ + (clm _ _ _).length + _ = _
  rw [clm_len]
theorem allS_met (V : Voy) (y : ByteArray) : metS (allS V) (allS V).length y ↔ inAny (partL V) (lensV V) y = true := by
  rw [inAny_mem]
  unfold metS
  constructor
  · rintro ⟨j, _, hj, he⟩
    refine ⟨(allS V)[j], ?_, by rw [getD_of hj] at he; exact he⟩
    have hm := List.getElem_mem hj
    rcases List.mem_append.1 hm with h | h
    · rcases List.mem_append.1 h with h | h
      · exact .inl h
      · exact .inr (.inl h)
    · exact .inr (.inr h)
  · rintro ⟨z, hz, he⟩
    have hm : z ∈ allS V := by
      rcases hz with h | h | h
      · exact List.mem_append_left _ (List.mem_append_left _ h)
      · exact List.mem_append_left _ (List.mem_append_right _ h)
      · exact List.mem_append_right _ h
    obtain ⟨j, hj, rfl⟩ := List.getElem_of_mem hm
    exact ⟨j, hj, hj, by rw [getD_of hj]; exact he⟩
set_option maxRecDepth 100000 in
set_option maxHeartbeats 32000000 in
theorem rShares_ok (V : Voy) (s : VS) (w : World) (h : VoyAt w V s) (hE : voyE V = 0) : Cal 26 #[.agg (voyA V s)] w fun e w' => ∃ r ns, e = .returned (.tuple #[r, .int .i64 0]) ∧ Ext w w' ∧ DueNames V ns ∧ ns.length ≤ 30 ∧ Hid (Row w' 53 4 r ns.length (dueF V ns)) := by
  have HX0 : Hid (Ext w (w.alloc (.cells (voyA V s) 32))) := hid ((Ext.refl _).alloc _)
  have HB0 : Hid ((w.alloc (.cells (voyA V s) 32)).heap[w.heap.size]? = some (.cells (voyA V s) 32 (0, 0))) := hid (Ext.new (Ext.refl _))
  have hok := voyE_ok hE
  have hso := stakes_ok hok.1.ow
  have hsl := stakes_ok hok.1.le
  have hsh := stakes_ok hok.1.ha
  have hcd := can_div hok.1 hok.2
  have HPA := hid (fun (u : World) (hu : Ext w u) => rParts_ok V s u (h.mono hu) hE)
  have HCL := hid (fun (u : World) (hu : Ext w u) => rclaims_any V s u (h.mono hu) hok.1.le)
  rw [hok.2] at HCL
  have HOW := hid (fun (u : World) (hu : Ext w u) => h.ow.mono hu)
  have HHA := hid (fun (u : World) (hu : Ext w u) => h.ha.mono hu)
  have HLL : Hid (∀ k (hk : k < V.le.length), ∃ b off, s.la = some ⟨b, off, none⟩ ∧ b < w.heap.size ∧ w.cell? ⟨b, off + k * 2, none⟩ = some (.string V.le[k].name) ∧ w.cell? ⟨b, off + k * 2 + 1, none⟩ = some (.int .i64 V.le[k].weight)) := hid (by
    obtain ⟨a', c', e, _, hc⟩ := h.le
    cases e
    exact hc)
  have HNB : Hid (V.ow.length ≤ 10 ∧ V.le.length ≤ 10 ∧ V.ha.length ≤ 10) := hid ⟨hso.1, hsl.1, hsh.1⟩
  have HOA0 := hid (fun (u : World) (v : Value) (nm : ByteArray) (hs : StakesAt u v (partL V 0)) => of_any (partP V 0) v (partL V 0) nm u hs (hcd 0 (by omega)))
  have HOA1 := hid (fun (u : World) (v : Value) (nm : ByteArray) (hs : StakesAt u v (partL V 1)) => of_any (partP V 1) v (partL V 1) nm u hs (hcd 1 (by omega)))
  have HOA2 := hid (fun (u : World) (v : Value) (nm : ByteArray) (hs : StakesAt u v (partL V 2)) => of_any (partP V 2) v (partL V 2) nm u hs (hcd 2 (by omega)))
  clear h hE hok hso hsl hsh hcd
  unfold voyA at *
  gi_enter Tryz.func26, Tryz.ntmps26
  gi_upto_region 1 with fail
  generalize w.alloc (.cells _ 32) = wa at *
  obtain ⟨bx, hbx⟩ : ∃ bx, bx = w.heap.size := ⟨_, rfl⟩
  rw [← hbx] at HB0 ⊢
  have HBW : Hid (w.heap.size ≤ bx) := hid (by omega)
  clear hbx
  have c0 := cell_of HB0.out
  gi_upto_region 5 with (first | (gi_at_call 24; ((with_reducible refine (HPA.out _ HX0.out).mono ?_); rintro e w1 ⟨rfl, hx1⟩; have HX1 := hid (HX0.out.trans hx1); have HB1 := hid (hx1.block HB0.out); have c0 := cell_of (hx1.block HB0.out); clear hx1)) | (gi_at_call 56; ((with_reducible refine (HCL.out _ HX1.out).mono ?_); rintro e w3 ⟨cr, rfl, hx3, HRW⟩; have HX3 := hid (HX1.out.trans hx3); have HB3 := hid (hx3.block HB1.out); have HRC := hid (HRW.out trivial); obtain ⟨cra, crc, rfl⟩ := HRC.out.isSliceN; clear hx3)))
  clear c0 HPA HCL HX0 HB0 HX1 HB1 HRW
  have HLT3 := hid (lt_of_block HB3.out)
  have HCC : Hid (∀ k, k < V.le.length → ∃ g, cra = some ⟨g, 0, none⟩ ∧ g < w3.heap.size ∧ g ≠ bx ∧ w3.cell? ⟨g, k, none⟩ = some (.int .i64 (lentV V k).2)) := hid (fun k hk => by
    obtain ⟨g, cap, cur, e, hcp, hg, hcl, _⟩ := HRC.out.cells1 hk
    cases e
    refine ⟨g, rfl, lt_of_block hg, fun e => ?_, ?_⟩
    · exact row_ne HRC.out HB3.out (by decide) g rfl e
    · rw [hcl]; simp [intsF, hk])
  have HCT := hid (fun (k : Nat) (hk : k < V.le.length) => clm_take V.le (lentV V) hk)
  gi_wp2_with fail
  gi_loopw [10, 11] (fun v i wr => ∃ k : Nat, k ≤ V.le.length ∧ i = .int .i64 k ∧ Hid (Ext w wr ∧ KM bx w3 wr ∧ wr.heap[bx]? = some (.cells #[.int .i64 V.gr, .slice s.ca V.cs.length s.cc, .int .i64 V.bo, .int .i64 V.ne, .int .i64 V.cr, .slice s.oa V.ow.length s.oc, .slice s.la V.le.length s.lc, .slice s.ha V.ha.length s.hc, .slice s.xa V.lo.length s.xc] 32 (0, 0)) ∧ Row wr 49 2 v k (stkF ((clm V.le (lentV V) V.le.length).take k)) ∧ ∀ g, v.ownBlock = some g → w3.heap.size ≤ g)) (fun _ i _ => V.le.length - (intOf i).toNat)
  case atStart => exact ⟨0, Nat.zero_le _, rfl, hid ⟨HX3.out, KM.refl _ _, HB3.out, by simpa [stkF] using Row.nil w3 49 2, fun g hg => by simp [Value.ownBlock] at hg⟩⟩
  case round =>
    obtain ⟨k, hk, rfl, HI⟩ := hrel
    obtain ⟨i1, i2, i3, i4, i5⟩ := HI.out
    obtain ⟨va, vc, rfl⟩ := i4.isSliceN
    have HI1 := hid i1
    have HI2 := hid i2
    have HI3 := hid i3
    have HI4 := hid i4
    have HI5 := hid i5
    clear HI i1 i2 i3 i4 i5
    have hll := HNB.out.2.1
    by_cases hlt : k < V.le.length
    · have hki : (k : Int) < (V.le.length : Int) := by omega
      obtain ⟨lb, lo, hla, hlb, d0, _⟩ := HLL.out k hlt
      obtain ⟨cg, hcg, hcl, hcn, d1⟩ := HCC.out k hlt
      have HN2 := hid (HCT.out k hlt)
      generalize V.le[k] = z at *
      obtain ⟨cv, hcv⟩ : ∃ cv, cv = (lentV V k).2 := ⟨_, rfl⟩
      rw [← hcv] at d1 HN2
      have HLA := hid hla
      have HLN := hid (And.intro hlb d0)
      have HCG := hid (And.intro hcl (And.intro hcn d1))
      have HKL := hid (And.intro hlt hll)
      subst hcg
      clear hla hlb d0 hcl hcn d1 hcv HCT
      have HBL : Bld w w3 wr bx 49 2 (.slice va k vc) k (stkF ((clm V.le (lentV V) V.le.length).take k)) false undef 1 [.string z.name, .int .i64 cv] := ⟨HI1.out, HI2.out, ⟨HBW.out, HLT3.out⟩, HI4.out, HI5.out, fun h => (by cases h)⟩
      have HST : bldJ w w3 bx 49 2 12 13 100 0 (fun _ => #[.int .i64 V.gr, .slice s.ca V.cs.length s.cc, .int .i64 V.bo, .int .i64 V.ne, .int .i64 V.cr, .slice s.oa V.ow.length s.oc, .slice s.la V.le.length s.lc, .slice s.ha V.ha.length s.hc, .slice s.xa V.lo.length s.xc]) 32 (.slice va k vc) k (stkF ((clm V.le (lentV V) V.le.length).take k)) 1 [.string z.name, .int .i64 cv] (fun _ => false) (fun _ => undef) { wr with drawn := wr.drawn + 1 } := bldJ_start HBL HI3.out
      clear HBL
      gi_upto_region 9 with fail
      refine jj_own 14 [12, 13] _ (by kernel_rfl) (by kernel_rfl) HST ?_
      simp only [List.take_succ_cons, List.take_zero, List.drop_succ_cons, List.drop_zero]
      clear HST
      apply jj_fun (by decide)
      · intro L x u hL hd hJ
        have HJ := hid (bldJ_skip (k := 0) (by rfl) hJ)
        clear hJ hd hL
        go_simp
        exact ⟨rfl, HJ.out⟩
      simp only [Act.put, List.setIfInBounds_toArray, List.set_cons_succ, List.set_cons_zero]
      apply jj_fun (by decide)
      · intro L x u hL hd hJ
        have HJ := hid (bldJ_skip (k := 1) (by rfl) hJ)
        clear hJ hd hL
        go_simp
        exact ⟨rfl, HJ.out⟩
      simp only [Act.put, List.setIfInBounds_toArray, List.set_cons_succ, List.set_cons_zero]
      apply jj_fun (by decide)
      · intro L x u hL hd hJ
        have c0 : u.cell? ⟨bx, 6, none⟩ = some (.slice (some ⟨lb, lo, none⟩) V.le.length s.lc) := by
          have := (cell_of hJ.2.1 6).trans rfl
          rw [this]; exact congrArg (fun a => some (Value.slice a V.le.length s.lc)) HLA.out
        have HJ := hid (bldJ_skip (k := 2) (by rfl) hJ)
        clear hJ hd hL
        go_simp
        exact ⟨rfl, HJ.out⟩
      simp only [Act.put, List.setIfInBounds_toArray, List.set_cons_succ, List.set_cons_zero]
      apply jj_fun (by decide)
      · intro L x u hL hd hJ
        have HJ := hid (bldJ_skip (k := 3) (by rfl) hJ)
        clear hJ hd hL
        go_simp
        exact ⟨rfl, HJ.out⟩
      simp only [Act.put, List.setIfInBounds_toArray, List.set_cons_succ, List.set_cons_zero]
      apply jj_fun (by decide)
      · intro L x u hL hd hJ
        have HJ := hid (bldJ_skip (k := 4) (by rfl) hJ)
        clear hJ hd hL
        go_simp
        exact ⟨rfl, HJ.out⟩
      simp only [Act.put, List.setIfInBounds_toArray, List.set_cons_succ, List.set_cons_zero]
      apply jj_fun (by decide)
      · intro L x u hL hd hJ
        have HJ := hid (bldJ_skip (k := 5) (by rfl) hJ)
        clear hJ hd hL
        go_simp
        exact ⟨rfl, HJ.out⟩
      simp only [Act.put, List.setIfInBounds_toArray, List.set_cons_succ, List.set_cons_zero]
      apply jj_fun (by decide)
      · intro L x u hL hd hJ
        have c0 : u.cell? ⟨lb, lo + k * 2, none⟩ = some (.string z.name) := by
          rw [hJ.1.ext.cell (p := ⟨lb, _, none⟩) HLN.out.1]; exact HLN.out.2
        have HJ := hid (bldJ_skip (k := 6) (by rfl) hJ)
        clear hJ hd hL
        go_simp
        exact ⟨rfl, HJ.out⟩
      simp only [Act.put, List.setIfInBounds_toArray, List.set_cons_succ, List.set_cons_zero]
      apply jj_fun (by decide)
      · intro L x u hL hd hJ
        have HJ := hid (bldJ_skip (k := 7) (by rfl) hJ)
        clear hJ hd hL
        go_simp
        exact ⟨rfl, HJ.out⟩
      simp only [Act.put, List.setIfInBounds_toArray, List.set_cons_succ, List.set_cons_zero]
      apply jj_fun (by decide)
      · intro L x u hL hd hJ
        have HJ := hid (bldJ_skip (k := 8) (by rfl) hJ)
        clear hJ hd hL
        go_simp
        exact ⟨rfl, HJ.out⟩
      simp only [Act.put, List.setIfInBounds_toArray, List.set_cons_succ, List.set_cons_zero]
      apply jj_fun (by decide)
      · intro L x u hL hd hJ
        have HJ := hid (bldJ_skip (k := 9) (by rfl) hJ)
        clear hJ hd hL
        go_simp
        exact ⟨rfl, HJ.out⟩
      simp only [Act.put, List.setIfInBounds_toArray, List.set_cons_succ, List.set_cons_zero]
      apply jj_fun (by decide)
      · intro L x u hL hd hJ
        have c0 : u.cell? ⟨cg, k, none⟩ = some (.int .i64 cv) := by
          rw [hJ.1.km.cell? (off := k) HCG.out.1 HCG.out.2.1]; exact HCG.out.2.2
        have HJ := hid (bldJ_skip (k := 10) (by rfl) hJ)
        clear hJ hd hL
        go_simp
        exact ⟨rfl, HJ.out⟩
      simp only [Act.put, List.setIfInBounds_toArray, List.set_cons_succ, List.set_cons_zero]
      apply jj_fun (by decide)
      · intro L x u hL hd hJ
        have HJ := hid (bldJ_skip (k := 11) (by rfl) hJ)
        clear hJ hd hL
        go_simp
        exact ⟨rfl, HJ.out⟩
      simp only [Act.put, List.setIfInBounds_toArray, List.set_cons_succ, List.set_cons_zero]
      refine jj_inv (by decide) ?_ ?_
      · intro L x u hL hd hJ
        have HJ := hid (bldJ_make (by rfl) hJ hL (cs := #[.string z.name, .int .i64 cv]) rfl)
        clear hJ hd hL
        go_simp
        exact HJ.out
      simp only [Act.put, List.setIfInBounds_toArray, List.set_cons_succ, List.set_cons_zero]
      refine jj_inv (by decide) ?_ ?_
      · intro L x u hL hd hJ
        obtain ⟨i, hi, hz0, hz1, hz2⟩ := info_parts info49
        obtain ⟨v', u', h1, h2⟩ := bldJ_app (t := 22) (ty' := 22) (by rfl) hJ (hd.2.1 rfl) hL Tryz.underlying22 hi hz0 hz1 hz2 (by simp [Value.cells]) (by omega) (by omega) (by rfl) (fun u hu => by simp at hu; rcases hu with rfl | rfl <;> rfl) (by have := HKL.out; omega) (by omega)
        rw [if_pos (show Region.wanted _ _ = true from rfl)]
        exact gives_append (.tmp 39) (.tmp 51) 22 rfl rfl rfl h1 ⟨h2, trivial⟩
      simp only [Act.put, List.setIfInBounds_toArray, List.set_cons_succ, List.set_cons_zero]
      refine jj_nil fun L x u8 hall hJ => ?_
      obtain ⟨m1, m2, _, _⟩ := hJ
      rw [hall 13 (by omega)] at m1
      have HM : Hid (Ext w u8 ∧ KM bx w3 u8 ∧ u8.heap[bx]? = some (.cells #[.int .i64 V.gr, .slice s.ca V.cs.length s.cc, .int .i64 V.bo, .int .i64 V.ne, .int .i64 V.cr, .slice s.oa V.ow.length s.oc, .slice s.la V.le.length s.lc, .slice s.ha V.ha.length s.hc, .slice s.xa V.lo.length s.xc] 32 (0, 0)) ∧ Row u8 49 2 (x 13) (k + 1) (stkF ((clm V.le (lentV V) V.le.length).take k) ++ [.string z.name, .int .i64 cv]) ∧ ∀ g, (x 13).ownBlock = some g → w3.heap.size ≤ g) := hid ⟨m1.ext, m1.km, m2, m1.row, m1.own⟩
      clear m1 m2 hall
      generalize x 12 = y12 at *
      generalize x 13 = y13 at *
      obtain ⟨q1, q2, rfl⟩ := HM.out.2.2.2.1.isSliceN
      gi_wp2_with fail
      go_roundw
      case rel => exact ⟨k + 1, HKL.out.1, by go_num, hid ⟨HM.out.1, HM.out.2.1, HM.out.2.2.1, by rw [HN2.out]; exact HM.out.2.2.2.1, HM.out.2.2.2.2⟩⟩
      case measure => simp [intOf]; have := HKL.out.1; omega
    · obtain rfl : k = V.le.length := by omega
      have hki : ¬ (V.le.length : Int) < (V.le.length : Int) := by omega
      gi_upto_region 10 with fail
      obtain ⟨w4, rfl⟩ : ∃ w4, w4 = wr := ⟨wr, rfl⟩
      have HX4 := hid HI1.out
      have HB4 := hid HI3.out
      have HLT4 := hid (lt_of_block HI3.out)
      have HR4 : Hid (Row w4 49 2 (.slice va V.le.length vc) V.le.length (stkF (partL V 1))) := hid (by
        have := HI4.out
        rw [List.take_of_length_le (by rw [clm_len]; exact Nat.le_refl _)] at this
        exact this)
      have hn1 : (partL V 1).length = V.le.length := clm_len _ _ _
      have HN1 := hid hn1
      have HRN := hid (row_ne HR4.out HB4.out (by decide))
      have HLEN : Hid (∀ u, KM bx w4 u → StakesAt u (.slice va V.le.length vc) (partL V 1)) := hid (fun u hu => by
        have hr : Row u 49 2 (.slice va V.le.length vc) V.le.length (stkF (partL V 1)) := HR4.out.kept fun k o ho hb => hu.2 k o (HRN.out k ho) hb
        exact StakesAt.of_row (l := partL V 1) (by rw [hn1]; exact hr) (by rw [hn1]; omega))
      clear HI1 HI2 HI3 HI4 HI5 hlt hk hki hn1 HCT HCC HLL HB3 HX3 HLT3 HRC
      obtain ⟨XA, hXA⟩ : ∃ X, X = stkF V.ow ++ stkF (partL V 1) := ⟨_, rfl⟩
      obtain ⟨XB, hXB⟩ : ∃ X, X = XA ++ stkF V.ha := ⟨_, rfl⟩
      have HXS := hid (And.intro hXA hXB)
      clear hXA hXB
      refine jj_own 9 [0, 3, 5, 8] (ch4J w w4 bx 49 2 0 3 5 8 100 V.ow.length (V.ow.length + V.le.length) (V.ow.length + V.le.length + V.ha.length) (stkF V.ow) XA XB 0 [] (.cells #[.int .i64 V.gr, .slice s.ca V.cs.length s.cc, .int .i64 V.bo, .int .i64 V.ne, .int .i64 V.cr, .slice s.oa V.ow.length s.oc, .slice s.la V.le.length s.lc, .slice s.ha V.ha.length s.hc, .slice s.xa V.lo.length s.xc] 32 (0, 0))) (by kernel_rfl) (by kernel_rfl) (ch4_start HX4.out ⟨HBW.out, HLT4.out⟩ HB4.out) ?_
      simp only [List.take_succ_cons, List.take_zero, List.drop_succ_cons, List.drop_zero]
      refine jj_inv (by decide) ?_ ?_
      · intro L x u hL hd hJ
        have HJ := hid (ch4_0 (by rfl) hJ hL)
        clear hJ hd hL
        go_simp
        exact HJ.out
      simp only [Act.put, List.setIfInBounds_toArray, List.set_cons_succ, List.set_cons_zero]
      apply jj_fun (by decide)
      · intro L x u hL hd hJ
        have HJ := hid (ch4_skip (k := 1) (by rfl) hJ)
        clear hJ hd hL
        go_simp
        exact ⟨rfl, HJ.out⟩
      simp only [Act.put, List.setIfInBounds_toArray, List.set_cons_succ, List.set_cons_zero]
      apply jj_fun (by decide)
      · intro L x u hL hd hJ
        have c0 : u.cell? ⟨bx, 5, none⟩ = some (.slice s.oa V.ow.length s.oc) := (cell_of hJ.2.1 5).trans rfl
        have HJ := hid (ch4_skip (k := 2) (by rfl) hJ)
        clear hJ hd hL
        go_simp
        exact ⟨rfl, HJ.out⟩
      simp only [Act.put, List.setIfInBounds_toArray, List.set_cons_succ, List.set_cons_zero]
      refine jj_inv (by decide) ?_ ?_
      · intro L x u hL hd hJ
        obtain ⟨i, hi, hz0, hz1, hz2⟩ := info_parts info49
        have hp : L 0 = true := hd.1 rfl
        have hB := ch4_at1 hJ hp hL
        obtain ⟨v', u', e1, e2, e3⟩ := hB.list (t := 22) (ty := 22) Tryz.underlying22 hi hz0 hz1 hz2 (by simp [Value.cells]) (by omega) (stkF V.ow) (stkF_len V.ow) (fun hk => by
            have hs := HOW.out _ hB.ext
            obtain ⟨a', c', e, _, hc⟩ := id hs
            obtain ⟨b', o', e', _⟩ := hc 0 (by omega)
            injection e with q1 q2 q3
            rw [q1, e'] at hs
            exact ⟨_, q1.trans e', fun j q hj => stk_cellsN hs j q hj⟩) (stkF_oneN V.ow) (by have := HNB.out; omega) (by omega)
        rw [if_pos (show Region.wanted _ _ = true from rfl)]
        exact gives_append (.tmp 53) (.tmp 55) 22 rfl rfl rfl e1 ⟨ch4_to1 (by rfl) hJ hp hL (by rw [Nat.zero_add, List.nil_append] at e2; exact e2) e3, trivial⟩
      simp only [Act.put, List.setIfInBounds_toArray, List.set_cons_succ, List.set_cons_zero]
      apply jj_fun (by decide)
      · intro L x u hL hd hJ
        have HJ := hid (ch4_skip (k := 4) (by rfl) hJ)
        clear hJ hd hL
        go_simp
        exact ⟨rfl, HJ.out⟩
      simp only [Act.put, List.setIfInBounds_toArray, List.set_cons_succ, List.set_cons_zero]
      refine jj_inv (by decide) ?_ ?_
      · intro L x u hL hd hJ
        obtain ⟨i, hi, hz0, hz1, hz2⟩ := info_parts info49
        have hp : L 3 = true := hd.1 rfl
        have hB := ch4_at2 hJ hp hL
        obtain ⟨v', u', e1, e2, e3⟩ := hB.list (t := 22) (ty := 22) Tryz.underlying22 hi hz0 hz1 hz2 (by simp [Value.cells]) (by omega) (stkF (partL V 1)) (by rw [stkF_len, HN1.out]) (fun hk => by
            have hs := HLEN.out _ hB.km
            obtain ⟨a', c', e, _, hc⟩ := id hs
            obtain ⟨b', o', e', _⟩ := hc 0 (by rw [HN1.out]; exact hk)
            injection e with q1 q2 q3
            rw [q1, e'] at hs
            exact ⟨_, q1.trans e', fun j q hj => stk_cellsN hs j q hj⟩) (stkF_oneN _) (by have := HNB.out; omega) (by omega)
        rw [if_pos (show Region.wanted _ _ = true from rfl)]
        exact gives_append (.tmp 56) (.tmp 57) 22 rfl rfl rfl e1 ⟨ch4_to2 (by rfl) hJ hp hL (by rw [HXS.out.1]; exact e2) e3, trivial⟩
      simp only [Act.put, List.setIfInBounds_toArray, List.set_cons_succ, List.set_cons_zero]
      apply jj_fun (by decide)
      · intro L x u hL hd hJ
        have HJ := hid (ch4_skip (k := 6) (by rfl) hJ)
        clear hJ hd hL
        go_simp
        exact ⟨rfl, HJ.out⟩
      simp only [Act.put, List.setIfInBounds_toArray, List.set_cons_succ, List.set_cons_zero]
      apply jj_fun (by decide)
      · intro L x u hL hd hJ
        have c0 : u.cell? ⟨bx, 7, none⟩ = some (.slice s.ha V.ha.length s.hc) := (cell_of hJ.2.1 7).trans rfl
        have HJ := hid (ch4_skip (k := 7) (by rfl) hJ)
        clear hJ hd hL
        go_simp
        exact ⟨rfl, HJ.out⟩
      simp only [Act.put, List.setIfInBounds_toArray, List.set_cons_succ, List.set_cons_zero]
      refine jj_inv (by decide) ?_ ?_
      · intro L x u hL hd hJ
        obtain ⟨i, hi, hz0, hz1, hz2⟩ := info_parts info49
        have hp : L 5 = true := hd.1 rfl
        have hB := ch4_at3 hJ hp hL
        obtain ⟨v', u', e1, e2, e3⟩ := hB.list (t := 22) (ty := 22) Tryz.underlying22 hi hz0 hz1 hz2 (by simp [Value.cells]) (by omega) (stkF V.ha) (stkF_len V.ha) (fun hk => by
            have hs := HHA.out _ hB.ext
            obtain ⟨a', c', e, _, hc⟩ := id hs
            obtain ⟨b', o', e', _⟩ := hc 0 (by omega)
            injection e with q1 q2 q3
            rw [q1, e'] at hs
            exact ⟨_, q1.trans e', fun j q hj => stk_cellsN hs j q hj⟩) (stkF_oneN V.ha) (by have := HNB.out; omega) (by omega)
        rw [if_pos (show Region.wanted _ _ = true from rfl)]
        exact gives_append (.tmp 58) (.tmp 60) 22 rfl rfl rfl e1 ⟨ch4_to3 (by rfl) hJ hp hL (by rw [HXS.out.2]; exact e2) e3, trivial⟩
      simp only [Act.put, List.setIfInBounds_toArray, List.set_cons_succ, List.set_cons_zero]
      refine jj_nil fun L x w5 hall hJ => ?_
      obtain ⟨m1, m2⟩ := ch4_end hJ (hall 8 (by omega))
      have HX5 := hid m1.ext
      have HBX : Hid (w5.heap[bx]? = some (.cells #[.int .i64 V.gr, .slice s.ca V.cs.length s.cc, .int .i64 V.bo, .int .i64 V.ne, .int .i64 V.cr, .slice s.oa V.ow.length s.oc, .slice s.la V.le.length s.lc, .slice s.ha V.ha.length s.hc, .slice s.xa V.lo.length s.xc] 32 (0, 0))) := hid m2
      have HAL : Hid (Row w5 49 2 (x 8) (allS V).length (stkF (allS V))) := hid (by
        have := m1.row
        rw [allS_len]
        unfold allS
        rw [stkF_appN, stkF_appN, ← HXS.out.1, ← HXS.out.2]
        exact this)
      have HLEN5 := hid (HLEN.out w5 m1.km)
      clear m1 m2 hall hJ
      generalize x 0 = y0 at *
      generalize x 3 = y3 at *
      generalize x 5 = y5 at *
      generalize x 8 = y8 at *
      obtain ⟨aa, ac, rfl⟩ := HAL.out.isSliceN
      clear x L
      have HAN : Hid ((allS V).length ≤ 30) := hid (by rw [allS_len]; have := HNB.out; omega)
      have HAS := hid (StakesAt.of_row (l := allS V) HAL.out (by have := HAN.out; omega))
      obtain ⟨lra, lrc, hlr⟩ : ∃ lra lrc, lra = va ∧ lrc = vc := ⟨_, _, rfl, rfl⟩
      rw [← hlr.1, ← hlr.2] at HLEN5 ⊢
      clear hlr HLEN HRN HR4
      have HOF0 := hid (fun (u : World) (nm : ByteArray) (hu : Ext w5 u) => (show Cal 61 #[.int .i64 (partP V 0), .slice s.oa V.ow.length s.oc, .string nm] u fun e w' => e = .returned (.int .i64 (dvv V nm 0)) ∧ Ext u w' from HOA0.out u _ nm (HOW.out u (HX5.out.trans hu))))
      have HOF1 := hid (fun (u : World) (nm : ByteArray) (hu : Ext w5 u) => (show Cal 61 #[.int .i64 (partP V 1), .slice lra V.le.length lrc, .string nm] u fun e w' => e = .returned (.int .i64 (dvv V nm 1)) ∧ Ext u w' from HOA1.out u _ nm (HLEN5.out.mono hu)))
      have HOF2 := hid (fun (u : World) (nm : ByteArray) (hu : Ext w5 u) => (show Cal 61 #[.int .i64 (partP V 2), .slice s.ha V.ha.length s.hc, .string nm] u fun e w' => e = .returned (.int .i64 (dvv V nm 2)) ∧ Ext u w' from HOA2.out u _ nm (HHA.out u (HX5.out.trans hu))))
      have HALN := hid (allS_met V)
      clear HOA0 HOA1 HOA2 HOW HHA HB4 HX4 HLEN5 HAL HLT4 HNB
      have HAC : Hid (∀ k (hk : k < (allS V).length), ∃ b off, aa = some ⟨b, off, none⟩ ∧ b < w5.heap.size ∧ w5.cell? ⟨b, off + k * 2, none⟩ = some (.string (allS V)[k].name)) := hid (by
        obtain ⟨a', c', e, _, hc⟩ := HAS.out
        cases e
        exact fun k hk => by obtain ⟨b, off, h1, h2, h3, _⟩ := hc k hk; exact ⟨b, off, h1, h2, h3⟩)
      clear HAS
      generalize allS V = A at *
      gi_wp2_with fail
      gi_loopw [13, 14] (fun v i wr => ∃ k : Nat, ∃ ns : List ByteArray, k ≤ A.length ∧ i = .int .i64 k ∧ Hid (Ext w5 wr ∧ Row wr 53 4 v ns.length (dueF V ns) ∧ ns.Pairwise (fun a b => nmLt a b = true) ∧ (∀ y, y ∈ ns ↔ metS A k y) ∧ (ns = [] → v = .slice none 0 0) ∧ ns.length ≤ k)) (fun _ i _ => A.length - (intOf i).toNat)
      case atStart => exact ⟨0, [], Nat.zero_le _, rfl, hid ⟨Ext.refl _, by simpa [dueF] using Row.nil w5 53 4, List.Pairwise.nil, fun y => ⟨fun h => (by cases h), fun ⟨j, hj, _⟩ => (by omega)⟩, fun _ => rfl, by simp⟩⟩
      case round =>
        obtain ⟨k, ns, hk, rfl, HI⟩ := hrel
        obtain ⟨i1, i2, i3, i4, i5, i6⟩ := HI.out
        have hAN := HAN.out
        by_cases hlt : k < A.length
        · have hki : (k : Int) < (A.length : Int) := by omega
          obtain ⟨ab, ao, haa, hab, d0⟩ := HAC.out k hlt
          rw [← i1.cell (p := ⟨ab, _, none⟩) hab] at d0
          have hnm : k < A.length ∧ (A.getD k noStk).name = A[k].name := ⟨hlt, by rw [getD_of hlt]⟩
          generalize A[k].name = nm at *
          subst haa
          have HNM := hid hnm
          have HXI := hid i1
          have HMEM := hid i4
          have HKN := hid i6
          have HKK : Hid (k + 1 ≤ A.length) := hid hlt
          by_cases h0 : ns = []
          · have e := i5 h0
            subst e
            have HN0 : Hid (ns.length = 0) := hid (by rw [h0]; rfl)
            have HPL : Hid (0 ≤ ns.length ∧ ns.length ≤ 100) := hid (by omega)
            have HRISE : Hid ((insN ns 0 nm).Pairwise fun a b => nmLt a b = true) := hid (by subst h0; exact List.pairwise_singleton _ _)
            clear i1 i2 i3 i4 i5 i6 HI h0 hnm hab hlt hk
            gi_wp2_with fail
            gi_loop [16] (fun q => q = .int .i64 0) (fun _ => 0)
            case atStart => rfl
            case round =>
              obtain rfl := hrel
              gi_upto_region 19 with fail
              have HXO := HXI
              refine jj_own 18 [16] (box1J wr #[.string ByteArray.empty, .int .i64 0, .int .i64 0, .int .i64 0] #[.string nm, .int .i64 (dvv V nm 0), .int .i64 (dvv V nm 1), .int .i64 (dvv V nm 2)] 53 16 17) (by kernel_rfl) (by kernel_rfl) (box1_start (Ext.refl _)) ?_
              simp only [List.take_succ_cons, List.take_zero, List.drop_succ_cons, List.drop_zero]
              apply jj_fun (by decide)
              · intro L x u hL hd hJ
                have HJ := hid (box1_skip (k := 0) (by rfl) hJ (Ext.refl _))
                clear hJ hd hL
                go_simp
                exact ⟨rfl, HJ.out⟩
              simp only [Act.put, List.setIfInBounds_toArray, List.set_cons_succ, List.set_cons_zero]
              apply jj_fun (by decide)
              · intro L x u hL hd hJ
                have HJ := hid (box1_skip (k := 1) (by rfl) hJ (Ext.refl _))
                clear hJ hd hL
                go_simp
                exact ⟨rfl, HJ.out⟩
              simp only [Act.put, List.setIfInBounds_toArray, List.set_cons_succ, List.set_cons_zero]
              apply jj_fun (by decide)
              · intro L x u hL hd hJ
                have HJ := hid (box1_skip (k := 2) (by rfl) hJ (Ext.refl _))
                clear hJ hd hL
                go_simp
                exact ⟨rfl, HJ.out⟩
              simp only [Act.put, List.setIfInBounds_toArray, List.set_cons_succ, List.set_cons_zero]
              apply jj_fun (by decide)
              · intro L x u hL hd hJ
                have c0 : u.cell? ⟨bx, 5, none⟩ = some (.slice s.oa V.ow.length s.oc) := (cell_of ((HXO.out.trans hJ.1).block HBX.out) 5).trans rfl
                have HJ := hid (box1_skip (k := 3) (by rfl) hJ (Ext.refl _))
                clear hJ hd hL
                go_simp
                exact ⟨rfl, HJ.out⟩
              simp only [Act.put, List.setIfInBounds_toArray, List.set_cons_succ, List.set_cons_zero]
              apply jj_fun (by decide)
              · intro L x u hL hd hJ
                have HJ := hid (box1_skip (k := 4) (by rfl) hJ (Ext.refl _))
                clear hJ hd hL
                go_simp
                exact ⟨rfl, HJ.out⟩
              simp only [Act.put, List.setIfInBounds_toArray, List.set_cons_succ, List.set_cons_zero]
              refine jj_fun (v := .int .i64 (dvv V nm 0)) (by decide) ?_ ?_
              · intro L x u hL hd hJ
                rw [if_pos (show Region.wanted _ _ = true from rfl)]
                exact gives_callJ (vs := #[.int .i64 (partP V 0), .slice s.oa V.ow.length s.oc, .string nm]) rfl Tryz.func61 (by kernel_rfl) rfl (by simp only [List.map_toArray, List.map_cons, List.map_nil]; rfl) ((HOF0.out u nm (HXO.out.trans hJ.1)).mono fun e w'' ⟨he, hx⟩ => ⟨_, he, rfl, box1_skip (k := 5) (by rfl) hJ hx⟩)
              simp only [Act.put, List.setIfInBounds_toArray, List.set_cons_succ, List.set_cons_zero]
              apply jj_fun (by decide)
              · intro L x u hL hd hJ
                have HJ := hid (box1_skip (k := 6) (by rfl) hJ (Ext.refl _))
                clear hJ hd hL
                go_simp
                exact ⟨rfl, HJ.out⟩
              simp only [Act.put, List.setIfInBounds_toArray, List.set_cons_succ, List.set_cons_zero]
              apply jj_fun (by decide)
              · intro L x u hL hd hJ
                have HJ := hid (box1_skip (k := 7) (by rfl) hJ (Ext.refl _))
                clear hJ hd hL
                go_simp
                exact ⟨rfl, HJ.out⟩
              simp only [Act.put, List.setIfInBounds_toArray, List.set_cons_succ, List.set_cons_zero]
              apply jj_fun (by decide)
              · intro L x u hL hd hJ
                have HJ := hid (box1_skip (k := 8) (by rfl) hJ (Ext.refl _))
                clear hJ hd hL
                go_simp
                exact ⟨rfl, HJ.out⟩
              simp only [Act.put, List.setIfInBounds_toArray, List.set_cons_succ, List.set_cons_zero]
              refine jj_fun (v := .int .i64 (dvv V nm 1)) (by decide) ?_ ?_
              · intro L x u hL hd hJ
                rw [if_pos (show Region.wanted _ _ = true from rfl)]
                exact gives_callJ (vs := #[.int .i64 (partP V 1), .slice lra V.le.length lrc, .string nm]) rfl Tryz.func61 (by kernel_rfl) rfl (by simp only [List.map_toArray, List.map_cons, List.map_nil]; rfl) ((HOF1.out u nm (HXO.out.trans hJ.1)).mono fun e w'' ⟨he, hx⟩ => ⟨_, he, rfl, box1_skip (k := 9) (by rfl) hJ hx⟩)
              simp only [Act.put, List.setIfInBounds_toArray, List.set_cons_succ, List.set_cons_zero]
              apply jj_fun (by decide)
              · intro L x u hL hd hJ
                have HJ := hid (box1_skip (k := 10) (by rfl) hJ (Ext.refl _))
                clear hJ hd hL
                go_simp
                exact ⟨rfl, HJ.out⟩
              simp only [Act.put, List.setIfInBounds_toArray, List.set_cons_succ, List.set_cons_zero]
              apply jj_fun (by decide)
              · intro L x u hL hd hJ
                have HJ := hid (box1_skip (k := 11) (by rfl) hJ (Ext.refl _))
                clear hJ hd hL
                go_simp
                exact ⟨rfl, HJ.out⟩
              simp only [Act.put, List.setIfInBounds_toArray, List.set_cons_succ, List.set_cons_zero]
              apply jj_fun (by decide)
              · intro L x u hL hd hJ
                have c0 : u.cell? ⟨bx, 7, none⟩ = some (.slice s.ha V.ha.length s.hc) := (cell_of ((HXO.out.trans hJ.1).block HBX.out) 7).trans rfl
                have HJ := hid (box1_skip (k := 12) (by rfl) hJ (Ext.refl _))
                clear hJ hd hL
                go_simp
                exact ⟨rfl, HJ.out⟩
              simp only [Act.put, List.setIfInBounds_toArray, List.set_cons_succ, List.set_cons_zero]
              apply jj_fun (by decide)
              · intro L x u hL hd hJ
                have HJ := hid (box1_skip (k := 13) (by rfl) hJ (Ext.refl _))
                clear hJ hd hL
                go_simp
                exact ⟨rfl, HJ.out⟩
              simp only [Act.put, List.setIfInBounds_toArray, List.set_cons_succ, List.set_cons_zero]
              refine jj_fun (v := .int .i64 (dvv V nm 2)) (by decide) ?_ ?_
              · intro L x u hL hd hJ
                rw [if_pos (show Region.wanted _ _ = true from rfl)]
                exact gives_callJ (vs := #[.int .i64 (partP V 2), .slice s.ha V.ha.length s.hc, .string nm]) rfl Tryz.func61 (by kernel_rfl) rfl (by simp only [List.map_toArray, List.map_cons, List.map_nil]; rfl) ((HOF2.out u nm (HXO.out.trans hJ.1)).mono fun e w'' ⟨he, hx⟩ => ⟨_, he, rfl, box1_skip (k := 14) (by rfl) hJ hx⟩)
              simp only [Act.put, List.setIfInBounds_toArray, List.set_cons_succ, List.set_cons_zero]
              apply jj_fun (by decide)
              · intro L x u hL hd hJ
                have HJ := hid (box1_skip (k := 15) (by rfl) hJ (Ext.refl _))
                clear hJ hd hL
                go_simp
                exact ⟨rfl, HJ.out⟩
              simp only [Act.put, List.setIfInBounds_toArray, List.set_cons_succ, List.set_cons_zero]
              refine jj_inv (by decide) ?_ ?_
              · intro L x u hL hd hJ
                have HJ := hid (box1_make (by rfl) hJ hL)
                clear hJ hd hL
                go_simp
                exact HJ.out
              simp only [Act.put, List.setIfInBounds_toArray, List.set_cons_succ, List.set_cons_zero]
              refine jj_fun (v := undef) (by decide) ?_ ?_
              · intro L x u hL hd hJ
                have hq : L 16 = true := hd.1 rfl
                obtain ⟨g, e1, e2, e3⟩ := hJ.2.1 hq
                rw [hL] at e3
                rw [if_pos (show Region.wanted _ _ = true from rfl)]
                refine gives_store 53 (.tmp 17) (.tmp 116) rfl (g := g) (off := 0) e1 (cells := #[.string nm, .int .i64 (dvv V nm 0), .int .i64 (dvv V nm 1), .int .i64 (dvv V nm 2)]) rfl e3 (by kernel_rfl) (by simp) (by simp [Value.oneCell']) ⟨⟨rfl, ?_⟩, trivial⟩
                exact box1_fill (by rfl) hJ hq e1 (setRow_ext hJ.1 e2 _) (setRow_heap u g _ _ 53 _ e3)
              simp only [Act.put, List.setIfInBounds_toArray, List.set_cons_succ, List.set_cons_zero]
              refine jj_nil fun L x w7 hall hJ => ?_
              obtain ⟨g17, e1, e2, e3⟩ := hJ.2.1 (hall 16 (by omega))
              rw [hall 17 (by omega)] at e3
              have HX7 := hid hJ.1
              have HG7 : Hid (wr.heap.size ≤ g17 ∧ g17 < w7.heap.size) := hid ⟨e2, lt_of_block e3⟩
              have HB7 : Hid (w7.heap[g17]? = some (.cells #[.string nm, .int .i64 (dvv V nm 0), .int .i64 (dvv V nm 1), .int .i64 (dvv V nm 2)] 53 (0, 0))) := hid e3
              generalize x 16 = y16 at *
              subst e1
              clear hJ hall e2 e3 x L
              obtain ⟨XA, hXA⟩ : ∃ X, X = dueF V (ns.take (0)) := ⟨_, rfl⟩
              obtain ⟨XB, hXB⟩ : ∃ X, X = XA ++ [.string nm, .int .i64 (dvv V nm 0), .int .i64 (dvv V nm 1), .int .i64 (dvv V nm 2)] := ⟨_, rfl⟩
              obtain ⟨XC, hXC⟩ : ∃ X, X = XB ++ dueF V (ns.drop (0)) := ⟨_, rfl⟩
              have HXS := hid (And.intro hXA (And.intro hXB hXC))
              clear hXA hXB hXC
              gi_upto_region 20 with fail
              refine jj_own 12 [0, 4, 6, 7, 11] (ch4J wr w7 g17 53 4 0 4 7 11 6 (0) ((0) + 1) ((0) + 1 + 0) XA XB XC 1 [.string nm, .int .i64 (dvv V nm 0), .int .i64 (dvv V nm 1), .int .i64 (dvv V nm 2)] (.cells #[.string nm, .int .i64 (dvv V nm 0), .int .i64 (dvv V nm 1), .int .i64 (dvv V nm 2)] 53 (0, 0))) (by kernel_rfl) (by kernel_rfl) (ch4_start HX7.out HG7.out HB7.out) ?_
              simp only [List.take_succ_cons, List.take_zero, List.drop_succ_cons, List.drop_zero]
              refine jj_inv (by decide) ?_ ?_
              · intro L x u hL hd hJ
                have HJ := hid (ch4_0 (by rfl) hJ hL)
                clear hJ hd hL
                go_simp
                exact HJ.out
              simp only [Act.put, List.setIfInBounds_toArray, List.set_cons_succ, List.set_cons_zero]
              apply jj_fun (by decide)
              · intro L x u hL hd hJ
                have HJ := hid (ch4_skip (k := 1) (by rfl) hJ)
                clear hJ hd hL
                go_simp
                exact ⟨rfl, HJ.out⟩
              simp only [Act.put, List.setIfInBounds_toArray, List.set_cons_succ, List.set_cons_zero]
              apply jj_fun (by decide)
              · intro L x u hL hd hJ
                have HJ := hid (ch4_skip (k := 2) (by rfl) hJ)
                clear hJ hd hL
                go_simp
                exact ⟨rfl, HJ.out⟩
              simp only [Act.put, List.setIfInBounds_toArray, List.set_cons_succ, List.set_cons_zero]
              apply jj_fun (by decide)
              · intro L x u hL hd hJ
                have HJ := hid (ch4_skip (k := 3) (by rfl) hJ)
                clear hJ hd hL
                go_simp
                exact ⟨rfl, HJ.out⟩
              simp only [Act.put, List.setIfInBounds_toArray, List.set_cons_succ, List.set_cons_zero]
              refine jj_inv (by decide) ?_ ?_
              · intro L x u hL hd hJ
                obtain ⟨i, hi, hz0, hz1, hz2⟩ := info_parts info53
                have hp : L 0 = true := hd.1 rfl
                have hB := ch4_at1 hJ hp hL
                obtain ⟨v', u', e1, e2, e3⟩ := hB.list (t := 38) (ty := 38) (k := 0) (xc := 0) (xa := none) Tryz.underlying38 hi hz0 hz1 hz2 (by simp [Value.cells]) (by omega) (dueF V (ns.take (0))) (by simp [dueF]) (fun hk => absurd hk (by omega)) (dueF_one V _) (by have := HPL.out; omega) (by omega)
                rw [if_pos (show Region.wanted _ _ = true from rfl)]
                exact gives_append (.tmp 117) (.tmp 120) 38 rfl rfl rfl e1 ⟨ch4_to1 (by rfl) hJ hp hL (by rw [Nat.zero_add, List.nil_append, ← HXS.out.1] at e2; exact e2) e3, trivial⟩
              simp only [Act.put, List.setIfInBounds_toArray, List.set_cons_succ, List.set_cons_zero]
              apply jj_fun (by decide)
              · intro L x u hL hd hJ
                have c0 := cell_of hJ.2.1
                have HJ := hid (ch4_skip (k := 5) (by rfl) hJ)
                clear hJ hd hL
                go_simp
                exact ⟨rfl, HJ.out⟩
              simp only [Act.put, List.setIfInBounds_toArray, List.set_cons_succ, List.set_cons_zero]
              refine jj_inv (by decide) ?_ ?_
              · intro L x u hL hd hJ
                have HJ := hid (ch4_make (by rfl) hJ (cs := #[.string nm, .int .i64 (dvv V nm 0), .int .i64 (dvv V nm 1), .int .i64 (dvv V nm 2)]) rfl)
                clear hJ hd hL
                go_simp
                exact HJ.out
              simp only [Act.put, List.setIfInBounds_toArray, List.set_cons_succ, List.set_cons_zero]
              refine jj_inv (by decide) ?_ ?_
              · intro L x u hL hd hJ
                obtain ⟨i, hi, hz0, hz1, hz2⟩ := info_parts info53
                have hp : L 4 = true := hd.1 rfl
                have hq : L 6 = true := hd.2.1 rfl
                have hB := ch4_at2 hJ hp hL
                rw [hq] at hB
                obtain ⟨v', u', e1, e2, e3⟩ := hB.app (t := 38) (ty := 38) Tryz.underlying38 hi hz0 hz1 hz2 (by simp [Value.cells]) (by omega) (by omega) (by rfl) (fun u hu => by simp at hu; rcases hu with rfl | rfl | rfl | rfl <;> rfl) (by have := HPL.out; omega) (by omega)
                rw [if_pos (show Region.wanted _ _ = true from rfl)]
                exact gives_append (.tmp 121) (.tmp 123) 38 rfl rfl rfl e1 ⟨ch4_to2 (by rfl) hJ hp hL (by rw [hq, HXS.out.2.1]; exact e2) e3, trivial⟩
              simp only [Act.put, List.setIfInBounds_toArray, List.set_cons_succ, List.set_cons_zero]
              apply jj_fun (by decide)
              · intro L x u hL hd hJ
                have HJ := hid (ch4_skip (k := 8) (by rfl) hJ)
                clear hJ hd hL
                go_simp
                exact ⟨rfl, HJ.out⟩
              simp only [Act.put, List.setIfInBounds_toArray, List.set_cons_succ, List.set_cons_zero]
              apply jj_fun (by decide)
              · intro L x u hL hd hJ
                have HJ := hid (ch4_skip (k := 9) (by rfl) hJ)
                clear hJ hd hL
                go_simp
                exact ⟨rfl, HJ.out⟩
              simp only [Act.put, List.setIfInBounds_toArray, List.set_cons_succ, List.set_cons_zero]
              apply jj_fun (by decide)
              · intro L x u hL hd hJ
                have HJ := hid (ch4_skip (k := 10) (by rfl) hJ)
                clear hJ hd hL
                go_simp
                exact ⟨rfl, HJ.out⟩
              simp only [Act.put, List.setIfInBounds_toArray, List.set_cons_succ, List.set_cons_zero]
              refine jj_inv (by decide) ?_ ?_
              · intro L x u hL hd hJ
                obtain ⟨i, hi, hz0, hz1, hz2⟩ := info_parts info53
                have hp : L 7 = true := hd.1 rfl
                have hB := ch4_at3 hJ hp hL
                obtain ⟨v', u', e1, e2, e3⟩ := hB.list (t := 38) (ty := 38) (k := 0) (xc := 0) (xa := none) Tryz.underlying38 hi hz0 hz1 hz2 (by simp [Value.cells]) (by omega) (dueF V (ns.drop (0))) (by rw [dueF_len, List.length_drop, HN0.out]) (fun hk => absurd hk (by omega)) (dueF_one V _) (by have := HPL.out; omega) (by omega)
                rw [if_pos (show Region.wanted _ _ = true from rfl)]
                exact gives_append (.tmp 124) (.tmp 127) 38 rfl rfl rfl e1 ⟨ch4_to3 (by rfl) hJ hp hL (by rw [HXS.out.2.2]; exact e2) e3, trivial⟩
              simp only [Act.put, List.setIfInBounds_toArray, List.set_cons_succ, List.set_cons_zero]
              refine jj_nil fun L x w8 hall hJ => ?_
              have hE8 := (ch4_end hJ (hall 11 (by omega))).1
              have HX8 := hid hE8.ext
              have HR8 : Hid (Row w8 53 4 (x 11) (insN ns (0) nm).length (dueF V (insN ns (0) nm))) := hid (by
                have := hE8.row
                rw [dueF_ins, ins_len ns nm (by have := HPL.out; omega)]
                rw [show (0) + 1 + 0 = ns.length + 1 by have := HPL.out; have := HN0.out; omega] at this
                rw [HXS.out.2.2, HXS.out.2.1, HXS.out.1] at this
                exact this)
              clear hJ hall hE8
              generalize x 0 = y0 at *
              generalize x 4 = y4 at *
              generalize x 6 = y6 at *
              generalize x 7 = y7 at *
              generalize x 11 = y11 at *
              clear x L
              obtain ⟨q1, q2, rfl⟩ := HR8.out.isSliceN
              gi_wp2_with fail
              go_roundw
              case rel => exact ⟨k + 1, insN ns (0) nm, HKK.out, by go_num, hid ⟨HXI.out.trans HX8.out, HR8.out, HRISE.out, fun y => by rw [ins_mem, HMEM.out y]; exact (mem_next HNM.out y).symm, fun h0 => by have := ins_len ns (p := (0)) nm (by have := HPL.out; omega); rw [h0] at this; simp at this, by have := ins_len ns (p := (0)) nm (by have := HPL.out; omega); have := HKN.out; omega⟩⟩
              case measure => simp [intOf]; have := HKK.out; omega
          · have hnz : 0 < ns.length := List.length_pos_iff.2 h0
            obtain ⟨og, onc, rfl⟩ := row_addr i2 hnz
            have hpc : ns.length ≤ onc := by
              rcases i2.2 with ⟨e, _⟩ | ⟨g', cap', cur', e, _, h1, _⟩
              · cases e
              · cases e; exact h1
            have HNZ := hid hnz
            have HPC := hid hpc
            have HRO := hid i2
            have HR0 := hid i3
            have hln : ns.length ≤ 100 := by omega
            have HDC : Hid (∀ q (hq : q < ns.length), wr.cell? ⟨og, q * 4, none⟩ = some (.string ns[q])) := hid (fun q hq => by
              obtain ⟨g', c', e, _, h1, _⟩ := due_cells i2 hq
              cases e; exact h1)
            clear i1 i2 i3 i4 i5 i6 HI h0 hnm hab hlt hk hpc hnz
            gi_wp2_with fail
            gi_loop [16] (fun q => ∃ p : Nat, p ≤ ns.length ∧ q = .int .i64 p ∧ Hid (∀ j (hj : j < ns.length), j < p → nmLt ns[j] nm = true)) (fun q => ns.length - (intOf q).toNat)
            case atStart => exact ⟨0, Nat.zero_le _, rfl, hid fun j _ h => by omega⟩
            case round =>
              obtain ⟨p, hp, rfl, HLO⟩ := hrel
              by_cases hpl : p < ns.length
              · have hpi : (p : Int) < (ns.length : Int) := by omega
                have d1 := HDC.out p hpl
                by_cases hlt2 : nmLt ns[p] nm = true
                · have HNX : Hid (∀ j (hj : j < ns.length), j < p + 1 → nmLt ns[j] nm = true) := hid fun j hj hjp => by
                    by_cases h : j < p
                    · exact HLO.out j hj h
                    · obtain rfl : j = p := by omega
                      exact hlt2
                  have hbl : Op.bytesLess ns[p].toList nm.toList = true := hlt2
                  have HPP := hid hpl
                  generalize ns[p] = y at *
                  clear HLO hlt2 hpl
                  gi_wp2
                  go_round
                  case rel => exact ⟨p + 1, HPP.out, by go_num, HNX⟩
                  case measure => simp [intOf]; have := HPP.out; omega
                · have hbl : Op.bytesLess ns[p].toList nm.toList = false := by simpa [nmLt] using hlt2
                  by_cases he : ns[p].toList = nm.toList
                  · have hin : nm ∈ ns := by rw [← names_inj he]; exact List.getElem_mem hpl
                    have heb : (ns[p].toList == nm.toList) = true := by simpa using he
                    have HME : Hid (∀ y, y ∈ ns ↔ metS A (k + 1) y) := hid fun y => by
                      rw [mem_next HNM.out y, ← HMEM.out y]
                      exact ⟨.inr, fun h => h.elim (fun e => by rw [e]; exact hin) id⟩
                    generalize ns[p] = y at *
                    clear he hlt2 hin HLO
                    gi_wp2_with fail
                    go_roundw
                    case rel => exact ⟨k + 1, ns, HKK.out, by go_num, hid ⟨HXI.out, HRO.out, HR0.out, HME.out, fun h0 => (by have := HNZ.out; rw [h0] at this; simp at this), (by have := HKN.out; omega)⟩⟩
                    case measure => simp [intOf]; have := HKK.out; omega
                  · have heb : (ns[p].toList == nm.toList) = false := by simpa using he
                    have HPL : Hid (p ≤ ns.length ∧ ns.length ≤ 100) := hid ⟨hp, hln⟩
                    have HRISE : Hid ((insN ns p nm).Pairwise fun a b => nmLt a b = true) := hid (ins_rise HR0.out HLO.out fun _ => ⟨by simpa using hlt2, fun e => he (congrArg ByteArray.toList e)⟩)
                    generalize ns[p] = y at *
                    clear he hlt2 HLO hp hpl
                    gi_upto_region 19 with fail
                    have HXO := HXI
                    refine jj_own 18 [16] (box1J wr #[.string ByteArray.empty, .int .i64 0, .int .i64 0, .int .i64 0] #[.string nm, .int .i64 (dvv V nm 0), .int .i64 (dvv V nm 1), .int .i64 (dvv V nm 2)] 53 16 17) (by kernel_rfl) (by kernel_rfl) (box1_start (Ext.refl _)) ?_
                    simp only [List.take_succ_cons, List.take_zero, List.drop_succ_cons, List.drop_zero]
                    apply jj_fun (by decide)
                    · intro L x u hL hd hJ
                      have HJ := hid (box1_skip (k := 0) (by rfl) hJ (Ext.refl _))
                      clear hJ hd hL
                      go_simp
                      exact ⟨rfl, HJ.out⟩
                    simp only [Act.put, List.setIfInBounds_toArray, List.set_cons_succ, List.set_cons_zero]
                    apply jj_fun (by decide)
                    · intro L x u hL hd hJ
                      have HJ := hid (box1_skip (k := 1) (by rfl) hJ (Ext.refl _))
                      clear hJ hd hL
                      go_simp
                      exact ⟨rfl, HJ.out⟩
                    simp only [Act.put, List.setIfInBounds_toArray, List.set_cons_succ, List.set_cons_zero]
                    apply jj_fun (by decide)
                    · intro L x u hL hd hJ
                      have HJ := hid (box1_skip (k := 2) (by rfl) hJ (Ext.refl _))
                      clear hJ hd hL
                      go_simp
                      exact ⟨rfl, HJ.out⟩
                    simp only [Act.put, List.setIfInBounds_toArray, List.set_cons_succ, List.set_cons_zero]
                    apply jj_fun (by decide)
                    · intro L x u hL hd hJ
                      have c0 : u.cell? ⟨bx, 5, none⟩ = some (.slice s.oa V.ow.length s.oc) := (cell_of ((HXO.out.trans hJ.1).block HBX.out) 5).trans rfl
                      have HJ := hid (box1_skip (k := 3) (by rfl) hJ (Ext.refl _))
                      clear hJ hd hL
                      go_simp
                      exact ⟨rfl, HJ.out⟩
                    simp only [Act.put, List.setIfInBounds_toArray, List.set_cons_succ, List.set_cons_zero]
                    apply jj_fun (by decide)
                    · intro L x u hL hd hJ
                      have HJ := hid (box1_skip (k := 4) (by rfl) hJ (Ext.refl _))
                      clear hJ hd hL
                      go_simp
                      exact ⟨rfl, HJ.out⟩
                    simp only [Act.put, List.setIfInBounds_toArray, List.set_cons_succ, List.set_cons_zero]
                    refine jj_fun (v := .int .i64 (dvv V nm 0)) (by decide) ?_ ?_
                    · intro L x u hL hd hJ
                      rw [if_pos (show Region.wanted _ _ = true from rfl)]
                      exact gives_callJ (vs := #[.int .i64 (partP V 0), .slice s.oa V.ow.length s.oc, .string nm]) rfl Tryz.func61 (by kernel_rfl) rfl (by simp only [List.map_toArray, List.map_cons, List.map_nil]; rfl) ((HOF0.out u nm (HXO.out.trans hJ.1)).mono fun e w'' ⟨he, hx⟩ => ⟨_, he, rfl, box1_skip (k := 5) (by rfl) hJ hx⟩)
                    simp only [Act.put, List.setIfInBounds_toArray, List.set_cons_succ, List.set_cons_zero]
                    apply jj_fun (by decide)
                    · intro L x u hL hd hJ
                      have HJ := hid (box1_skip (k := 6) (by rfl) hJ (Ext.refl _))
                      clear hJ hd hL
                      go_simp
                      exact ⟨rfl, HJ.out⟩
                    simp only [Act.put, List.setIfInBounds_toArray, List.set_cons_succ, List.set_cons_zero]
                    apply jj_fun (by decide)
                    · intro L x u hL hd hJ
                      have HJ := hid (box1_skip (k := 7) (by rfl) hJ (Ext.refl _))
                      clear hJ hd hL
                      go_simp
                      exact ⟨rfl, HJ.out⟩
                    simp only [Act.put, List.setIfInBounds_toArray, List.set_cons_succ, List.set_cons_zero]
                    apply jj_fun (by decide)
                    · intro L x u hL hd hJ
                      have HJ := hid (box1_skip (k := 8) (by rfl) hJ (Ext.refl _))
                      clear hJ hd hL
                      go_simp
                      exact ⟨rfl, HJ.out⟩
                    simp only [Act.put, List.setIfInBounds_toArray, List.set_cons_succ, List.set_cons_zero]
                    refine jj_fun (v := .int .i64 (dvv V nm 1)) (by decide) ?_ ?_
                    · intro L x u hL hd hJ
                      rw [if_pos (show Region.wanted _ _ = true from rfl)]
                      exact gives_callJ (vs := #[.int .i64 (partP V 1), .slice lra V.le.length lrc, .string nm]) rfl Tryz.func61 (by kernel_rfl) rfl (by simp only [List.map_toArray, List.map_cons, List.map_nil]; rfl) ((HOF1.out u nm (HXO.out.trans hJ.1)).mono fun e w'' ⟨he, hx⟩ => ⟨_, he, rfl, box1_skip (k := 9) (by rfl) hJ hx⟩)
                    simp only [Act.put, List.setIfInBounds_toArray, List.set_cons_succ, List.set_cons_zero]
                    apply jj_fun (by decide)
                    · intro L x u hL hd hJ
                      have HJ := hid (box1_skip (k := 10) (by rfl) hJ (Ext.refl _))
                      clear hJ hd hL
                      go_simp
                      exact ⟨rfl, HJ.out⟩
                    simp only [Act.put, List.setIfInBounds_toArray, List.set_cons_succ, List.set_cons_zero]
                    apply jj_fun (by decide)
                    · intro L x u hL hd hJ
                      have HJ := hid (box1_skip (k := 11) (by rfl) hJ (Ext.refl _))
                      clear hJ hd hL
                      go_simp
                      exact ⟨rfl, HJ.out⟩
                    simp only [Act.put, List.setIfInBounds_toArray, List.set_cons_succ, List.set_cons_zero]
                    apply jj_fun (by decide)
                    · intro L x u hL hd hJ
                      have c0 : u.cell? ⟨bx, 7, none⟩ = some (.slice s.ha V.ha.length s.hc) := (cell_of ((HXO.out.trans hJ.1).block HBX.out) 7).trans rfl
                      have HJ := hid (box1_skip (k := 12) (by rfl) hJ (Ext.refl _))
                      clear hJ hd hL
                      go_simp
                      exact ⟨rfl, HJ.out⟩
                    simp only [Act.put, List.setIfInBounds_toArray, List.set_cons_succ, List.set_cons_zero]
                    apply jj_fun (by decide)
                    · intro L x u hL hd hJ
                      have HJ := hid (box1_skip (k := 13) (by rfl) hJ (Ext.refl _))
                      clear hJ hd hL
                      go_simp
                      exact ⟨rfl, HJ.out⟩
                    simp only [Act.put, List.setIfInBounds_toArray, List.set_cons_succ, List.set_cons_zero]
                    refine jj_fun (v := .int .i64 (dvv V nm 2)) (by decide) ?_ ?_
                    · intro L x u hL hd hJ
                      rw [if_pos (show Region.wanted _ _ = true from rfl)]
                      exact gives_callJ (vs := #[.int .i64 (partP V 2), .slice s.ha V.ha.length s.hc, .string nm]) rfl Tryz.func61 (by kernel_rfl) rfl (by simp only [List.map_toArray, List.map_cons, List.map_nil]; rfl) ((HOF2.out u nm (HXO.out.trans hJ.1)).mono fun e w'' ⟨he, hx⟩ => ⟨_, he, rfl, box1_skip (k := 14) (by rfl) hJ hx⟩)
                    simp only [Act.put, List.setIfInBounds_toArray, List.set_cons_succ, List.set_cons_zero]
                    apply jj_fun (by decide)
                    · intro L x u hL hd hJ
                      have HJ := hid (box1_skip (k := 15) (by rfl) hJ (Ext.refl _))
                      clear hJ hd hL
                      go_simp
                      exact ⟨rfl, HJ.out⟩
                    simp only [Act.put, List.setIfInBounds_toArray, List.set_cons_succ, List.set_cons_zero]
                    refine jj_inv (by decide) ?_ ?_
                    · intro L x u hL hd hJ
                      have HJ := hid (box1_make (by rfl) hJ hL)
                      clear hJ hd hL
                      go_simp
                      exact HJ.out
                    simp only [Act.put, List.setIfInBounds_toArray, List.set_cons_succ, List.set_cons_zero]
                    refine jj_fun (v := undef) (by decide) ?_ ?_
                    · intro L x u hL hd hJ
                      have hq : L 16 = true := hd.1 rfl
                      obtain ⟨g, e1, e2, e3⟩ := hJ.2.1 hq
                      rw [hL] at e3
                      rw [if_pos (show Region.wanted _ _ = true from rfl)]
                      refine gives_store 53 (.tmp 17) (.tmp 116) rfl (g := g) (off := 0) e1 (cells := #[.string nm, .int .i64 (dvv V nm 0), .int .i64 (dvv V nm 1), .int .i64 (dvv V nm 2)]) rfl e3 (by kernel_rfl) (by simp) (by simp [Value.oneCell']) ⟨⟨rfl, ?_⟩, trivial⟩
                      exact box1_fill (by rfl) hJ hq e1 (setRow_ext hJ.1 e2 _) (setRow_heap u g _ _ 53 _ e3)
                    simp only [Act.put, List.setIfInBounds_toArray, List.set_cons_succ, List.set_cons_zero]
                    refine jj_nil fun L x w7 hall hJ => ?_
                    obtain ⟨g17, e1, e2, e3⟩ := hJ.2.1 (hall 16 (by omega))
                    rw [hall 17 (by omega)] at e3
                    have HX7 := hid hJ.1
                    have HG7 : Hid (wr.heap.size ≤ g17 ∧ g17 < w7.heap.size) := hid ⟨e2, lt_of_block e3⟩
                    have HB7 : Hid (w7.heap[g17]? = some (.cells #[.string nm, .int .i64 (dvv V nm 0), .int .i64 (dvv V nm 1), .int .i64 (dvv V nm 2)] 53 (0, 0))) := hid e3
                    generalize x 16 = y16 at *
                    subst e1
                    clear hJ hall e2 e3 x L
                    have HOC : Hid (∀ j q, (dueF V ns)[j]? = some q → w7.cell? ⟨og, j, none⟩ = some q) := hid (fun j q hj => by
                      obtain ⟨g', c', e, hc⟩ := row_src (HRO.out.mono HX7.out) HNZ.out
                      cases e
                      have := hc j q hj
                      rwa [Addr.add_mid, Nat.zero_add] at this)
                    have HOG : Hid (og < w7.heap.size ∧ og ≠ g17) := hid (by
                      have h1 := row_blk2 HRO.out (g := og) rfl
                      have h2 := HX7.out.size
                      have h3 := HG7.out.1
                      exact ⟨by omega, by omega⟩)
                    obtain ⟨p2, hp2⟩ : ∃ p2 : Option Addr, (if onc = (p) then some ⟨og, 0, none⟩ else some ⟨og, (p) * 4, none⟩ : Option Addr) = p2 := ⟨_, rfl⟩
                    have HPQ := hid hp2
                    have HP2 : Hid (Value.slice (if onc = (p) then some ⟨og, 0, none⟩ else some ⟨og, (p) * 4, none⟩) (ns.length - (p)) (onc - (p)) = .slice p2 (ns.length - (p)) (onc - (p))) := hid (by rw [hp2])
                    have HP3 : Hid (0 < ns.length - (p) → p2 = some ⟨og, (p) * 4, none⟩) := hid (fun h => by rw [← hp2, if_neg (by have := HPC.out; omega)])
                    clear hp2
                    have hq1 : (p) ≤ onc := by have := HPC.out; have := HPL.out; omega
                    have hq2 : (((p) : Nat) : Int) ≤ onc := by omega
                    have hq3 : (p) ≤ ns.length := by have := HPL.out; omega
                    have hq4 : (((p) : Nat) : Int) ≤ ns.length := by omega
                    obtain ⟨XA, hXA⟩ : ∃ X, X = dueF V (ns.take (p)) := ⟨_, rfl⟩
                    obtain ⟨XB, hXB⟩ : ∃ X, X = XA ++ [.string nm, .int .i64 (dvv V nm 0), .int .i64 (dvv V nm 1), .int .i64 (dvv V nm 2)] := ⟨_, rfl⟩
                    obtain ⟨XC, hXC⟩ : ∃ X, X = XB ++ dueF V (ns.drop (p)) := ⟨_, rfl⟩
                    have HXS := hid (And.intro hXA (And.intro hXB hXC))
                    clear hXA hXB hXC
                    gi_upto_region 20 with fail
                    refine jj_own 12 [0, 4, 6, 7, 11] (ch4J wr w7 g17 53 4 0 4 7 11 6 (p) ((p) + 1) ((p) + 1 + (ns.length - (p))) XA XB XC 1 [.string nm, .int .i64 (dvv V nm 0), .int .i64 (dvv V nm 1), .int .i64 (dvv V nm 2)] (.cells #[.string nm, .int .i64 (dvv V nm 0), .int .i64 (dvv V nm 1), .int .i64 (dvv V nm 2)] 53 (0, 0))) (by kernel_rfl) (by kernel_rfl) (ch4_start HX7.out HG7.out HB7.out) ?_
                    simp only [List.take_succ_cons, List.take_zero, List.drop_succ_cons, List.drop_zero]
                    refine jj_inv (by decide) ?_ ?_
                    · intro L x u hL hd hJ
                      have HJ := hid (ch4_0 (by rfl) hJ hL)
                      clear hJ hd hL
                      go_simp
                      exact HJ.out
                    simp only [Act.put, List.setIfInBounds_toArray, List.set_cons_succ, List.set_cons_zero]
                    apply jj_fun (by decide)
                    · intro L x u hL hd hJ
                      have HJ := hid (ch4_skip (k := 1) (by rfl) hJ)
                      clear hJ hd hL
                      go_simp
                      exact ⟨rfl, HJ.out⟩
                    simp only [Act.put, List.setIfInBounds_toArray, List.set_cons_succ, List.set_cons_zero]
                    apply jj_fun (by decide)
                    · intro L x u hL hd hJ
                      have HJ := hid (ch4_skip (k := 2) (by rfl) hJ)
                      clear hJ hd hL
                      go_simp
                      exact ⟨rfl, HJ.out⟩
                    simp only [Act.put, List.setIfInBounds_toArray, List.set_cons_succ, List.set_cons_zero]
                    apply jj_fun (by decide)
                    · intro L x u hL hd hJ
                      have HJ := hid (ch4_skip (k := 3) (by rfl) hJ)
                      clear hJ hd hL
                      go_simp
                      exact ⟨rfl, HJ.out⟩
                    simp only [Act.put, List.setIfInBounds_toArray, List.set_cons_succ, List.set_cons_zero]
                    refine jj_inv (by decide) ?_ ?_
                    · intro L x u hL hd hJ
                      obtain ⟨i, hi, hz0, hz1, hz2⟩ := info_parts info53
                      have hp : L 0 = true := hd.1 rfl
                      have hB := ch4_at1 hJ hp hL
                      obtain ⟨v', u', e1, e2, e3⟩ := hB.list (t := 38) (ty := 38) (k := p) (xc := onc) (xa := some ⟨og, 0, none⟩) Tryz.underlying38 hi hz0 hz1 hz2 (by simp [Value.cells]) (by omega) (dueF V (ns.take (p))) (by rw [dueF_len, List.length_take]; have := HPL.out; omega) (fun hk => ⟨⟨og, 0, none⟩, rfl, fun j q hj => by
                          rw [Addr.add_mid, Nat.zero_add, hB.km.cell? (off := j) HOG.out.1 HOG.out.2]
                          exact HOC.out j q (dueF_take V ns _ j q hj)⟩) (dueF_one V _) (by have := HPL.out; omega) (by omega)
                      rw [if_pos (show Region.wanted _ _ = true from rfl)]
                      exact gives_append (.tmp 117) (.tmp 120) 38 rfl rfl rfl e1 ⟨ch4_to1 (by rfl) hJ hp hL (by rw [Nat.zero_add, List.nil_append, ← HXS.out.1] at e2; exact e2) e3, trivial⟩
                    simp only [Act.put, List.setIfInBounds_toArray, List.set_cons_succ, List.set_cons_zero]
                    apply jj_fun (by decide)
                    · intro L x u hL hd hJ
                      have c0 := cell_of hJ.2.1
                      have HJ := hid (ch4_skip (k := 5) (by rfl) hJ)
                      clear hJ hd hL
                      go_simp
                      exact ⟨rfl, HJ.out⟩
                    simp only [Act.put, List.setIfInBounds_toArray, List.set_cons_succ, List.set_cons_zero]
                    refine jj_inv (by decide) ?_ ?_
                    · intro L x u hL hd hJ
                      have HJ := hid (ch4_make (by rfl) hJ (cs := #[.string nm, .int .i64 (dvv V nm 0), .int .i64 (dvv V nm 1), .int .i64 (dvv V nm 2)]) rfl)
                      clear hJ hd hL
                      go_simp
                      exact HJ.out
                    simp only [Act.put, List.setIfInBounds_toArray, List.set_cons_succ, List.set_cons_zero]
                    refine jj_inv (by decide) ?_ ?_
                    · intro L x u hL hd hJ
                      obtain ⟨i, hi, hz0, hz1, hz2⟩ := info_parts info53
                      have hp : L 4 = true := hd.1 rfl
                      have hq : L 6 = true := hd.2.1 rfl
                      have hB := ch4_at2 hJ hp hL
                      rw [hq] at hB
                      obtain ⟨v', u', e1, e2, e3⟩ := hB.app (t := 38) (ty := 38) Tryz.underlying38 hi hz0 hz1 hz2 (by simp [Value.cells]) (by omega) (by omega) (by rfl) (fun u hu => by simp at hu; rcases hu with rfl | rfl | rfl | rfl <;> rfl) (by have := HPL.out; omega) (by omega)
                      rw [if_pos (show Region.wanted _ _ = true from rfl)]
                      exact gives_append (.tmp 121) (.tmp 123) 38 rfl rfl rfl e1 ⟨ch4_to2 (by rfl) hJ hp hL (by rw [hq, HXS.out.2.1]; exact e2) e3, trivial⟩
                    simp only [Act.put, List.setIfInBounds_toArray, List.set_cons_succ, List.set_cons_zero]
                    apply jj_fun (by decide)
                    · intro L x u hL hd hJ
                      have HJ := hid (ch4_skip (k := 8) (by rfl) hJ)
                      clear hJ hd hL
                      go_simp
                      exact ⟨rfl, HJ.out⟩
                    simp only [Act.put, List.setIfInBounds_toArray, List.set_cons_succ, List.set_cons_zero]
                    apply jj_fun (by decide)
                    · intro L x u hL hd hJ
                      have HJ := hid (ch4_skip (k := 9) (by rfl) hJ)
                      clear hJ hd hL
                      go_simp
                      exact ⟨rfl, HJ.out⟩
                    simp only [Act.put, List.setIfInBounds_toArray, List.set_cons_succ, List.set_cons_zero]
                    refine jj_fun (v := .slice p2 (ns.length - (p)) (onc - (p))) (by decide) ?_ ?_
                    · intro L x u hL hd hJ
                      have HJ := hid (ch4_skip (k := 10) (by rfl) hJ)
                      clear hJ hd hL
                      go_simp
                      first | exact ⟨HP2.out, HJ.out⟩ | exact ⟨by rw [← HPQ.out], HJ.out⟩ | exact ⟨by simp [← HPQ.out], HJ.out⟩
                    simp only [Act.put, List.setIfInBounds_toArray, List.set_cons_succ, List.set_cons_zero]
                    refine jj_inv (by decide) ?_ ?_
                    · intro L x u hL hd hJ
                      obtain ⟨i, hi, hz0, hz1, hz2⟩ := info_parts info53
                      have hp : L 7 = true := hd.1 rfl
                      have hB := ch4_at3 hJ hp hL
                      obtain ⟨v', u', e1, e2, e3⟩ := hB.list (t := 38) (ty := 38) (k := ns.length - (p)) (xc := onc - (p)) (xa := p2) Tryz.underlying38 hi hz0 hz1 hz2 (by simp [Value.cells]) (by omega) (dueF V (ns.drop (p))) (by rw [dueF_len, List.length_drop]) (fun hk => ⟨⟨og, (p) * 4, none⟩, HP3.out hk, fun j q hj => by
                          rw [Addr.add_mid, hB.km.cell? (off := (p) * 4 + j) HOG.out.1 HOG.out.2]
                          exact HOC.out _ q (dueF_drop V ns (by have := HPL.out; omega) j q hj)⟩) (dueF_one V _) (by have := HPL.out; omega) (by omega)
                      rw [if_pos (show Region.wanted _ _ = true from rfl)]
                      exact gives_append (.tmp 124) (.tmp 127) 38 rfl rfl rfl e1 ⟨ch4_to3 (by rfl) hJ hp hL (by rw [HXS.out.2.2]; exact e2) e3, trivial⟩
                    simp only [Act.put, List.setIfInBounds_toArray, List.set_cons_succ, List.set_cons_zero]
                    refine jj_nil fun L x w8 hall hJ => ?_
                    have hE8 := (ch4_end hJ (hall 11 (by omega))).1
                    have HX8 := hid hE8.ext
                    have HR8 : Hid (Row w8 53 4 (x 11) (insN ns (p) nm).length (dueF V (insN ns (p) nm))) := hid (by
                      have := hE8.row
                      rw [dueF_ins, ins_len ns nm (by have := HPL.out; omega)]
                      rw [show (p) + 1 + (ns.length - (p)) = ns.length + 1 by have := HPL.out; omega] at this
                      rw [HXS.out.2.2, HXS.out.2.1, HXS.out.1] at this
                      exact this)
                    clear hJ hall hE8
                    generalize x 0 = y0 at *
                    generalize x 4 = y4 at *
                    generalize x 6 = y6 at *
                    generalize x 7 = y7 at *
                    generalize x 11 = y11 at *
                    clear x L
                    obtain ⟨q1, q2, rfl⟩ := HR8.out.isSliceN
                    gi_wp2_with fail
                    go_roundw
                    case rel => exact ⟨k + 1, insN ns (p) nm, HKK.out, by go_num, hid ⟨HXI.out.trans HX8.out, HR8.out, HRISE.out, fun y => by rw [ins_mem, HMEM.out y]; exact (mem_next HNM.out y).symm, fun h0 => by have := ins_len ns (p := (p)) nm (by have := HPL.out; omega); rw [h0] at this; simp at this, by have := ins_len ns (p := (p)) nm (by have := HPL.out; omega); have := HKN.out; omega⟩⟩
                    case measure => simp [intOf]; have := HKK.out; omega
              · have hpi : ¬ (p : Int) < (ns.length : Int) := by omega
                have HPL : Hid (p ≤ ns.length ∧ ns.length ≤ 100) := hid ⟨hp, hln⟩
                have HRISE : Hid ((insN ns p nm).Pairwise fun a b => nmLt a b = true) := hid (ins_rise HR0.out HLO.out fun h => absurd h hpl)
                clear HLO hp hpl
                gi_upto_region 19 with fail
                have HXO := HXI
                refine jj_own 18 [16] (box1J wr #[.string ByteArray.empty, .int .i64 0, .int .i64 0, .int .i64 0] #[.string nm, .int .i64 (dvv V nm 0), .int .i64 (dvv V nm 1), .int .i64 (dvv V nm 2)] 53 16 17) (by kernel_rfl) (by kernel_rfl) (box1_start (Ext.refl _)) ?_
                simp only [List.take_succ_cons, List.take_zero, List.drop_succ_cons, List.drop_zero]
                apply jj_fun (by decide)
                · intro L x u hL hd hJ
                  have HJ := hid (box1_skip (k := 0) (by rfl) hJ (Ext.refl _))
                  clear hJ hd hL
                  go_simp
                  exact ⟨rfl, HJ.out⟩
                simp only [Act.put, List.setIfInBounds_toArray, List.set_cons_succ, List.set_cons_zero]
                apply jj_fun (by decide)
                · intro L x u hL hd hJ
                  have HJ := hid (box1_skip (k := 1) (by rfl) hJ (Ext.refl _))
                  clear hJ hd hL
                  go_simp
                  exact ⟨rfl, HJ.out⟩
                simp only [Act.put, List.setIfInBounds_toArray, List.set_cons_succ, List.set_cons_zero]
                apply jj_fun (by decide)
                · intro L x u hL hd hJ
                  have HJ := hid (box1_skip (k := 2) (by rfl) hJ (Ext.refl _))
                  clear hJ hd hL
                  go_simp
                  exact ⟨rfl, HJ.out⟩
                simp only [Act.put, List.setIfInBounds_toArray, List.set_cons_succ, List.set_cons_zero]
                apply jj_fun (by decide)
                · intro L x u hL hd hJ
                  have c0 : u.cell? ⟨bx, 5, none⟩ = some (.slice s.oa V.ow.length s.oc) := (cell_of ((HXO.out.trans hJ.1).block HBX.out) 5).trans rfl
                  have HJ := hid (box1_skip (k := 3) (by rfl) hJ (Ext.refl _))
                  clear hJ hd hL
                  go_simp
                  exact ⟨rfl, HJ.out⟩
                simp only [Act.put, List.setIfInBounds_toArray, List.set_cons_succ, List.set_cons_zero]
                apply jj_fun (by decide)
                · intro L x u hL hd hJ
                  have HJ := hid (box1_skip (k := 4) (by rfl) hJ (Ext.refl _))
                  clear hJ hd hL
                  go_simp
                  exact ⟨rfl, HJ.out⟩
                simp only [Act.put, List.setIfInBounds_toArray, List.set_cons_succ, List.set_cons_zero]
                refine jj_fun (v := .int .i64 (dvv V nm 0)) (by decide) ?_ ?_
                · intro L x u hL hd hJ
                  rw [if_pos (show Region.wanted _ _ = true from rfl)]
                  exact gives_callJ (vs := #[.int .i64 (partP V 0), .slice s.oa V.ow.length s.oc, .string nm]) rfl Tryz.func61 (by kernel_rfl) rfl (by simp only [List.map_toArray, List.map_cons, List.map_nil]; rfl) ((HOF0.out u nm (HXO.out.trans hJ.1)).mono fun e w'' ⟨he, hx⟩ => ⟨_, he, rfl, box1_skip (k := 5) (by rfl) hJ hx⟩)
                simp only [Act.put, List.setIfInBounds_toArray, List.set_cons_succ, List.set_cons_zero]
                apply jj_fun (by decide)
                · intro L x u hL hd hJ
                  have HJ := hid (box1_skip (k := 6) (by rfl) hJ (Ext.refl _))
                  clear hJ hd hL
                  go_simp
                  exact ⟨rfl, HJ.out⟩
                simp only [Act.put, List.setIfInBounds_toArray, List.set_cons_succ, List.set_cons_zero]
                apply jj_fun (by decide)
                · intro L x u hL hd hJ
                  have HJ := hid (box1_skip (k := 7) (by rfl) hJ (Ext.refl _))
                  clear hJ hd hL
                  go_simp
                  exact ⟨rfl, HJ.out⟩
                simp only [Act.put, List.setIfInBounds_toArray, List.set_cons_succ, List.set_cons_zero]
                apply jj_fun (by decide)
                · intro L x u hL hd hJ
                  have HJ := hid (box1_skip (k := 8) (by rfl) hJ (Ext.refl _))
                  clear hJ hd hL
                  go_simp
                  exact ⟨rfl, HJ.out⟩
                simp only [Act.put, List.setIfInBounds_toArray, List.set_cons_succ, List.set_cons_zero]
                refine jj_fun (v := .int .i64 (dvv V nm 1)) (by decide) ?_ ?_
                · intro L x u hL hd hJ
                  rw [if_pos (show Region.wanted _ _ = true from rfl)]
                  exact gives_callJ (vs := #[.int .i64 (partP V 1), .slice lra V.le.length lrc, .string nm]) rfl Tryz.func61 (by kernel_rfl) rfl (by simp only [List.map_toArray, List.map_cons, List.map_nil]; rfl) ((HOF1.out u nm (HXO.out.trans hJ.1)).mono fun e w'' ⟨he, hx⟩ => ⟨_, he, rfl, box1_skip (k := 9) (by rfl) hJ hx⟩)
                simp only [Act.put, List.setIfInBounds_toArray, List.set_cons_succ, List.set_cons_zero]
                apply jj_fun (by decide)
                · intro L x u hL hd hJ
                  have HJ := hid (box1_skip (k := 10) (by rfl) hJ (Ext.refl _))
                  clear hJ hd hL
                  go_simp
                  exact ⟨rfl, HJ.out⟩
                simp only [Act.put, List.setIfInBounds_toArray, List.set_cons_succ, List.set_cons_zero]
                apply jj_fun (by decide)
                · intro L x u hL hd hJ
                  have HJ := hid (box1_skip (k := 11) (by rfl) hJ (Ext.refl _))
                  clear hJ hd hL
                  go_simp
                  exact ⟨rfl, HJ.out⟩
                simp only [Act.put, List.setIfInBounds_toArray, List.set_cons_succ, List.set_cons_zero]
                apply jj_fun (by decide)
                · intro L x u hL hd hJ
                  have c0 : u.cell? ⟨bx, 7, none⟩ = some (.slice s.ha V.ha.length s.hc) := (cell_of ((HXO.out.trans hJ.1).block HBX.out) 7).trans rfl
                  have HJ := hid (box1_skip (k := 12) (by rfl) hJ (Ext.refl _))
                  clear hJ hd hL
                  go_simp
                  exact ⟨rfl, HJ.out⟩
                simp only [Act.put, List.setIfInBounds_toArray, List.set_cons_succ, List.set_cons_zero]
                apply jj_fun (by decide)
                · intro L x u hL hd hJ
                  have HJ := hid (box1_skip (k := 13) (by rfl) hJ (Ext.refl _))
                  clear hJ hd hL
                  go_simp
                  exact ⟨rfl, HJ.out⟩
                simp only [Act.put, List.setIfInBounds_toArray, List.set_cons_succ, List.set_cons_zero]
                refine jj_fun (v := .int .i64 (dvv V nm 2)) (by decide) ?_ ?_
                · intro L x u hL hd hJ
                  rw [if_pos (show Region.wanted _ _ = true from rfl)]
                  exact gives_callJ (vs := #[.int .i64 (partP V 2), .slice s.ha V.ha.length s.hc, .string nm]) rfl Tryz.func61 (by kernel_rfl) rfl (by simp only [List.map_toArray, List.map_cons, List.map_nil]; rfl) ((HOF2.out u nm (HXO.out.trans hJ.1)).mono fun e w'' ⟨he, hx⟩ => ⟨_, he, rfl, box1_skip (k := 14) (by rfl) hJ hx⟩)
                simp only [Act.put, List.setIfInBounds_toArray, List.set_cons_succ, List.set_cons_zero]
                apply jj_fun (by decide)
                · intro L x u hL hd hJ
                  have HJ := hid (box1_skip (k := 15) (by rfl) hJ (Ext.refl _))
                  clear hJ hd hL
                  go_simp
                  exact ⟨rfl, HJ.out⟩
                simp only [Act.put, List.setIfInBounds_toArray, List.set_cons_succ, List.set_cons_zero]
                refine jj_inv (by decide) ?_ ?_
                · intro L x u hL hd hJ
                  have HJ := hid (box1_make (by rfl) hJ hL)
                  clear hJ hd hL
                  go_simp
                  exact HJ.out
                simp only [Act.put, List.setIfInBounds_toArray, List.set_cons_succ, List.set_cons_zero]
                refine jj_fun (v := undef) (by decide) ?_ ?_
                · intro L x u hL hd hJ
                  have hq : L 16 = true := hd.1 rfl
                  obtain ⟨g, e1, e2, e3⟩ := hJ.2.1 hq
                  rw [hL] at e3
                  rw [if_pos (show Region.wanted _ _ = true from rfl)]
                  refine gives_store 53 (.tmp 17) (.tmp 116) rfl (g := g) (off := 0) e1 (cells := #[.string nm, .int .i64 (dvv V nm 0), .int .i64 (dvv V nm 1), .int .i64 (dvv V nm 2)]) rfl e3 (by kernel_rfl) (by simp) (by simp [Value.oneCell']) ⟨⟨rfl, ?_⟩, trivial⟩
                  exact box1_fill (by rfl) hJ hq e1 (setRow_ext hJ.1 e2 _) (setRow_heap u g _ _ 53 _ e3)
                simp only [Act.put, List.setIfInBounds_toArray, List.set_cons_succ, List.set_cons_zero]
                refine jj_nil fun L x w7 hall hJ => ?_
                obtain ⟨g17, e1, e2, e3⟩ := hJ.2.1 (hall 16 (by omega))
                rw [hall 17 (by omega)] at e3
                have HX7 := hid hJ.1
                have HG7 : Hid (wr.heap.size ≤ g17 ∧ g17 < w7.heap.size) := hid ⟨e2, lt_of_block e3⟩
                have HB7 : Hid (w7.heap[g17]? = some (.cells #[.string nm, .int .i64 (dvv V nm 0), .int .i64 (dvv V nm 1), .int .i64 (dvv V nm 2)] 53 (0, 0))) := hid e3
                generalize x 16 = y16 at *
                subst e1
                clear hJ hall e2 e3 x L
                have HOC : Hid (∀ j q, (dueF V ns)[j]? = some q → w7.cell? ⟨og, j, none⟩ = some q) := hid (fun j q hj => by
                  obtain ⟨g', c', e, hc⟩ := row_src (HRO.out.mono HX7.out) HNZ.out
                  cases e
                  have := hc j q hj
                  rwa [Addr.add_mid, Nat.zero_add] at this)
                have HOG : Hid (og < w7.heap.size ∧ og ≠ g17) := hid (by
                  have h1 := row_blk2 HRO.out (g := og) rfl
                  have h2 := HX7.out.size
                  have h3 := HG7.out.1
                  exact ⟨by omega, by omega⟩)
                obtain ⟨p2, hp2⟩ : ∃ p2 : Option Addr, (if onc = (p) then some ⟨og, 0, none⟩ else some ⟨og, (p) * 4, none⟩ : Option Addr) = p2 := ⟨_, rfl⟩
                have HPQ := hid hp2
                have HP2 : Hid (Value.slice (if onc = (p) then some ⟨og, 0, none⟩ else some ⟨og, (p) * 4, none⟩) (ns.length - (p)) (onc - (p)) = .slice p2 (ns.length - (p)) (onc - (p))) := hid (by rw [hp2])
                have HP3 : Hid (0 < ns.length - (p) → p2 = some ⟨og, (p) * 4, none⟩) := hid (fun h => by rw [← hp2, if_neg (by have := HPC.out; omega)])
                clear hp2
                have hq1 : (p) ≤ onc := by have := HPC.out; have := HPL.out; omega
                have hq2 : (((p) : Nat) : Int) ≤ onc := by omega
                have hq3 : (p) ≤ ns.length := by have := HPL.out; omega
                have hq4 : (((p) : Nat) : Int) ≤ ns.length := by omega
                obtain ⟨XA, hXA⟩ : ∃ X, X = dueF V (ns.take (p)) := ⟨_, rfl⟩
                obtain ⟨XB, hXB⟩ : ∃ X, X = XA ++ [.string nm, .int .i64 (dvv V nm 0), .int .i64 (dvv V nm 1), .int .i64 (dvv V nm 2)] := ⟨_, rfl⟩
                obtain ⟨XC, hXC⟩ : ∃ X, X = XB ++ dueF V (ns.drop (p)) := ⟨_, rfl⟩
                have HXS := hid (And.intro hXA (And.intro hXB hXC))
                clear hXA hXB hXC
                gi_upto_region 20 with fail
                refine jj_own 12 [0, 4, 6, 7, 11] (ch4J wr w7 g17 53 4 0 4 7 11 6 (p) ((p) + 1) ((p) + 1 + (ns.length - (p))) XA XB XC 1 [.string nm, .int .i64 (dvv V nm 0), .int .i64 (dvv V nm 1), .int .i64 (dvv V nm 2)] (.cells #[.string nm, .int .i64 (dvv V nm 0), .int .i64 (dvv V nm 1), .int .i64 (dvv V nm 2)] 53 (0, 0))) (by kernel_rfl) (by kernel_rfl) (ch4_start HX7.out HG7.out HB7.out) ?_
                simp only [List.take_succ_cons, List.take_zero, List.drop_succ_cons, List.drop_zero]
                refine jj_inv (by decide) ?_ ?_
                · intro L x u hL hd hJ
                  have HJ := hid (ch4_0 (by rfl) hJ hL)
                  clear hJ hd hL
                  go_simp
                  exact HJ.out
                simp only [Act.put, List.setIfInBounds_toArray, List.set_cons_succ, List.set_cons_zero]
                apply jj_fun (by decide)
                · intro L x u hL hd hJ
                  have HJ := hid (ch4_skip (k := 1) (by rfl) hJ)
                  clear hJ hd hL
                  go_simp
                  exact ⟨rfl, HJ.out⟩
                simp only [Act.put, List.setIfInBounds_toArray, List.set_cons_succ, List.set_cons_zero]
                apply jj_fun (by decide)
                · intro L x u hL hd hJ
                  have HJ := hid (ch4_skip (k := 2) (by rfl) hJ)
                  clear hJ hd hL
                  go_simp
                  exact ⟨rfl, HJ.out⟩
                simp only [Act.put, List.setIfInBounds_toArray, List.set_cons_succ, List.set_cons_zero]
                apply jj_fun (by decide)
                · intro L x u hL hd hJ
                  have HJ := hid (ch4_skip (k := 3) (by rfl) hJ)
                  clear hJ hd hL
                  go_simp
                  exact ⟨rfl, HJ.out⟩
                simp only [Act.put, List.setIfInBounds_toArray, List.set_cons_succ, List.set_cons_zero]
                refine jj_inv (by decide) ?_ ?_
                · intro L x u hL hd hJ
                  obtain ⟨i, hi, hz0, hz1, hz2⟩ := info_parts info53
                  have hp : L 0 = true := hd.1 rfl
                  have hB := ch4_at1 hJ hp hL
                  obtain ⟨v', u', e1, e2, e3⟩ := hB.list (t := 38) (ty := 38) (k := p) (xc := onc) (xa := some ⟨og, 0, none⟩) Tryz.underlying38 hi hz0 hz1 hz2 (by simp [Value.cells]) (by omega) (dueF V (ns.take (p))) (by rw [dueF_len, List.length_take]; have := HPL.out; omega) (fun hk => ⟨⟨og, 0, none⟩, rfl, fun j q hj => by
                      rw [Addr.add_mid, Nat.zero_add, hB.km.cell? (off := j) HOG.out.1 HOG.out.2]
                      exact HOC.out j q (dueF_take V ns _ j q hj)⟩) (dueF_one V _) (by have := HPL.out; omega) (by omega)
                  rw [if_pos (show Region.wanted _ _ = true from rfl)]
                  exact gives_append (.tmp 117) (.tmp 120) 38 rfl rfl rfl e1 ⟨ch4_to1 (by rfl) hJ hp hL (by rw [Nat.zero_add, List.nil_append, ← HXS.out.1] at e2; exact e2) e3, trivial⟩
                simp only [Act.put, List.setIfInBounds_toArray, List.set_cons_succ, List.set_cons_zero]
                apply jj_fun (by decide)
                · intro L x u hL hd hJ
                  have c0 := cell_of hJ.2.1
                  have HJ := hid (ch4_skip (k := 5) (by rfl) hJ)
                  clear hJ hd hL
                  go_simp
                  exact ⟨rfl, HJ.out⟩
                simp only [Act.put, List.setIfInBounds_toArray, List.set_cons_succ, List.set_cons_zero]
                refine jj_inv (by decide) ?_ ?_
                · intro L x u hL hd hJ
                  have HJ := hid (ch4_make (by rfl) hJ (cs := #[.string nm, .int .i64 (dvv V nm 0), .int .i64 (dvv V nm 1), .int .i64 (dvv V nm 2)]) rfl)
                  clear hJ hd hL
                  go_simp
                  exact HJ.out
                simp only [Act.put, List.setIfInBounds_toArray, List.set_cons_succ, List.set_cons_zero]
                refine jj_inv (by decide) ?_ ?_
                · intro L x u hL hd hJ
                  obtain ⟨i, hi, hz0, hz1, hz2⟩ := info_parts info53
                  have hp : L 4 = true := hd.1 rfl
                  have hq : L 6 = true := hd.2.1 rfl
                  have hB := ch4_at2 hJ hp hL
                  rw [hq] at hB
                  obtain ⟨v', u', e1, e2, e3⟩ := hB.app (t := 38) (ty := 38) Tryz.underlying38 hi hz0 hz1 hz2 (by simp [Value.cells]) (by omega) (by omega) (by rfl) (fun u hu => by simp at hu; rcases hu with rfl | rfl | rfl | rfl <;> rfl) (by have := HPL.out; omega) (by omega)
                  rw [if_pos (show Region.wanted _ _ = true from rfl)]
                  exact gives_append (.tmp 121) (.tmp 123) 38 rfl rfl rfl e1 ⟨ch4_to2 (by rfl) hJ hp hL (by rw [hq, HXS.out.2.1]; exact e2) e3, trivial⟩
                simp only [Act.put, List.setIfInBounds_toArray, List.set_cons_succ, List.set_cons_zero]
                apply jj_fun (by decide)
                · intro L x u hL hd hJ
                  have HJ := hid (ch4_skip (k := 8) (by rfl) hJ)
                  clear hJ hd hL
                  go_simp
                  exact ⟨rfl, HJ.out⟩
                simp only [Act.put, List.setIfInBounds_toArray, List.set_cons_succ, List.set_cons_zero]
                apply jj_fun (by decide)
                · intro L x u hL hd hJ
                  have HJ := hid (ch4_skip (k := 9) (by rfl) hJ)
                  clear hJ hd hL
                  go_simp
                  exact ⟨rfl, HJ.out⟩
                simp only [Act.put, List.setIfInBounds_toArray, List.set_cons_succ, List.set_cons_zero]
                refine jj_fun (v := .slice p2 (ns.length - (p)) (onc - (p))) (by decide) ?_ ?_
                · intro L x u hL hd hJ
                  have HJ := hid (ch4_skip (k := 10) (by rfl) hJ)
                  clear hJ hd hL
                  go_simp
                  first | exact ⟨HP2.out, HJ.out⟩ | exact ⟨by rw [← HPQ.out], HJ.out⟩ | exact ⟨by simp [← HPQ.out], HJ.out⟩
                simp only [Act.put, List.setIfInBounds_toArray, List.set_cons_succ, List.set_cons_zero]
                refine jj_inv (by decide) ?_ ?_
                · intro L x u hL hd hJ
                  obtain ⟨i, hi, hz0, hz1, hz2⟩ := info_parts info53
                  have hp : L 7 = true := hd.1 rfl
                  have hB := ch4_at3 hJ hp hL
                  obtain ⟨v', u', e1, e2, e3⟩ := hB.list (t := 38) (ty := 38) (k := ns.length - (p)) (xc := onc - (p)) (xa := p2) Tryz.underlying38 hi hz0 hz1 hz2 (by simp [Value.cells]) (by omega) (dueF V (ns.drop (p))) (by rw [dueF_len, List.length_drop]) (fun hk => ⟨⟨og, (p) * 4, none⟩, HP3.out hk, fun j q hj => by
                      rw [Addr.add_mid, hB.km.cell? (off := (p) * 4 + j) HOG.out.1 HOG.out.2]
                      exact HOC.out _ q (dueF_drop V ns (by have := HPL.out; omega) j q hj)⟩) (dueF_one V _) (by have := HPL.out; omega) (by omega)
                  rw [if_pos (show Region.wanted _ _ = true from rfl)]
                  exact gives_append (.tmp 124) (.tmp 127) 38 rfl rfl rfl e1 ⟨ch4_to3 (by rfl) hJ hp hL (by rw [HXS.out.2.2]; exact e2) e3, trivial⟩
                simp only [Act.put, List.setIfInBounds_toArray, List.set_cons_succ, List.set_cons_zero]
                refine jj_nil fun L x w8 hall hJ => ?_
                have hE8 := (ch4_end hJ (hall 11 (by omega))).1
                have HX8 := hid hE8.ext
                have HR8 : Hid (Row w8 53 4 (x 11) (insN ns (p) nm).length (dueF V (insN ns (p) nm))) := hid (by
                  have := hE8.row
                  rw [dueF_ins, ins_len ns nm (by have := HPL.out; omega)]
                  rw [show (p) + 1 + (ns.length - (p)) = ns.length + 1 by have := HPL.out; omega] at this
                  rw [HXS.out.2.2, HXS.out.2.1, HXS.out.1] at this
                  exact this)
                clear hJ hall hE8
                generalize x 0 = y0 at *
                generalize x 4 = y4 at *
                generalize x 6 = y6 at *
                generalize x 7 = y7 at *
                generalize x 11 = y11 at *
                clear x L
                obtain ⟨q1, q2, rfl⟩ := HR8.out.isSliceN
                gi_wp2_with fail
                go_roundw
                case rel => exact ⟨k + 1, insN ns (p) nm, HKK.out, by go_num, hid ⟨HXI.out.trans HX8.out, HR8.out, HRISE.out, fun y => by rw [ins_mem, HMEM.out y]; exact (mem_next HNM.out y).symm, fun h0 => by have := ins_len ns (p := (p)) nm (by have := HPL.out; omega); rw [h0] at this; simp at this, by have := ins_len ns (p := (p)) nm (by have := HPL.out; omega); have := HKN.out; omega⟩⟩
                case measure => simp [intOf]; have := HKK.out; omega
        · obtain rfl : k = A.length := by omega
          have hki : ¬ (A.length : Int) < (A.length : Int) := by omega
          have HDN : Hid (DueNames V ns) := hid ⟨i3, fun y => (i4 y).trans (HALN.out y)⟩
          have HRO := hid i2
          have HXI := hid i1
          have HLN : Hid (ns.length ≤ 30) := hid (by omega)
          obtain ⟨q1, q2, rfl⟩ := i2.isSliceN
          clear i1 i2 i3 i4 i5 i6 HI
          gi_wp2_with fail
          exact bodyPost_ret (v := .tuple #[.slice q1 ns.length q2, .int .i64 0]) (by simp [results, Tryz.results26, go_sem]) rfl ⟨_, rfl, HX5.out.trans HXI.out, ns, HDN.out, HLN.out, hid HRO.out⟩
end
section
open Go Go.RowKit Go.Shelf

set_option maxRecDepth 100000 in
set_option maxHeartbeats 8000000 in
theorem ShareDues_any (V : Voy) (s : VS) (w : World) (h : VoyAt w V s) : Cal 5 #[.agg (voyA V s)] w fun e w' => e = .returned (.bool true) ∧ Ext w w' := by
  have HWK := hid (fun (u : World) => works_any u)
  have HX0 : Hid (Ext w (w.alloc (.cells (voyA V s) 32))) := hid ((Ext.refl _).alloc _)
  have HB0 : Hid ((w.alloc (.cells (voyA V s) 32)).heap[w.heap.size]? = some (.cells (voyA V s) 32 (0, 0))) := hid (Ext.new (Ext.refl _))
  by_cases hE : voyE V = 0
  · have HSH := hid (fun (u : World) (hu : Ext w u) => Shares_ok V s u (h.mono hu) hE)
    have HRS := hid (fun (u : World) (hu : Ext w u) => rShares_ok V s u (h.mono hu) hE)
    clear h hE
    unfold voyA at *
    gi_enter Tryz.func5, Tryz.ntmps5
    gi_upto_region 1 with fail
    generalize w.alloc (.cells _ 32) = wa at *
    generalize w.heap.size = bx at *
    have c0 := cell_of HB0.out
    gi_upto_region 3 with (first | (gi_at_call 25; ((with_reducible refine (HSH.out _ HX0.out).mono ?_); rintro e w1 ⟨lr, ns, rfl, hx1, hdn, hnl, HR1⟩; have HX1 := hid (HX0.out.trans hx1); have HA1 := hid hx1; have c0 := cell_of (hx1.block HB0.out); clear hx1)) | (gi_at_call 26; ((with_reducible refine (HRS.out _ HX1.out).mono ?_); rintro e w2 ⟨mr, ms, rfl, hx2, hdm, hml, HR2⟩; have HX2 := hid (HX1.out.trans hx2); have HA2 := hid hx2; clear hx2)))
    clear c0
    have hms : ms = ns := hdm.eq hdn
    subst hms
    have HD1 := hid (dues_at (HR1.out.mono HA2.out) hnl)
    have HD2 := hid (dues_at HR2.out hml)
    obtain ⟨q1, q2, rfl⟩ := HR1.out.isSliceN
    obtain ⟨q3, q4, rfl⟩ := HR2.out.isSliceN
    have HSD := hid (sameDues_true _ _ _ _ HD1.out HD2.out)
    clear hdm hdn hnl hml HR1 HR2
    gi_wp2_with (first | (gi_at_call 27; ((with_reducible refine (HSD.out).mono ?_); rintro e w3 ⟨rfl, hx3⟩; have HX3 := hid (HX2.out.trans hx3); clear hx3)) | (gi_at_call 18; ((with_reducible refine (HWK.out _).mono ?_); rintro e w4 ⟨rfl, hx4⟩; have HX4 := hid (HX3.out.trans hx4); clear hx4)))
    go_ret
    exact ⟨rfl, HX4.out⟩
  · have HSH := hid (fun (u : World) (hu : Ext w u) => Shares_bad V s u (h.mono hu) hE)
    have HRS := hid (fun (u : World) (hu : Ext w u) => rShares_bad V s u (h.mono hu) hE)
    have HSD := hid (fun (u : World) => sameDues_true (.slice none 0 0) (.slice none 0 0) [] u ⟨none, 0, rfl, ⟨by simp, by simp⟩, fun i hi => by simp at hi⟩ ⟨none, 0, rfl, ⟨by simp, by simp⟩, fun i hi => by simp at hi⟩)
    have hz3 : (voyE V == voyE V) = true := by simp
    generalize voyE V = E at *
    clear h hE
    unfold voyA at *
    gi_enter Tryz.func5, Tryz.ntmps5
    gi_upto_region 1 with fail
    generalize w.alloc (.cells _ 32) = wa at *
    generalize w.heap.size = bx at *
    have c0 := cell_of HB0.out
    gi_wp2_with (first | (gi_at_call 25; ((with_reducible refine (HSH.out _ HX0.out).mono ?_); rintro e w1 ⟨rfl, hx1⟩; have HX1 := hid (HX0.out.trans hx1); have c0 := cell_of (hx1.block HB0.out); clear hx1)) | (gi_at_call 26; ((with_reducible refine (HRS.out _ HX1.out).mono ?_); rintro e w2 ⟨rfl, hx2⟩; have HX2 := hid (HX1.out.trans hx2); clear hx2)) | (gi_at_call 27; ((with_reducible refine (HSD.out _).mono ?_); rintro e w3 ⟨rfl, hx3⟩; have HX3 := hid (HX2.out.trans hx3); clear hx3)) | (gi_at_call 18; ((with_reducible refine (HWK.out _).mono ?_); rintro e w4 ⟨rfl, hx4⟩; have HX4 := hid (HX3.out.trans hx4); clear hx4)))
    go_ret
    exact ⟨rfl, HX4.out⟩
end
end Go.Proofs.YtjocoadhalimjaaGreat
