/- Casts that surely find the shoal: the search. -/
import Derived.Test.YtiklblbjnblkfaaXA
set_option linter.unusedSimpArgs false
set_option linter.unusedVariables false
namespace Go.Proofs.Ytiklblbjnblkfaa
open Go Go.RowKit Go.Shelf

/-- A slice without room to grow. -/
def FullS (w : World) (sz : Nat) (v : Value) (n : Nat) (xs : List Value) : Prop :=
  xs.length = n * sz ∧ ((v = .slice none 0 0 ∧ n = 0) ∨ ∃ g, v = .slice (some ⟨g, 0, none⟩) n n ∧ ∀ j u, xs[j]? = some u → w.cell? ((⟨g, 0, none⟩ : Addr).add j) = some u)
theorem FullS.mono {w w' : World} {sz : Nat} {v : Value} {n : Nat} {xs : List Value} (h : FullS w sz v n xs) (hx : Ext w w') : FullS w' sz v n xs := by
  obtain ⟨hl, h⟩ := h
  refine ⟨hl, ?_⟩
  rcases h with h | ⟨g, rfl, hc⟩
  · exact .inl h
  · refine .inr ⟨g, rfl, fun j u hj => ?_⟩
    have h1 := hc j u hj
    have hlt : g < w.heap.size := by
      rcases Nat.lt_or_ge g w.heap.size with h | h
      · exact h
      · rw [Addr.add_mid] at h1; simp [World.cell?, Array.getElem?_eq_none h] at h1
    rw [hx.cell (p := (⟨g, 0, none⟩ : Addr).add j) (by rw [Addr.add_mid]; exact hlt)]; exact h1
theorem append_full {w : World} {t ty T : TypeId} {sz bytes : Nat} {i : TypeInfo} {z : Value} (ht : Try.prog.underlying t = some (.slice T)) (hi : Try.prog.info? T = some i) (hz : i.zero = some z) (hs : i.size = sz) (hby : i.bytes = bytes) (hzs : z.cells.size = sz) (hsz : 0 < sz)
    {v : Value} {n : Nat} {xs : List Value} (h : FullS w sz v n xs) (a : Addr) (c : Nat) (news : List Value) (hl : news.length = sz) (hnews : ∀ j u, news[j]? = some u → w.cell? (a.add j) = some u)
    (h63 : n + 1 ≤ 1000000000) (hbytes : bytes ≤ 1000) :
    ∃ w' cap, (Builtin.append_ #[t, t] ty #[v, .slice (some a) 1 c]).run Try.prog w = .ok (.slice (some ⟨w.heap.size, 0, none⟩) (n + 1) cap) w' ∧ Row w' T sz (.slice (some ⟨w.heap.size, 0, none⟩) (n + 1) cap) (n + 1) (xs ++ news) ∧ Ext w w' := by
  subst hs
  subst hby
  have hlen : (xs ++ news).length = (n + 1) * i.size := by rw [List.length_append, h.1, hl, Nat.add_mul, Nat.one_mul]
  have hb2 : (n + 1) * i.bytes ≤ 1000000000 * 1000 := Nat.mul_le_mul h63 hbytes
  have hl1 : news.length = 1 * i.size := by rw [hl, Nat.one_mul]
  have hmax : n + 1 ≤ maxLen := by unfold maxLen; omega
  have grown : ∀ (old : Nat), ∃ w', w' = (w.drew.alloc (.cells (xs.toArray ++ news.toArray ++ Builtin.zeroCells z.cells (grownCap w (n + 1) old T - (n + 1))) T)) ∧
      Row w' T i.size (.slice (some ⟨w.heap.size, 0, none⟩) (n + 1) (grownCap w (n + 1) old T)) (n + 1) (xs ++ news) ∧ Ext w w' := by
    intro old
    have hge := grownCap_ge w (n + 1) old T
    refine ⟨_, rfl, ⟨hlen, .inr ⟨w.heap.size, _, _, rfl, heap_alloc_new w.drew _, hge, grownCap_le_maxLen w (n + 1) old T hmax, ?_, ?_⟩⟩, ⟨rfl, rfl, rfl, by simp, fun k hk => heap_alloc_old w.drew _ k hk⟩⟩
    · simp only [Array.size_append, List.size_toArray, size_zeroCells, hzs, h.1, hl, Nat.sub_mul]
      have h2 : (n + 1) * i.size ≤ grownCap w (n + 1) old T * i.size := Nat.mul_le_mul_right _ hge
      rw [Nat.add_mul, Nat.one_mul] at h2 ⊢
      omega
    · simp only [Array.toList_append]
      rw [← hlen]
      exact List.take_left
  rcases h.2 with ⟨rfl, rfl⟩ | ⟨g, rfl, holds⟩
  · have hx : xs = [] := List.eq_nil_of_length_eq_zero (by simpa using h.1)
    subst hx
    have hr := run_append_nil (P := Try.prog) w t ty T i z ht hi hz a 1 c news hl1 hnews (by omega) (by omega) (by omega)
    obtain ⟨w', hw', hrow, hgr⟩ := grown 0
    simp only [Nat.zero_add, List.nil_append, Array.empty_append] at hrow hgr hw' ⊢
    rw [← hw'] at hr
    exact ⟨_, _, hr, hrow, hgr⟩
  · have hr := run_append_grow (P := Try.prog) w t ty T i z ht hi hz ⟨g, 0, none⟩ n n xs h.1 holds a 1 c news hl1 hnews (by omega) (by omega) (growslice_fits (by omega) (by omega))
    obtain ⟨w', hw', hrow, hgr⟩ := grown n
    rw [← hw'] at hr
    exact ⟨_, _, hr, hrow, hgr⟩
/-- One element is appended to a slice without room. -/
theorem wpIn_append_full {F : Fence} {n0 : Nat} (hF : ∀ f, F.fn f) (hn : F.depth = none) {o : Oper} {act : Act} {w : World} {K : Act → World → Prop} {Q : Exit → Act → World → Prop} (s x : Operand) {t T : TypeId} {sz bytes : Nat} {i : TypeInfo} {z : Value}
    (ho : o.op = .call { callee := .builtin .append, args := #[s, x], argTypes := #[t, t] })
    (ht : Try.prog.underlying t = some (.slice T)) (hi : Try.prog.info? T = some i) (hz : i.zero = some z) (hs : i.size = sz) (hby : i.bytes = bytes) (hzs : z.cells.size = sz) (hsz : 0 < sz)
    {v : Value} {n : Nat} {xs : List Value} (hv : act.eval s = v) (h : FullS w sz v n xs) (a : Addr) (c : Nat) (hx : act.eval x = .slice (some a) 1 c) (news : List Value) (hl : news.length = sz) (hnews : ∀ j u, news[j]? = some u → w.cell? (a.add j) = some u)
    (h63 : n + 1 ≤ 1000000000) (hbytes : bytes ≤ 1000)
    (hK : ∀ cap w', Row w' T sz (.slice (some ⟨w.heap.size, 0, none⟩) (n + 1) cap) (n + 1) (xs ++ news) → Ext w w' → K (act.put o.dst (.slice (some ⟨w.heap.size, 0, none⟩) (n + 1) cap)) w') : o.wpIn F n0 Try.prog act w K Q := by
  obtain ⟨w', cap, hrun, hrow, hgr⟩ := append_full (ty := o.type) ht hi hz hs hby hzs hsz h a c news hl hnews h63 hbytes
  exact wpIn_of_gives (R := fun u u' => u = w → u' = w' ) (V := fun u u' => u = (.slice (some ⟨w.heap.size, 0, none⟩) (n + 1) cap) ∧ u' = w') hF hn (gives_append s x t ho hv hx hrun ⟨⟨rfl, rfl⟩, fun _ => rfl⟩) fun u u' hu _ => by
    rw [hu.1, hu.2]; exact hK cap w' hrow hgr
theorem Row.full {w : World} {T : TypeId} {sz : Nat} {v : Value} {n : Nat} {xs : List Value} (h : Row w T sz v n xs) : v = .slice none 0 0 ∧ n = 0 ∨ ∃ g cap, v = .slice (some ⟨g, 0, none⟩) n cap ∧ n ≤ cap ∧ FullS w sz (.slice (some ⟨g, 0, none⟩) n n) n xs := by
  have h0 := h
  obtain ⟨hl, h⟩ := h
  rcases h with ⟨rfl, rfl⟩ | ⟨g, cap, cur, rfl, hg, hnc, _⟩
  · exact .inl ⟨rfl, rfl⟩
  · exact .inr ⟨g, cap, rfl, hnc, hl, .inr ⟨g, rfl, World.ownsRow.cells (base := 0) (e := T) (size := sz) (n := n) (h0.own 0 (fun _ _ => Nat.zero_le _)) (g := g) rfl⟩⟩

def leftC (D : SeaD) (ps : List (Int × Int)) (c : Cst) : List (Int × Int) := leftOf (col (seaOf D) c.cell) (row (seaOf D) c.cell) c.far ps
def nextI (ch : List Nat) : Nat := if ch.length = 0 then 0 else ch.getD (ch.length - 1) 0 + 1
/-- The search: the first choice of so many more casts that leave none of the places. -/
def seekF (D : SeaD) (cs : List Cst) : Nat → List Nat → List (Int × Int) → Option (List Nat)
  | 0, ch, ps => if ps.length = 0 then some ch else none
  | m + 1, ch, ps => (List.range' (nextI ch) (cs.length - nextI ch)).findSome? fun i => seekF D cs m (ch ++ [i]) (leftC D ps (cs.getD i ⟨0, 0⟩))
def seekRes (D : SeaD) (cs : List Cst) (m : Nat) (ch : List Nat) (ps : List (Int × Int)) (v : Value) (u : World) : Prop :=
  (seekF D cs m ch ps = none ∧ v = .slice none 0 0) ∨ ∃ l g n c, seekF D cs m ch ps = some l ∧ v = .slice (some ⟨g, 0, none⟩) n c ∧ Row u 3 1 v l.length (natVals l)
def placesP (ps : List (Int × Int)) (v : Value) (u : World) : Prop := Row u 81 2 v ps.length (flatP ps)
theorem seekRes.mono {D : SeaD} {cs : List Cst} {m : Nat} {ch : List Nat} {ps : List (Int × Int)} {v : Value} {u u' : World} (h : seekRes D cs m ch ps v u) (hx : Ext u u') : seekRes D cs m ch ps v u' := by
  rcases h with h | ⟨l, g, n, c, h1, h2, h3⟩
  · exact .inl h
  · exact .inr ⟨l, g, n, c, h1, h2, h3.mono hx⟩
end Go.Proofs.Ytiklblbjnblkfaa
