/- Settling a group: the mathematics. -/
import Derived.Test.YtjocoadhalimjaaGreatRAS
set_option linter.unusedSimpArgs false
set_option linter.unusedVariables false
namespace Go.Proofs.YtjocoadhalimjaaGreat
section
open Go Go.RowKit Go.Shelf

theorem countP_lessG {α : Type} {p q : α → Bool} {i : α} : ∀ l : List α, (∀ j, p j = true → q j = true) → i ∈ l → q i = true → p i = false → l.countP p + 1 ≤ l.countP q
  | [], _, h, _, _ => by cases h
  | x :: l, hs, h, hq, hp => by
    rw [List.countP_cons, List.countP_cons]
    have hle : l.countP p ≤ l.countP q := List.countP_mono_left fun j _ hj => hs j hj
    rcases List.mem_cons.1 h with rfl | h
    · rw [hq, hp]; simp; omega
    · have := countP_lessG l hs h hq hp
      by_cases hx : p x = true
      · rw [hx, hs x hx]; simp; omega
      · have h0 : (if p x = true then 1 else 0) = 0 := if_neg hx
        rw [h0]; omega
theorem countP_two {α : Type} [DecidableEq α] {q : α → Bool} {i j : α} {l : List α} (hi : i ∈ l) (hj : j ∈ l) (hne : i ≠ j) (h1 : q i = true) (h2 : q j = true) : 2 ≤ l.countP q := by
  have ha := countP_lessG (p := fun x => q x && decide (x ≠ i)) (q := q) (i := i) l (fun x hx => by simp only [Bool.and_eq_true] at hx; exact hx.1) hi h1 (by simp)
  have hb : 0 < l.countP (fun x => q x && decide (x ≠ i)) := List.countP_pos_iff.2 ⟨j, hj, by simp [h2, Ne.symm hne]⟩
  omega
theorem ind_sum (s : Int) {x : Int} : ∀ {g : List Int}, g.Nodup → x ∈ g → (g.map fun y => if y = x then s else 0).sum = s
  | [], _, h => by cases h
  | y :: g, hn, h => by
    rw [List.nodup_cons] at hn
    rw [List.map_cons, List.sum_cons]
    by_cases hy : y = x
    · subst hy
      have h0 : ∀ l : List Int, y ∉ l → (l.map fun z => if z = y then s else 0).sum = 0 := by
        intro l
        induction l with
        | nil => intro _; rfl
        | cons z l ih =>
          intro hz
          simp at hz
          rw [List.map_cons, List.sum_cons, if_neg (fun e => hz.1 e.symm), ih hz.2]; rfl
      rw [if_pos rfl, h0 g hn.1]; omega
    · rw [if_neg hy, ind_sum s hn.2 (by rcases List.mem_cons.1 h with e | e; exact absurd e.symm hy; exact e)]; omega
def sumG (D : Nat → Int) (g : List Int) : Int := (g.map fun x => D x.toNat).sum
def cntG (D : Nat → Int) (g : List Int) : Nat := g.countP fun x => D x.toNat != 0
theorem sum_addI {α : Type} (l : List α) (f h : α → Int) : (l.map fun x => f x + h x).sum = (l.map f).sum + (l.map h).sum := by
  induction l with
  | nil => rfl
  | cons x l ih => simp only [List.map_cons, List.sum_cons, ih]; omega
theorem sumG_pay (D : Nat → Int) {g : List Int} {p : Py} (hn : g.Nodup) (h0 : ∀ x ∈ g, 0 ≤ x) (ha : p.a ∈ g) (hz : p.z ∈ g) (hne : p.a ≠ p.z) : sumG (payL D p) g = sumG D g := by
  have e : sumG (payL D p) g = (g.map fun x => (D x.toNat + ((fun y => if y = p.a then p.s else 0) x + (fun y => if y = p.z then -p.s else 0) x))).sum := by
    unfold sumG
    congr 1
    apply List.map_congr_left
    intro x hx
    have := h0 x hx
    unfold payL
    rw [show ((x.toNat : Nat) : Int) = x by omega]
    dsimp only
    by_cases h1 : x = p.z
    · rw [if_pos h1, if_neg (by rw [h1]; exact fun e => hne e.symm), if_pos h1]; omega
    · by_cases h2 : x = p.a
      · rw [if_neg h1, if_pos h2, if_pos h2, if_neg h1]; omega
      · rw [if_neg h1, if_neg h2, if_neg h2, if_neg h1]; omega
  rw [e, sum_addI, sum_addI, ind_sum _ hn ha, ind_sum _ hn hz]
  unfold sumG; omega
theorem sum_neg {D : Nat → Int} : ∀ {g : List Int}, (∀ x ∈ g, D x.toNat ≤ 0) → sumG D g ≤ 0 ∧ ∀ x ∈ g, D x.toNat < 0 → sumG D g < 0
  | [], _ => ⟨by simp [sumG], by simp⟩
  | y :: g, h => by
    have ih := sum_neg (g := g) fun x hx => h x (List.mem_cons_of_mem _ hx)
    have h1 := h y List.mem_cons_self
    have e : sumG D (y :: g) = D y.toNat + sumG D g := by simp [sumG]
    refine ⟨by omega, fun x hx hlt => ?_⟩
    rcases List.mem_cons.1 hx with rfl | hx
    · omega
    · have := ih.2 x hx hlt; omega
theorem sum_pos {D : Nat → Int} : ∀ {g : List Int}, (∀ x ∈ g, 0 ≤ D x.toNat) → 0 ≤ sumG D g ∧ (sumG D g = 0 → ∀ x ∈ g, D x.toNat = 0)
  | [], _ => ⟨by simp [sumG], by simp⟩
  | y :: g, h => by
    have ih := sum_pos (g := g) fun x hx => h x (List.mem_cons_of_mem _ hx)
    have h1 := h y List.mem_cons_self
    have e : sumG D (y :: g) = D y.toNat + sumG D g := by simp [sumG]
    refine ⟨by omega, fun h0 x hx => ?_⟩
    rcases List.mem_cons.1 hx with rfl | hx
    · have := ih.1; omega
    · exact ih.2 (by have := ih.1; omega) x hx
/-- What settling has done so far. -/
structure SetOk (n : Nat) (g : List Int) (D0 D : Nat → Int) (ps : List Py) : Prop where
  good : ∀ p ∈ ps, pyGood n p = true ∧ p.a ∈ g ∧ p.z ∈ g ∧ p.s ≤ 1000000
  fold : D = ps.foldl payL D0
  cnt : ps.length + cntG D g ≤ cntG D0 g
  last : cntG D g = 0 → 0 < cntG D0 g → ps.length + 1 ≤ cntG D0 g
  sum : sumG D g = 0
  bnd : ∀ i, -1000000 ≤ D i ∧ D i ≤ 1000000
theorem SetOk.start {n : Nat} {g : List Int} {D : Nat → Int} (hs : sumG D g = 0) (hb : ∀ i, -1000000 ≤ D i ∧ D i ≤ 1000000) : SetOk n g D D [] := ⟨by simp, rfl, by simp, fun h1 h2 => by omega, hs, hb⟩
theorem payL_at (D : Nat → Int) (p : Py) {x : Int} (hx : 0 ≤ x) : payL D p x.toNat = if x = p.z then D x.toNat - p.s else if x = p.a then D x.toNat + p.s else D x.toNat := by
  unfold payL; rw [show ((x.toNat : Nat) : Int) = x by omega]
theorem SetOk.step {n : Nat} {g : List Int} {D0 D : Nat → Int} {ps : List Py} (hok : SetOk n g D0 D ps) (hn : g.Nodup) (hr : ∀ x ∈ g, 0 ≤ x ∧ x < (n : Int)) {f t : Int} (hf : f ∈ g) (ht : t ∈ g) (h1 : D f.toNat < 0) (h2 : 0 < D t.toNat) :
    SetOk n g D0 (payL D ⟨f, t, minI (-D f.toNat) (D t.toNat)⟩) (ps ++ [⟨f, t, minI (-D f.toNat) (D t.toNat)⟩]) ∧ cntG (payL D ⟨f, t, minI (-D f.toNat) (D t.toNat)⟩) g < cntG D g := by
  have hne : f ≠ t := fun e => by rw [e] at h1; omega
  obtain ⟨s, hs⟩ : ∃ s, minI (-D f.toNat) (D t.toNat) = s := ⟨_, rfl⟩
  have hs1 : 0 < s ∧ s ≤ -D f.toNat ∧ s ≤ D t.toNat ∧ (s = -D f.toNat ∨ s = D t.toNat) := by
    rw [← hs]; unfold minI; split <;> omega
  rw [hs]
  have hbf := hok.bnd f.toNat
  have hbt := hok.bnd t.toNat
  have hpf : payL D ⟨f, t, s⟩ f.toNat = D f.toNat + s := by rw [payL_at D _ (hr f hf).1]; rw [if_neg hne, if_pos rfl]
  have hpt : payL D ⟨f, t, s⟩ t.toNat = D t.toNat - s := by rw [payL_at D _ (hr t ht).1]; rw [if_pos rfl]
  have hkeep : ∀ x : Int, x ∈ g → (payL D ⟨f, t, s⟩ x.toNat != 0) = true → (D x.toNat != 0) = true := by
    intro x hx hnz
    rw [payL_at D _ (hr x hx).1] at hnz
    by_cases e1 : x = t
    · subst e1; simp; omega
    · by_cases e2 : x = f
      · subst e2; simp; omega
      · rw [if_neg e1, if_neg e2] at hnz; exact hnz
  have hless : cntG (payL D ⟨f, t, s⟩) g + 1 ≤ cntG D g := by
    have hk : ∀ l : List Int, (∀ x ∈ l, x ∈ g) → ∀ i : Int, i ∈ l → (D i.toNat != 0) = true → (payL D ⟨f, t, s⟩ i.toNat != 0) = false → l.countP (fun x => payL D ⟨f, t, s⟩ x.toNat != 0) + 1 ≤ l.countP (fun x => D x.toNat != 0) := by
      intro l
      induction l with
      | nil => intro _ i hi; cases hi
      | cons x l ih =>
        intro hsub i hi hq hp
        rw [List.countP_cons, List.countP_cons]
        have hle : l.countP (fun x => payL D ⟨f, t, s⟩ x.toNat != 0) ≤ l.countP (fun x => D x.toNat != 0) := List.countP_mono_left fun j hj h => hkeep j (hsub j (List.mem_cons_of_mem _ hj)) h
        rcases List.mem_cons.1 hi with e | hi
        · subst e; rw [hq, hp]; simp; omega
        · have := ih (fun x hx => hsub x (List.mem_cons_of_mem _ hx)) i hi hq hp
          by_cases hx : (payL D ⟨f, t, s⟩ x.toNat != 0) = true
          · rw [hx, hkeep x (hsub x List.mem_cons_self) hx]; simp; omega
          · have h0 : (if (payL D ⟨f, t, s⟩ x.toNat != 0) = true then 1 else 0) = 0 := if_neg hx
            rw [h0]; omega
    rcases hs1.2.2.2 with e | e
    · exact hk g (fun _ h => h) f hf (by simp; omega) (by rw [hpf]; simp; omega)
    · exact hk g (fun _ h => h) t ht (by simp; omega) (by rw [hpt]; simp; omega)
  refine ⟨⟨fun p hp => ?_, by rw [List.foldl_append, ← hok.fold]; rfl, by have := hok.cnt; simp; omega, fun hc h0 => ?_, ?_, fun i => ?_⟩, by omega⟩
  · rcases List.mem_append.1 hp with hp | hp
    · exact hok.good p hp
    · rw [List.mem_singleton] at hp
      subst hp
      have e1 := hr f hf
      have e2 := hr t ht
      refine ⟨?_, hf, ht, show s ≤ 1000000 by omega⟩
      simp only [pyGood, inB, Bool.and_eq_true, Bool.not_eq_true', decide_eq_true_eq, beq_eq_false_iff_ne, decide_eq_false_iff_not]
      refine ⟨?_, ?_, hne, by omega⟩ <;> (try simp) <;> omega
  · have h3 : 2 ≤ cntG D g := countP_two hf ht hne (by simp; omega) (by simp; omega)
    have := hok.cnt
    simp; omega
  · rw [sumG_pay D hn (fun x hx => (hr x hx).1) hf ht hne]; exact hok.sum
  · have hbi := hok.bnd i
    unfold payL
    have e1 := (hr f hf).1
    have e2 := (hr t ht).1
    split
    · rename_i h
      have : i = t.toNat := by simp at h; omega
      subst this; simp; omega
    · split
      · rename_i h
        have : i = f.toNat := by simp at h; omega
        subst this; simp; omega
      · exact hbi
theorem SetOk.more {n : Nat} {g : List Int} {D0 D : Nat → Int} {ps : List Py} (hok : SetOk n g D0 D ps) {f : Int} (hf : f ∈ g) (h1 : D f.toNat < 0) : ∃ t ∈ g, 0 < D t.toNat := by
  refine Classical.byContradiction fun hno => ?_
  have h2 : ∀ x ∈ g, D x.toNat ≤ 0 := fun x hx => Classical.byContradiction fun h => hno ⟨x, hx, by omega⟩
  have := (sum_neg h2).2 f hf h1
  have := hok.sum
  omega
theorem SetOk.ended {n : Nat} {g : List Int} {D0 D : Nat → Int} {ps : List Py} (hok : SetOk n g D0 D ps) (h : ∀ x ∈ g, ¬ D x.toNat < 0) : (∀ x ∈ g, D x.toNat = 0) ∧ (0 < cntG D0 g → ps.length + 1 ≤ cntG D0 g) := by
  have h1 := (sum_pos (D := D) (g := g) fun x hx => by have := h x hx; omega).2 hok.sum
  refine ⟨h1, hok.last ?_⟩
  unfold cntG
  rw [List.countP_eq_zero]
  intro x hx
  rw [h1 x hx]; simp
theorem idxF_some {p : Int → Bool} {g : List Int} (h : ∃ x ∈ g, p x = true) : ∃ (k : Nat) (hk : k < g.length), idxF p g = k ∧ p g[k] = true := by
  obtain ⟨x, hx, hp⟩ := h
  cases hf : g.findIdx? p with
  | none => rw [List.findIdx?_eq_none_iff] at hf; have := hf x hx; rw [hp] at this; cases this
  | some k =>
    have h2 := List.findIdx?_eq_some_iff_getElem.1 hf
    obtain ⟨hk, h3, _⟩ := h2
    exact ⟨k, hk, by unfold idxF; rw [hf], h3⟩
theorem idxF_no {p : Int → Bool} {g : List Int} (h : ∀ x ∈ g, p x = false) : idxF p g = -1 := by
  unfold idxF
  rw [List.findIdx?_eq_none_iff.2 h]
def dl (n : Nat) (D : Nat → Int) : List Int := (List.range n).map D
theorem dl_len (n : Nat) (D : Nat → Int) : (dl n D).length = n := by simp [dl]
theorem dl_at {n : Nat} (D : Nat → Int) {i : Nat} (h : i < n) : (dl n D).getD i 0 = D i := by
  rw [List.getD_eq_getElem?_getD]; simp [dl, h]
theorem payP_dl {n : Nat} (D : Nat → Int) {x : Int} (h : 0 ≤ x ∧ x < (n : Int)) : payP (dl n D) x = decide (D x.toNat < 0) := by
  unfold payP; rw [dl_at D (by omega)]
theorem getP_dl {n : Nat} (D : Nat → Int) {x : Int} (h : 0 ≤ x ∧ x < (n : Int)) : getP (dl n D) x = decide (0 < D x.toNat) := by
  unfold getP; rw [dl_at D (by omega)]
theorem intsV_dl (n : Nat) (D : Nat → Int) : intsV (dl n D) = intsF n D := by simp [intsV, dl, intsF]
end
section
open Go Go.RowKit Go.Shelf

set_option maxRecDepth 100000 in
theorem gives_call {o : Oper} {f : Nat} {fn : Func} {args : Array Operand} {ts : Array TypeId} {a : Act} {u : World} {vs : Array Value} {v : Value} (ho : o.op = .call { callee := .value (.func f), args := args, argTypes := ts }) (hfn : Tryz.prog.funcs[f]? = some fn) (hn : (fn.name == "runtime.NumGoroutine") = false) (hb : fn.body.isNone = false) (he : args.map a.eval = vs) (hc : Cal f vs u fun e w' => e = .returned v ∧ Ext u w') :
    gives Fence.wide 0 Tryz.prog (fun u u' => Ext u u') o a u (fun r _ => r = v) := by
  unfold gives
  rw [Oper.semAt_eq _ _ _ (by rw [ho]; intro c h; cases h)]
  unfold execOp
  simp only [ho, resolve, invoke, Sem.run_bind, Sem.run_pure, Result.andThen_ok, he]
  have hf : a.eval (.func f) = .func (.func f) #[] #[] := rfl
  rw [hf]
  simp only [Deferred.ofValue, Sem.run_pure, Result.andThen_ok, callFunc, Array.append_empty, Array.empty_append]
  rw [Sem.run_bind, show (program).run Tryz.prog u = .ok Tryz.prog u from rfl, Result.andThen_ok, hfn]
  simp only [hn, hb, Bool.false_eq_true, if_false, Sem.run_pure]
  unfold giveUpon
  exact CallsIn.mono hc fun e w' h => ⟨v, h.1, rfl, h.2⟩
theorem KM.put_self {bm : Nat} {u v : World} (h : KM bm u v) (off : Nat) (x : Value) : KM bm u (v.setCell ⟨bm, off, none⟩ x) := ⟨by simpa using h.1, fun q o hq ho => by rw [set_other hq]; exact h.2 q o hq ho⟩
theorem KM.grown {bm : Nat} {u v w : World} (h : KM bm u v) {ob : Option Nat} (hg : v.grownBy w ob) (hob : ∀ g, ob = some g → u.heap.size ≤ g) : KM bm u w :=
  ⟨Nat.le_trans h.1 hg.size, fun q o hq ho => grownBy_block hg (h.2 q o hq ho) (fun e => by have h1 := hob q e.symm; have h2 := lt_of_block ho; omega)⟩
/-- A list of numbers that lies in no block named db. -/
def GAt (db : Nat) (w : World) (v : Value) (g : List Int) : Prop :=
  ∃ a cap, v = .slice a g.length cap ∧ (g.length ≤ cap ∧ g.length ≤ 1000000000000000) ∧ ∀ i (h : i < g.length), ∃ b off, a = some ⟨b, off, none⟩ ∧ b < w.heap.size ∧ b ≠ db ∧ w.cell? ⟨b, off + i, none⟩ = some (.int .i64 g[i])
theorem GAt.ints {db : Nat} {w : World} {v : Value} {g : List Int} (h : GAt db w v g) : IntsAt w v g := by
  obtain ⟨a, cap, e, hl, hc⟩ := h
  refine ⟨a, cap, e, hl, fun i hi => ?_⟩
  obtain ⟨b, off, h1, h2, _, h3⟩ := hc i hi
  exact ⟨b, off, h1, h2, h3⟩
theorem GAt.km {db : Nat} {w w' : World} {v : Value} {g : List Int} (h : GAt db w v g) (hk : KM db w w') : GAt db w' v g := by
  obtain ⟨a, cap, e, hl, hc⟩ := h
  refine ⟨a, cap, e, hl, fun i hi => ?_⟩
  obtain ⟨b, off, h1, h2, h3, h4⟩ := hc i hi
  exact ⟨b, off, h1, Nat.lt_of_lt_of_le h2 hk.1, h3, by rw [hk.cell? h2 h3]; exact h4⟩
def pysF (ps : List Py) : List Value := ps.flatMap fun p => [.int .i64 p.a, .int .i64 p.z, .int .i64 p.s]
theorem pysF_snoc (ps : List Py) (p : Py) : pysF (ps ++ [p]) = pysF ps ++ [.int .i64 p.a, .int .i64 p.z, .int .i64 p.s] := by simp [pysF]
def lenOf : Value → Nat
  | .slice _ n _ => n
  | _ => 0
def pOne (y : Int) (v : Value) (u : World) : Prop := ∃ g, v = .slice (some ⟨g, 0, none⟩) 1 1 ∧ u.heap[g]? = some (.cells #[.int .i64 y] 3 (0, 0))
theorem least_one (x y : Int) (v : Value) (u : World) (h : pOne y v u) : Cal 108 #[.int .i64 x, v] u fun e w' => e = .returned (.int .i64 (minI x y)) ∧ u = w' := by
  obtain ⟨q, rfl, hqc⟩ := h
  exact least_any x y q u (by rw [cell_of hqc]; rfl) (lt_of_block hqc)
theorem pOne_s (y : Int) : ∀ v u u', pOne y v u → Ext u u' → pOne y v u' := fun _ _ _ ⟨g, h1, h2⟩ k => ⟨g, h1, k.block h2⟩
theorem info74 : (Tryz.prog.info? 74).map (fun i => (i.zero, i.size, i.bytes)) = some (some (.agg #[.int .i64 0, .int .i64 0, .int .i64 0]), 3, 24) := by kernel_rfl
theorem intsF_get {n j : Nat} (f : Nat → Int) (hj : j < n) : (intsF n f)[j]? = some (.int .i64 (f j)) := by simp [intsF, hj]
theorem Row.dl {w : World} {v : Value} {n : Nat} {D : Nat → Int} (h : Row w 3 1 v n (intsF n D)) (hn : n ≤ 10) : IntsAt w v (dl n D) :=
  IntsAt.of_row (by rw [dl_len, intsV_dl]; exact h) (by rw [dl_len]; omega)
theorem row_cell {w : World} {db n cap : Nat} {D : Nat → Int} (h : Row w 3 1 (.slice (some ⟨db, 0, none⟩) n cap) n (intsF n D)) {j : Nat} (hj : j < n) : w.cell? ⟨db, j, none⟩ = some (.int .i64 (D j)) := by
  obtain ⟨g, cap', cur, e, _, _, h1, _⟩ := h.cells1 hj
  cases e
  rw [h1, intsF_get D hj]
theorem row_lt {w : World} {T : TypeId} {sz db n cap : Nat} {xs : List Value} (h : Row w T sz (.slice (some ⟨db, 0, none⟩) n cap) n xs) : db < w.heap.size ∧ ∀ o, w.frozen? ⟨db, o, none⟩ = false := by
  obtain ⟨cur, hc⟩ := row_mem h (show (Value.slice (some ⟨db, 0, none⟩) n cap).ownBlock = some db from rfl)
  exact ⟨lt_of_block hc, free_of hc⟩
/-- What settling leaves behind. -/
structure Settled (db dcap n : Nat) (D0 : Nat → Int) (g : List Int) (w w' : World) (r : Value) (D : Nat → Int) (ps : List Py) : Prop where
  row : Row w' 3 1 (.slice (some ⟨db, 0, none⟩) n dcap) n (intsF n D)
  ok : SetOk n g D0 D ps
  pays : Row w' 74 3 r ps.length (pysF ps)
  own : ∀ q, r.ownBlock = some q → w.heap.size ≤ q
set_option maxRecDepth 100000 in
set_option maxHeartbeats 16000000 in
theorem settle_any (db dcap n : Nat) (D0 : Nat → Int) (gv : Value) (g : List Int) (n0 w : World) (hx : Ext n0 w) (hdb : n0.heap.size ≤ db) (hn : n ≤ 10) (hd : Row w 3 1 (.slice (some ⟨db, 0, none⟩) n dcap) n (intsF n D0)) (hg : GAt db w gv g) (hnd : g.Nodup) (hr : ∀ x ∈ g, 0 ≤ x ∧ x < (n : Int)) (hs : sumG D0 g = 0) (hb : ∀ i, -1000000 ≤ D0 i ∧ D0 i ≤ 1000000) (hgl : g.length ≤ 10) :
    Cal 89 #[.slice (some ⟨db, 0, none⟩) n dcap, gv] w fun e w' => ∃ (r : Value) (D : Nat → Int) (ps : List Py), e = .returned r ∧ Ext n0 w' ∧ KM db w w' ∧ Hid (Settled db dcap n D0 g w w' r D ps ∧ (∀ x ∈ g, D x.toNat = 0) ∧ (0 < cntG D0 g → ps.length + 1 ≤ cntG D0 g)) := by
  have HD0 := hid hd
  have HG := hid hg
  have HND := hid hnd
  have HR := hid hr
  have HX0 := hid hx
  have HDB := hid hdb
  have HDL : Hid (db < w.heap.size) := hid (by obtain ⟨cur, hc⟩ := row_mem hd (show (.slice (some ⟨db, 0, none⟩) n dcap : Value).ownBlock = some db from rfl); exact lt_of_block hc)
  have HJ0 := hid (SetOk.start (n := n) hs hb)
  have HC0 : Hid (cntG D0 g ≤ 10) := hid (by unfold cntG; exact Nat.le_trans List.countP_le_length hgl)
  clear hd hg hnd hr hs hb hx hdb hgl
  gi_enter Tryz.func89, Tryz.ntmps89
  gi_wp2_with fail
  have HJ : Hid (∃ (D : Nat → Int) (ps : List Py), Ext n0 w ∧ KM db w w ∧ Settled db dcap n D0 g w w (.slice none 0 0) D ps) := hid ⟨D0, [], HX0.out, KM.refl _ _, HD0.out, HJ0.out, Row.nil _ _ _, fun q h => by simp [Value.ownBlock] at h⟩
  gi_loopw [5, 6, 7, 8] (fun r u6 u7 u8 wr => Hid (∃ (D : Nat → Int) (ps : List Py), Ext n0 wr ∧ KM db w wr ∧ Settled db dcap n D0 g w wr r D ps)) (fun r _ _ _ _ => cntG D0 g - lenOf r)
  case atStart => exact HJ
  case round =>
    have HI := hrel
    clear HJ hrel
    obtain ⟨D, ps, hxr, hkm, hst⟩ := HI.out
    have HXR := hid hxr
    have HKM := hid hkm
    have HST := hid hst
    obtain ⟨na, nc, rfl⟩ := hst.pays.isSliceN
    have hid0 := hst.row.dl hn
    have hgr := HG.out.km hkm
    have HII := hid (And.intro hid0 hgr)
    have hrd : ∀ x ∈ g, 0 ≤ x ∧ x < ((dl n D).length : Int) := fun x hx => by rw [dl_len]; exact HR.out x hx
    have HRD := hid hrd
    by_cases hneg : ∃ x ∈ g, D x.toNat < 0
    · obtain ⟨k1, hk1, hi1, hp1⟩ := idxF_some (p := payP (dl n D)) (g := g) (by obtain ⟨x, hx, hlt⟩ := hneg; exact ⟨x, hx, by rw [payP_dl D (HR.out x hx)]; simpa using hlt⟩)
      have hm1 : g[k1] ∈ g := List.getElem_mem hk1
      rw [payP_dl D (HR.out _ hm1)] at hp1
      have hf1 : D (g[k1]).toNat < 0 := by simpa using hp1
      obtain ⟨k2, hk2, hi2, hp2⟩ := idxF_some (p := getP (dl n D)) (g := g) (by obtain ⟨x, hx, hlt⟩ := hst.ok.more hm1 hf1; exact ⟨x, hx, by rw [getP_dl D (HR.out x hx)]; simpa using hlt⟩)
      have hm2 : g[k2] ∈ g := List.getElem_mem hk2
      rw [getP_dl D (HR.out _ hm2)] at hp2
      have hf2 : 0 < D (g[k2]).toNat := by simpa using hp2
      have HSTEP := hid (hst.ok.step HND.out HR.out hm1 hm2 hf1 hf2)
      have HCON : Hid (Cal 104 #[gv, .func (.func 105) #[.slice (some ⟨db, 0, none⟩) n dcap] #[]] wr fun e w' => e = .returned (.bool true) ∧ wr = w') := hid (by have := contains_any (.slice (some ⟨db, 0, none⟩) n dcap) (dl n D) gv g wr hid0 hgr.ints hrd; rw [hi1] at this; simpa using this)
      have HP1 : Hid (∀ e : Later wr, Cal 106 #[gv, .func (.func 105) #[.slice (some ⟨db, 0, none⟩) n dcap] #[]] e.1 fun x w' => x = .returned (.int .i64 k1) ∧ e.1 = w') := hid fun e => by have := indexP_any (.slice (some ⟨db, 0, none⟩) n dcap) (dl n D) gv g e.1 (HII.out.1.mono e.grown) ((HII.out.2.ints).mono e.grown) HRD.out; rw [hi1] at this; exact this
      have HP2 : Hid (∀ e : Later wr, Cal 106 #[gv, .func (.func 107) #[.slice (some ⟨db, 0, none⟩) n dcap] #[]] e.1 fun x w' => x = .returned (.int .i64 k2) ∧ e.1 = w') := hid fun e => by have := indexG_any (.slice (some ⟨db, 0, none⟩) n dcap) (dl n D) gv g e.1 (HII.out.1.mono e.grown) ((HII.out.2.ints).mono e.grown) HRD.out; rw [hi2] at this; exact this
      obtain ⟨ga, gc, rfl, ⟨hgc, hgl⟩, hgi⟩ := hgr
      obtain ⟨gb, go, rfl, hb1, hb2, hc1⟩ := hgi k1 hk1
      obtain ⟨gb', go', e9, _, _, hc2⟩ := hgi k2 hk2
      cases e9
      have e1 := HR.out _ hm1
      have e2 := HR.out _ hm2
      have q1 : (k1 : Int) < (g.length : Int) := by omega
      have q2 : (k2 : Int) < (g.length : Int) := by omega
      generalize g[k1] = f at *
      generalize g[k2] = t at *
      obtain ⟨fn, rfl⟩ : ∃ fn : Nat, f = fn := ⟨f.toNat, by omega⟩
      obtain ⟨tn, rfl⟩ : ∃ tn : Nat, t = tn := ⟨t.toNat, by omega⟩
      have qf : (fn : Int) < (n : Int) := e1.2
      have qt : (tn : Int) < (n : Int) := e2.2
      have hfn : fn < n := by omega
      have htn : tn < n := by omega
      have hcc1 : ∀ e : Later wr, e.1.cell? ⟨gb, go + k1, none⟩ = some (.int .i64 fn) := fun e => by have hq : Ext wr e.1 := e.grown; rw [hq.cell (p := ⟨gb, go + k1, none⟩) hb1]; exact hc1
      have hcc2 : ∀ e : Later wr, e.1.cell? ⟨gb, go + k2, none⟩ = some (.int .i64 tn) := fun e => by have hq : Ext wr e.1 := e.grown; rw [hq.cell (p := ⟨gb, go + k2, none⟩) hb1]; exact hc2
      have HCC := hid (And.intro hcc1 hcc2)
      have HF := hid (And.intro hfn htn)
      simp only [Int.toNat_natCast] at HSTEP hf1 hf2
      obtain ⟨x, hxd⟩ : ∃ x, D fn = x := ⟨_, rfl⟩
      obtain ⟨y, hyd⟩ : ∃ y, D tn = y := ⟨_, rfl⟩
      rw [hxd] at hf1 HSTEP
      rw [hyd] at hf2 HSTEP
      have hbx := hst.ok.bnd fn
      have hby := hst.ok.bnd tn
      rw [hxd] at hbx
      rw [hyd] at hby
      obtain ⟨s, hsd⟩ : ∃ s, minI (-x) y = s := ⟨_, rfl⟩
      have hsb : 0 < s ∧ s ≤ 1000000 := by rw [← hsd]; unfold minI; split <;> omega
      rw [hsd] at HSTEP
      have HS := hid hsd
      have HNF : Hid (fn ≠ tn) := hid fun e => by subst e; rw [hxd] at hyd; omega
      have HXD := hid (And.intro hxd hyd)
      have HB := hid (And.intro (And.intro hbx hby) hsb)
      have HNG := hid (And.intro hf1 hf2)
      clear HI hxr hkm hst hid0 hrd hneg hp1 hp2 hf1 hf2 hgi hc1 hc2 hcc1 hcc2 hxd hyd hbx hby hsd hsb hi1 hi2 hm1 hm2 e1 e2 hfn htn hk1 hk2 hb1 hb2
      gi_upto_region 3 with (gi_at_call 104; ((with_reducible refine (HCON.out).mono ?_); rintro e w1 ⟨rfl, rfl⟩))
      clear HCON
      obtain ⟨hcc1, hcc2⟩ := HCC.out
      refine quiet_wide 16 (by kernel_rfl) (by kernel_rfl) ?_
      simp only [List.take_succ_cons, List.take_zero, List.drop_succ_cons, List.drop_zero]
      repeat (any_goals (first | go_big_quiet_step ((first | (go_at_call 106; with_reducible exact Cal.quiet_same (HP1.out _)) | (go_at_call 106; with_reducible exact Cal.quiet_same (HP2.out _)))) | quiet_step ((first | (go_at_call 106; with_reducible exact Cal.quiet_same (HP1.out _)) | (go_at_call 106; with_reducible exact Cal.quiet_same (HP2.out _))))))
      refine wpQuiet_nil ?_
      rintro w5 ⟨⟨w5q, hx5⟩, hew5⟩
      obtain rfl : w5 = w5q := hew5
      have hx5 : Ext wr w5 := hx5
      clear hcc1 hcc2 HCC HP1 HP2
      have HX5 := hid (HXR.out.trans hx5)
      have HK5 := hid (HKM.out.trans (KM.of_ext (bm := db) hx5))
      have HRO5 := hid (HST.out.row.mono hx5)
      have HPY5 := hid (HST.out.pays.mono hx5)
      clear hx5 HII
      gi_upto_region 4 with fail
      have hneg : IntKind.i64.wrap (-x) = -x := by have := HB.out.1.1; rw [IntKind.wrap_i64]; first | omega | (unfold wrap64; omega)
      refine lex_wide 11 [(9, pOne y)] (by kernel_rfl) (by kernel_rfl) (nStab_cons (pOne_s _) nStab_nil) ?_
      simp only [List.take_succ_cons, List.take_zero, List.drop_succ_cons, List.drop_zero]
      apply lex_fun (rfl : psAt _ _ = none)
      · intro x u hR hf
        clear hR hf
        go_simp
        exact ⟨rfl, Ext.refl _⟩
      simp only [Act.put, List.setIfInBounds_toArray, List.set_cons_succ, List.set_cons_zero]
      apply lex_fun (rfl : psAt _ _ = none)
      · intro x u hR hf
        clear hR hf
        go_simp
        exact ⟨rfl, Ext.refl _⟩
      simp only [Act.put, List.setIfInBounds_toArray, List.set_cons_succ, List.set_cons_zero]
      apply lex_fun (rfl : psAt _ _ = none)
      · intro x u hR hf
        clear hR hf
        go_simp
        exact ⟨rfl, Ext.refl _⟩
      simp only [Act.put, List.setIfInBounds_toArray, List.set_cons_succ, List.set_cons_zero]
      apply lex_fun (rfl : psAt _ _ = none)
      · intro x u hR hf
        have c0 := row_cell (HRO5.out.mono hR) HF.out.1
        rw [HXD.out.1] at c0
        clear hR hf
        go_simp
        exact ⟨rfl, Ext.refl _⟩
      simp only [Act.put, List.setIfInBounds_toArray, List.set_cons_succ, List.set_cons_zero]
      refine lex_fun (v := .int .i64 (-x)) (rfl : psAt _ _ = none) ?_ ?_
      · intro z u hR hf
        clear hR hf
        go_simp
        first | exact Ext.refl _ | exact ⟨rfl, Ext.refl _⟩ | exact ⟨hneg, Ext.refl _⟩
      simp only [Act.put, List.setIfInBounds_toArray, List.set_cons_succ, List.set_cons_zero]
      apply lex_fun (rfl : psAt _ _ = none)
      · intro x u hR hf
        clear hR hf
        go_simp
        exact ⟨rfl, Ext.refl _⟩
      simp only [Act.put, List.setIfInBounds_toArray, List.set_cons_succ, List.set_cons_zero]
      apply lex_fun (rfl : psAt _ _ = none)
      · intro x u hR hf
        clear hR hf
        go_simp
        exact ⟨rfl, Ext.refl _⟩
      simp only [Act.put, List.setIfInBounds_toArray, List.set_cons_succ, List.set_cons_zero]
      apply lex_fun (rfl : psAt _ _ = none)
      · intro x u hR hf
        clear hR hf
        go_simp
        exact ⟨rfl, Ext.refl _⟩
      simp only [Act.put, List.setIfInBounds_toArray, List.set_cons_succ, List.set_cons_zero]
      apply lex_fun (rfl : psAt _ _ = none)
      · intro x u hR hf
        have c0 := row_cell (HRO5.out.mono hR) HF.out.2
        rw [HXD.out.2] at c0
        clear hR hf
        go_simp
        exact ⟨rfl, Ext.refl _⟩
      simp only [Act.put, List.setIfInBounds_toArray, List.set_cons_succ, List.set_cons_zero]
      refine lex_pred (p := pOne y) rfl ?_ ?_
      · intro x u hR hf
        clear hR hf
        go_simp
        exact ⟨⟨_, rfl, Ext.new (Ext.refl _)⟩, (Ext.refl _).alloc _⟩
      simp only [Act.put, List.setIfInBounds_toArray, List.set_cons_succ, List.set_cons_zero]
      refine lex_fun (v := .int .i64 s) (rfl : psAt _ _ = none) ?_ ?_
      · intro z u hR hf
        have hcal := hid (least_one (-x) y (z 9) u (hf.2.1 rfl))
        rw [HS.out] at hcal
        clear hR hf
        rw [if_pos (show Region.wanted _ _ = true from rfl)]
        exact gives_call (vs := #[.int .i64 (-x), z 9]) rfl Tryz.func108 (by kernel_rfl) rfl (by simp only [List.map_toArray, List.map_cons, List.map_nil]; rfl) (hcal.out.mono fun e w'' h => ⟨h.1, by rw [← h.2]; exact Ext.refl _⟩)
      simp only [Act.put, List.setIfInBounds_toArray, List.set_cons_succ, List.set_cons_zero]

      refine lex_nil fun z W6 hE hfacts => ?_
      clear hfacts
      generalize z 9 = z9
      clear z hneg
      have HX6 := hid (HX5.out.trans hE)
      have HK6 := hid (HK5.out.trans (KM.of_ext (bm := db) hE))
      have HRO6 := hid (HRO5.out.mono hE)
      have HPY6 := hid (HPY5.out.mono hE)
      clear hE HX5 HK5 HRO5 HPY5
      have c1 := row_cell HRO6.out HF.out.1
      rw [HXD.out.1] at c1
      obtain ⟨l1, f1⟩ := row_lt HRO6.out
      have hw1 : wrap64 (x + s) = x + s := by have := HB.out.1.1; have := HB.out.2; unfold wrap64; omega
      gi_upto_region 6 with fail
      have hr6 := HRO6.out.put1 fn (.int .i64 (x + s))
      rw [intsF_set D (x + s) HF.out.1] at hr6
      have HR7 := hid hr6
      have HX7 := hid (HX6.out.set (HDB.out) fn (.int .i64 (x + s)))
      have HK7 := hid (HK6.out.put_self fn (.int .i64 (x + s)))
      have hpn : ∀ q, (Value.slice na ps.length nc).ownBlock = some q → q ≠ db := fun q hq => by have h1 := HST.out.own q hq; have h2 := HDL.out; omega
      have HPN := hid hpn
      have HP7 := hid (HPY6.out.kept (w' := W6.setCell ⟨db, fn, none⟩ (.int .i64 (x + s))) fun q o hq ho => by rw [set_other (hpn q hq)]; exact ho)
      clear hr6 c1 l1 f1 hw1 hpn HX6 HK6 HRO6 HPY6
      generalize W6.setCell ⟨db, fn, none⟩ (.int .i64 (x + s)) = W7 at *
      have c1 := row_cell HR7.out HF.out.2
      rw [if_neg (Ne.symm HNF.out), HXD.out.2] at c1
      obtain ⟨l1, f1⟩ := row_lt HR7.out
      have hw1 : wrap64 (y - s) = y - s := by have := HB.out.1.2; have := HB.out.2; unfold wrap64; omega
      gi_upto_region 7 with fail
      have hr7 := HR7.out.put1 tn (.int .i64 (y - s))
      rw [intsF_set _ (y - s) HF.out.2] at hr7
      have hpl : intsF n (fun i => if i = tn then y - s else (fun i => if i = fn then x + s else D i) i) = intsF n (payL D ⟨fn, tn, s⟩) := intsF_congr fun i hi => by
        unfold payL
        dsimp only
        by_cases h1 : i = tn
        · rw [if_pos h1, if_pos (by omega), h1, HXD.out.2]
        · by_cases h2 : i = fn
          · rw [if_neg h1, if_pos h2, if_neg (by omega), if_pos (by omega), h2, HXD.out.1]
          · rw [if_neg h1, if_neg h2, if_neg (by omega), if_neg (by omega)]
      have HR8 := hid (hpl ▸ hr7)
      have HX8 := hid (HX7.out.set (HDB.out) tn (.int .i64 (y - s)))
      have HK8 := hid (HK7.out.put_self tn (.int .i64 (y - s)))
      have HP8 := hid (HP7.out.kept (w' := W7.setCell ⟨db, tn, none⟩ (.int .i64 (y - s))) fun q o hq ho => by rw [set_other (HPN.out q hq)]; exact ho)
      clear hr7 hpl c1 l1 f1 hw1 HX7 HK7 HR7 HP7
      generalize W7.setCell ⟨db, tn, none⟩ (.int .i64 (y - s)) = W8 at *
      obtain ⟨i0, hi0, hz0, hz1, hz2⟩ := info_parts info74
      have HZ := hid (And.intro hi0 (And.intro hz0 (And.intro hz1 hz2)))
      have hmax : ps.length + 1 ≤ 1000000000 := by have h1 := HSTEP.out.1.cnt; have := HC0.out; rw [List.length_append] at h1; simp at h1; omega
      clear hi0 hz0 hz1 hz2
      have hx8 : Ext W8 (W8.alloc (.cells #[.int .i64 fn, .int .i64 tn, .int .i64 s] 74)) := (Ext.refl _).alloc _
      have HRW := hid (HP8.out.mono hx8)
      have HR9 := hid (HR8.out.mono hx8)
      have HX9 := hid (HX8.out.trans hx8)
      have HK9 := hid (HK8.out.trans (KM.of_ext (bm := db) hx8))
      have HNW : Hid (∀ j u, ([.int .i64 fn, .int .i64 tn, .int .i64 s] : List Value)[j]? = some u → (W8.alloc (.cells #[.int .i64 fn, .int .i64 tn, .int .i64 s] 74)).cell? ((⟨W8.heap.size, 0, none⟩ : Addr).add j) = some u) := fun j u hj => by rw [Addr.add_mid, Nat.zero_add, new_cell _ _ rfl]; simpa using hj
      clear hx8
      obtain ⟨tl, htl⟩ : ∃ tl, ps.length = tl := ⟨_, rfl⟩
      have HOW := hid HST.out.own
      rw [htl] at HRW hmax HPN HOW ⊢
      have HTL := hid htl
      clear htl
      gi_wp2_with (refine wpIn_append_row (fun _ => trivial) rfl (.tmp 52) (.tmp 57) rfl Tryz.underlying67 HZ.out.1 HZ.out.2.1 HZ.out.2.2.1 HZ.out.2.2.2 (by simp [Value.cells]) (by omega) (v := .slice na tl nc) rfl HRW.out ⟨W8.heap.size, 0, none⟩ 1 rfl [.int .i64 fn, .int .i64 tn, .int .i64 s] rfl HNW.out (fun u hu => by simp at hu; rcases hu with rfl | rfl | rfl <;> rfl) hmax (by omega) ?_; intro v' w' hrow' hgr' how')
      have hbel := ext_grown HX9.out hgr' (fun q hq => by have h1 := HOW.out q hq; have h2 := HX0.out.size; omega)
      have hkk := HK9.out.grown hgr' (fun q hq => HOW.out q hq)
      have hrow := HR9.out.kept (w' := w') (fun q o hq ho => grownBy_block hgr' ho (fun e => HPN.out q e.symm (by simp [Value.ownBlock] at hq; exact hq.symm)))
      have hown' : ∀ q, v'.ownBlock = some q → w.heap.size ≤ q := fun q hq => by
        rcases how' with e | e
        · exact HOW.out q (by rw [← e]; exact hq)
        · rw [hq] at e; cases e; exact HK9.out.1
      obtain ⟨na', nc', rfl⟩ := hrow'.isSliceN
      have h1 := HSTEP.out.1.cnt
      rw [List.length_append, HTL.out] at h1
      have h2 := HTL.out
      refine ⟨hid ⟨payL D ⟨fn, tn, s⟩, ps ++ [⟨fn, tn, s⟩], hbel, hkk, hrow, HSTEP.out.1, by rw [pysF_snoc, List.length_append, HTL.out]; exact hrow', hown'⟩, ?_⟩
      show cntG D0 g - (tl + 1) < cntG D0 g - ps.length
      simp at h1
      omega
    · have hno : ∀ x ∈ g, ¬ D x.toNat < 0 := fun x hx hlt => hneg ⟨x, hx, hlt⟩
      have HEND := hid (hst.ok.ended hno)
      have HCON : Hid (Cal 104 #[gv, .func (.func 105) #[.slice (some ⟨db, 0, none⟩) n dcap] #[]] wr fun e w' => e = .returned (.bool false) ∧ wr = w') := hid (by
        have := contains_any (.slice (some ⟨db, 0, none⟩) n dcap) (dl n D) gv g wr hid0 hgr.ints hrd
        rw [idxF_no (p := payP (dl n D)) (g := g) (fun x hx => by rw [payP_dl D (HR.out x hx)]; simpa using hno x hx)] at this
        simpa using this)
      clear HI hxr hkm hst hid0 hrd hneg hno hgr HII HRD
      gi_wp2_with (gi_at_call 104; ((with_reducible refine (HCON.out).mono ?_); rintro e w1 ⟨rfl, rfl⟩))
      go_ret
      exact ⟨_, D, ps, rfl, HXR.out, HKM.out, hid ⟨HST.out, HEND.out.1, HEND.out.2⟩⟩
end
section
open Go Go.RowKit Go.Shelf

theorem numsTo_mem (s : Nat) : ∀ k (x : Int), x ∈ numsTo s k ↔ ∃ i : Nat, i < k ∧ bitN s i = true ∧ x = i
  | 0, x => by simp [numsTo]
  | k + 1, x => by
    have e : numsTo s (k + 1) = if s.testBit k then numsTo s k ++ [(k : Int)] else numsTo s k := rfl
    have ih := numsTo_mem s k x
    constructor
    · intro h
      rw [e] at h
      by_cases hb : s.testBit k = true
      · rw [if_pos hb, List.mem_append] at h
        rcases h with h | h
        · obtain ⟨i, h1, h2, h3⟩ := ih.1 h
          exact ⟨i, by omega, h2, h3⟩
        · simp at h
          exact ⟨k, by omega, hb, h⟩
      · rw [if_neg hb] at h
        obtain ⟨i, h1, h2, h3⟩ := ih.1 h
        exact ⟨i, by omega, h2, h3⟩
    · rintro ⟨i, h1, h2, h3⟩
      rw [e]
      by_cases hi : i = k
      · subst hi
        rw [if_pos (show s.testBit i = true from h2)]; simp [h3]
      · have := ih.2 ⟨i, by omega, h2, h3⟩
        split
        · exact List.mem_append_left _ this
        · exact this
theorem numsTo_nodup (s : Nat) : ∀ k, (numsTo s k).Nodup
  | 0 => by simp [numsTo]
  | k + 1 => by
    have e : numsTo s (k + 1) = if s.testBit k then numsTo s k ++ [(k : Int)] else numsTo s k := rfl
    rw [e]
    split
    · rw [List.nodup_append]
      refine ⟨numsTo_nodup s k, by simp, fun x hx y hy e => ?_⟩
      obtain ⟨i, h1, _, h3⟩ := (numsTo_mem s k x).1 hx
      simp at hy
      omega
    · exact numsTo_nodup s k
theorem numsTo_count (s : Nat) : ∀ k, (numsTo s k).length = (List.range k).countP (bitN s)
  | 0 => by simp [numsTo]
  | k + 1 => by
    have e : numsTo s (k + 1) = if s.testBit k then numsTo s k ++ [(k : Int)] else numsTo s k := rfl
    rw [e, List.range_succ, List.countP_append, ← numsTo_count s k]
    by_cases hb : s.testBit k = true
    · rw [if_pos hb]; simp [bitN, hb]
    · rw [if_neg hb]; simp [bitN, hb]
theorem numsTo_sum (D : Nat → Int) (s : Nat) : ∀ k, sumG D (numsTo s k) = Sv.tal k D (bitN s)
  | 0 => by simp [numsTo, sumG, Sv.tal]
  | k + 1 => by
    have e : numsTo s (k + 1) = if s.testBit k then numsTo s k ++ [(k : Int)] else numsTo s k := rfl
    rw [e, tal_succ, ← numsTo_sum D s k]
    unfold sumG
    by_cases hb : s.testBit k = true
    · rw [if_pos hb]; simp [bitN, hb]
    · rw [if_neg hb]; simp [bitN, hb]
theorem tal_more (D : Nat → Int) (S : Sv.St) (n : Nat) (hS : ∀ i, n ≤ i → S i = false) : ∀ k, n ≤ k → Sv.tal k D S = Sv.tal n D S
  | k, h => by
    rcases Nat.eq_or_lt_of_le h with h | h
    · rw [h]
    · obtain ⟨m, rfl⟩ : ∃ m, k = m + 1 := ⟨k - 1, by omega⟩
      rw [tal_succ, hS m (by omega), tal_more D S n hS m (by omega)]; simp
theorem countP_disj {α : Type} {p q r : α → Bool} : ∀ l : List α, (∀ x ∈ l, p x = true → r x = true) → (∀ x ∈ l, q x = true → r x = true) → (∀ x ∈ l, p x = true → q x = false) → l.countP p + l.countP q ≤ l.countP r
  | [], _, _, _ => by simp
  | x :: l, h1, h2, h3 => by
    have ih := countP_disj l (fun y hy => h1 y (List.mem_cons_of_mem _ hy)) (fun y hy => h2 y (List.mem_cons_of_mem _ hy)) (fun y hy => h3 y (List.mem_cons_of_mem _ hy))
    rw [List.countP_cons, List.countP_cons, List.countP_cons]
    have a1 := h1 x List.mem_cons_self
    have a2 := h2 x List.mem_cons_self
    have a3 := h3 x List.mem_cons_self
    cases hp : p x <;> cases hq : q x <;> cases hr : r x <;> simp_all <;> omega
theorem payL_off (g : List Int) : ∀ (ps : List Py) (D : Nat → Int), (∀ p ∈ ps, p.a ∈ g ∧ p.z ∈ g) → ∀ i : Nat, (i : Int) ∉ g → ps.foldl payL D i = D i
  | [], D, _, i, _ => rfl
  | p :: ps, D, h, i, hi => by
    rw [List.foldl_cons, payL_off g ps (payL D p) (fun q hq => h q (List.mem_cons_of_mem _ hq)) i hi]
    have h1 := h p List.mem_cons_self
    unfold payL
    rw [if_neg (fun e => hi (by rw [e]; exact h1.2)), if_neg (fun e => hi (by rw [e]; exact h1.1))]
/-- A payment between two of n. -/
def pmOf (p : Py) : Sv.Pm := ⟨p.a.toNat, p.z.toNat, p.s⟩
theorem pyGood_iff {n : Nat} {p : Py} : pyGood n p = true ↔ (0 ≤ p.a ∧ p.a < n) ∧ (0 ≤ p.z ∧ p.z < n) ∧ p.a ≠ p.z ∧ 0 < p.s := by
  simp only [pyGood, inB, Bool.and_eq_true, Bool.not_eq_true', decide_eq_true_eq, beq_eq_false_iff_ne, decide_eq_false_iff_not]
  omega
theorem payL_pay {n : Nat} {p : Py} (h : pyGood n p = true) (D : Nat → Int) : payL D p = Sv.pay D (pmOf p) := by
  obtain ⟨h1, h2, h3, h4⟩ := pyGood_iff.1 h
  funext i
  unfold payL Sv.pay pmOf
  dsimp only
  by_cases e1 : (i : Int) = p.z
  · rw [if_pos e1, if_neg (by omega), if_pos (by omega)]; omega
  · by_cases e2 : (i : Int) = p.a
    · rw [if_neg e1, if_pos e2, if_pos (by omega), if_neg (by omega)]; omega
    · rw [if_neg e1, if_neg e2, if_neg (by omega), if_neg (by omega)]; omega
theorem foldl_pay {n : Nat} : ∀ (ps : List Py) (D : Nat → Int), (∀ p ∈ ps, pyGood n p = true) → ps.foldl payL D = (ps.map pmOf).foldl Sv.pay D
  | [], D, _ => rfl
  | p :: ps, D, h => by
    rw [List.foldl_cons, List.map_cons, List.foldl_cons, payL_pay (h p List.mem_cons_self), foldl_pay ps _ fun q hq => h q (List.mem_cons_of_mem _ hq)]
/-- How many of the balances are not 0. -/
def nzC (xs : List Int) : Nat := (List.range xs.length).countP fun i => decide (balF xs i ≠ 0)
/-- A clearing has at least so many payments. -/
theorem clears_least {xs : List Int} {ps : List Py} {k : Nat} (hg : ∀ p ∈ ps, pyGood xs.length p = true) (hd : ∀ i, i < xs.length → ps.foldl payL (balF xs) i = 0) (hk : Sv.Best xs.length (balF xs) (Sv.nz xs.length (balF xs)) k) : nzC xs ≤ ps.length + k := by
  have := Sv.clear_least (n := xs.length) (b := balF xs) (l := ps.map pmOf) (k := k) (fun p hp => by
    obtain ⟨q, hq, rfl⟩ := List.mem_map.1 hp
    obtain ⟨h1, h2, _⟩ := pyGood_iff.1 (hg q hq)
    unfold pmOf; dsimp only; omega) (fun i hi => by rw [← foldl_pay ps (balF xs) hg]; exact hd i hi) hk
  rw [List.length_map] at this
  exact this
/-- The groups of ts up to the j-th are settled. -/
structure ClOk (xs : List Int) (ts : List Nat) (j : Nat) (D : Nat → Int) (ps : List Py) : Prop where
  good : ∀ p ∈ ps, pyGood xs.length p = true ∧ p.s ≤ 1000000
  fold : D = ps.foldl payL (balF xs)
  done : ∀ i, (∃ t ∈ ts.take j, bitN t i = true) → D i = 0
  left : ∀ i, ¬ (∃ t ∈ ts.take j, bitN t i = true) → D i = balF xs i
  cnt : ps.length + j ≤ (List.range 10).countP fun i => decide (balF xs i ≠ 0) && (D i == 0)
  bnd : ∀ i, -1000000 ≤ D i ∧ D i ≤ 1000000
theorem ClOk.start {xs : List Int} {ts : List Nat} (hx : ∀ x ∈ xs, -1000000 ≤ x ∧ x ≤ 1000000) : ClOk xs ts 0 (balF xs) [] := by
  refine ⟨by simp, rfl, ?_, fun i _ => rfl, by simp, fun i => ?_⟩
  · rintro i ⟨t, ht, _⟩; simp at ht
  · unfold balF
    rcases Nat.lt_or_ge i xs.length with h | h
    · rw [getD_of h]; exact hx _ (List.getElem_mem h)
    · rw [List.getD_eq_getElem?_getD, List.getElem?_eq_none h]; simp
theorem openTo_bal {xs : List Int} {i : Nat} (h : bitN (openTo xs xs.length) i = true) : i < xs.length ∧ balF xs i ≠ 0 := by
  rw [openTo_bit] at h
  simp at h
  exact ⟨h.1, by unfold balF; rw [List.getD_eq_getElem?_getD]; exact h.2⟩
/-- What a group is when its turn comes. -/
theorem ClOk.group {xs : List Int} {ts : List Nat} {j : Nat} {D : Nat → Int} {ps : List Py} (h : ClOk xs ts j D ps) (hn : xs.length ≤ 10) (hg : GroupsOk xs.length (balF xs) (openTo xs xs.length) 0 ts) (hj : j < ts.length) :
    (∀ x ∈ numsTo ts[j] 10, 0 ≤ x ∧ x < (xs.length : Int)) ∧ sumG D (numsTo ts[j] 10) = 0 ∧ (∀ i, bitN ts[j] i = true → D i = balF xs i ∧ balF xs i ≠ 0) ∧ cntG D (numsTo ts[j] 10) = (numsTo ts[j] 10).length ∧ 0 < (numsTo ts[j] 10).length := by
  obtain ⟨h1, h2, ⟨i0, h3, h3'⟩, h4, _⟩ := hg.each _ (List.getElem_mem hj)
  have hD : ∀ i, bitN ts[j] i = true → D i = balF xs i ∧ balF xs i ≠ 0 := fun i hi => by
    refine ⟨h.left i ?_, (openTo_bal (h2 i hi)).2⟩
    rintro ⟨t, ht, hti⟩
    obtain ⟨k, hk, rfl⟩ := List.getElem_of_mem ht
    rw [List.length_take] at hk
    rw [List.getElem_take] at hti
    have := List.pairwise_iff_getElem.1 hg.apart k j (by omega) hj (by omega) i hti
    rw [this] at hi; cases hi
  have hmem : ∀ x ∈ numsTo ts[j] 10, 0 ≤ x ∧ x < (xs.length : Int) := fun x hx => by
    obtain ⟨i, _, hi, rfl⟩ := (numsTo_mem _ _ _).1 hx
    have := (openTo_bal (h2 i hi)).1
    omega
  refine ⟨hmem, ?_, hD, ?_, ?_⟩
  · have e : sumG D (numsTo ts[j] 10) = sumG (balF xs) (numsTo ts[j] 10) := by
      unfold sumG
      congr 1
      apply List.map_congr_left
      intro x hx
      obtain ⟨i, _, hi, rfl⟩ := (numsTo_mem _ _ _).1 hx
      simpa using (hD i hi).1
    rw [e, numsTo_sum, tal_more _ _ xs.length (fun i hi => bitN_high h1 hi) 10 hn, h4]
  · unfold cntG
    rw [List.countP_eq_length]
    intro x hx
    obtain ⟨i, _, hi, rfl⟩ := (numsTo_mem _ _ _).1 hx
    have := hD i hi
    simp only [Int.toNat_natCast, this.1]
    simpa using this.2
  · rw [List.length_pos_iff_exists_mem]
    exact ⟨i0, (numsTo_mem _ _ _).2 ⟨i0, by omega, h3', rfl⟩⟩
theorem ClOk.step {xs : List Int} {ts : List Nat} {j : Nat} {D D' : Nat → Int} {ps qs : List Py} (h : ClOk xs ts j D ps) (hn : xs.length ≤ 10) (hg : GroupsOk xs.length (balF xs) (openTo xs xs.length) 0 ts) (hj : j < ts.length)
    (hs : SetOk xs.length (numsTo ts[j] 10) D D' qs) (hz : ∀ x ∈ numsTo ts[j] 10, D' x.toNat = 0) (hl : 0 < cntG D (numsTo ts[j] 10) → qs.length + 1 ≤ cntG D (numsTo ts[j] 10)) : ClOk xs ts (j + 1) D' (ps ++ qs) := by
  obtain ⟨h1, h2, h3, h4, h5⟩ := h.group hn hg hj
  have hoff : ∀ i : Nat, bitN ts[j] i = false → D' i = D i := fun i hi => by
    rw [hs.fold]
    refine payL_off (numsTo ts[j] 10) qs D (fun p hp => ⟨(hs.good p hp).2.1, (hs.good p hp).2.2.1⟩) i fun hm => ?_
    obtain ⟨k, _, hk, e⟩ := (numsTo_mem _ _ _).1 hm
    have : k = i := by omega
    subst this; rw [hi] at hk; cases hk
  have hon : ∀ i : Nat, bitN ts[j] i = true → D' i = 0 := fun i hi => by
    have hlt : i < xs.length := (openTo_bal ((hg.each _ (List.getElem_mem hj)).2.1 i hi)).1
    have := hz (i : Int) ((numsTo_mem _ _ _).2 ⟨i, by omega, hi, rfl⟩)
    simpa using this
  have htk : ts.take (j + 1) = ts.take j ++ [ts[j]] := List.take_succ_eq_append_getElem hj
  refine ⟨fun p hp => ?_, by rw [List.foldl_append, ← h.fold]; exact hs.fold, ?_, fun i hi => ?_, ?_, hs.bnd⟩
  · rcases List.mem_append.1 hp with hp | hp
    · exact h.good p hp
    · exact ⟨(hs.good p hp).1, (hs.good p hp).2.2.2⟩
  · rintro i ⟨t, ht, hti⟩
    rw [htk] at ht
    cases hb : bitN ts[j] i with
    | true => exact hon i hb
    | false =>
      rw [hoff i hb]
      rcases List.mem_append.1 ht with ht | ht
      · exact h.done i ⟨t, ht, hti⟩
      · rw [List.mem_singleton] at ht; subst ht; rw [hti] at hb; cases hb
  · have hb : bitN ts[j] i = false := by
      cases hb : bitN ts[j] i with
      | false => rfl
      | true => exact absurd ⟨ts[j], by rw [htk]; exact List.mem_append_right _ (List.mem_singleton.2 rfl), hb⟩ hi
    rw [hoff i hb]
    exact h.left i fun ⟨t, ht, hti⟩ => hi ⟨t, by rw [htk]; exact List.mem_append_left _ ht, hti⟩
  · have hc := countP_disj (p := fun i => decide (balF xs i ≠ 0) && (D i == 0)) (q := bitN ts[j]) (r := fun i => decide (balF xs i ≠ 0) && (D' i == 0)) (List.range 10) (fun i _ hp => by
        simp only [Bool.and_eq_true] at hp ⊢
        refine ⟨hp.1, ?_⟩
        cases hb : bitN ts[j] i with
        | true => simp [hon i hb]
        | false => rw [hoff i hb]; exact hp.2) (fun i _ hq => by
        simp only [Bool.and_eq_true]
        exact ⟨by simpa using (h3 i hq).2, by simp [hon i hq]⟩) (fun i _ hp => by
        cases hb : bitN ts[j] i with
        | false => rfl
        | true =>
          have h7 := h3 i hb
          simp only [Bool.and_eq_true] at hp
          have h8 : D i = 0 := by simpa using hp.2
          exact absurd (by rw [← h7.1]; exact h8) h7.2)
    rw [← numsTo_count] at hc
    have h6 := hl (by omega)
    have h7 := h.cnt
    rw [List.length_append]
    omega
theorem ClOk.ended {xs : List Int} {ts : List Nat} {D : Nat → Int} {ps : List Py} (h : ClOk xs ts ts.length D ps) (hn : xs.length ≤ 10) (hg : GroupsOk xs.length (balF xs) (openTo xs xs.length) 0 ts) (hb : Sv.Best xs.length (balF xs) (Sv.nz xs.length (balF xs)) ts.length) :
    (∀ i, D i = 0) ∧ ps.length + ts.length = nzC xs := by
  have hz : ∀ i, D i = 0 := fun i => by
    by_cases hi : ∃ t ∈ ts.take ts.length, bitN t i = true
    · exact h.done i hi
    · rw [h.left i hi]
      refine Classical.byContradiction fun h0 => ?_
      have hlt : i < xs.length := by
        rcases Nat.lt_or_ge i xs.length with hl | hl
        · exact hl
        · exfalso; apply h0; unfold balF; rw [List.getD_eq_getElem?_getD, List.getElem?_eq_none hl]; rfl
      have hop : bitN (openTo xs xs.length) i = true := by
        rw [openTo_nz]; simp [Sv.nz, hlt]; exact h0
      rcases hg.all i hop with h1 | h1
      · simp [bitN] at h1
      · rw [List.take_length] at hi; exact hi h1
  refine ⟨hz, Nat.le_antisymm ?_ ?_⟩
  · refine Nat.le_trans h.cnt ?_
    have e : ∀ i, (decide (balF xs i ≠ 0) && (D i == 0)) = decide (balF xs i ≠ 0) := fun i => by rw [hz i]; simp
    have e2 : ∀ k, xs.length ≤ k → (List.range k).countP (fun i => decide (balF xs i ≠ 0)) = nzC xs := by
      intro k
      induction k with
      | zero => intro hk; have h0 : xs.length = 0 := by omega
                unfold nzC; rw [h0]
      | succ k ih =>
        intro hk
        rcases Nat.eq_or_lt_of_le hk with hk | hk
        · unfold nzC; rw [hk]
        · rw [List.range_succ, List.countP_append, ih (by omega)]
          have : balF xs k = 0 := by unfold balF; rw [List.getD_eq_getElem?_getD, List.getElem?_eq_none (by omega)]; rfl
          simp [this]
    rw [← e2 10 hn]
    exact List.countP_mono_left fun i _ hi => by rw [e] at hi; exact hi
  · exact clears_least (fun p hp => (h.good p hp).1) (fun i _ => by rw [← h.fold]; exact hz i) hb
end
end Go.Proofs.YtjocoadhalimjaaGreat
