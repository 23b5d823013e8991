/- Sums in two words. -/
import Derived.Test.YtjocoadhalimjaaGreatRAJ
import Derived.Laws.Externs
import Derived.ChangeKeysEq
set_option linter.unusedSimpArgs false
set_option linter.unusedVariables false
namespace Go.Proofs.YtjocoadhalimjaaGreat
section
open Go Go.RowKit Go.Shelf

theorem add64_run (x y : Int) (hx : 0 ≤ x) (hy : 0 ≤ y) (w : World) : (callFunc 109 #[.int .u64 x, .int .u64 y, .int .u64 0]).run Tryz.prog w = .ok (.value (.tuple #[.int .u64 ((x + y) % 18446744073709551616), .int .u64 ((x + y) / 18446744073709551616)])) w := by
  rw [run_callFunc_extern Tryz.func109 (by kernel_rfl) (by kernel_rfl) (by kernel_rfl) (e := add64Entry) (by kernel_rfl), run_add64 x y 0 hx hy (by omega) (by omega)]
  simp only [Result.andThen, Int.add_zero]
/-- A number in two words. -/
def wideC (x : Int) : Array Value := #[.int .i64 (x / 18446744073709551616), .int .u64 (x % 18446744073709551616)]
set_option maxRecDepth 100000 in
set_option maxHeartbeats 1000000 in
theorem plus_any (x n : Int) (w : World) (hx : -1000000000000000000000000000000000000 ≤ x ∧ x ≤ 1000000000000000000000000000000000000) (hn : -9223372036854775808 ≤ n ∧ n ≤ 9223372036854775807) :
    Cal 90 #[.agg (wideC x), .int .i64 n] w fun e w' => e = .returned (.agg (wideC (x + n))) ∧ Ext w w' := by
  unfold wideC
  have hA := fun (u : World) => add64_run (x % 18446744073709551616) (n % 18446744073709551616) (by omega) (by omega) u
  have e1 : (x % 18446744073709551616 + n % 18446744073709551616) % 18446744073709551616 = (x + n) % 18446744073709551616 := by omega
  rw [e1] at hA
  have HS : Hid (∀ c, c = (x % 18446744073709551616 + n % 18446744073709551616) / 18446744073709551616 → IntKind.i64.wrap (IntKind.i64.wrap (x / 18446744073709551616 + n / 9223372036854775808) + IntKind.i64.wrap c) = (x + n) / 18446744073709551616) := hid fun c hc => by
    subst hc
    rw [IntKind.wrap_i64, IntKind.wrap_i64, IntKind.wrap_i64]
    omega
  have hwu : IntKind.u64.wrap n = n % 18446744073709551616 := by simp [IntKind.wrap, IntKind.signed, IntKind.bits]
  clear e1
  gi_enter Tryz.func90, Tryz.ntmps90
  gi_wp2_with fail
  have hs : x / 18446744073709551616 + n / 9223372036854775808 + (x % 18446744073709551616 + n % 18446744073709551616) / 18446744073709551616 = (x + n) / 18446744073709551616 := by omega
  rw [hs]
  clear hA HS hwu hs
  generalize (x + n) / 18446744073709551616 = a at *
  generalize (x + n) % 18446744073709551616 = b at *
  generalize x / 18446744073709551616 = c at *
  generalize x % 18446744073709551616 = d at *
  have HX : Ext w ((w.alloc (.cells #[.int .i64 c, .int .u64 d] 141)).alloc (.cells #[.int .i64 a, .int .u64 b] 141)) := ((Ext.refl _).alloc _).alloc _
  have hb : ((w.alloc (.cells #[.int .i64 c, .int .u64 d] 141)).alloc (.cells #[.int .i64 a, .int .u64 b] 141)).heap[w.heap.size + 1]? = some (.cells #[.int .i64 a, .int .u64 b] 141 (0, 0)) := by
    have := Ext.new (w := w.alloc (.cells #[.int .i64 c, .int .u64 d] 141)) (o := .cells #[.int .i64 a, .int .u64 b] 141) (Ext.refl _); rwa [World.size_alloc] at this
  generalize (w.alloc (.cells #[.int .i64 c, .int .u64 d] 141)).alloc (.cells #[.int .i64 a, .int .u64 b] 141) = W at *
  have hc := cell_of hb
  exact bodyPost_ret (v := .agg #[.int .i64 a, .int .u64 b]) (by simp [results, Tryz.results90, go_sem, hc]) rfl ⟨rfl, HX⟩
end
section
open Go Go.RowKit Go.Shelf

/-- A payment. -/
structure Py where
  a : Int
  z : Int
  s : Int
  deriving Inhabited
def noPy : Py := ⟨0, 0, 0⟩
def PaysAt (w : World) (v : Value) (l : List Py) : Prop :=
  ∃ a cap, v = .slice a l.length cap ∧ (l.length ≤ cap ∧ l.length ≤ 1000000000000000) ∧ ∀ i (h : i < l.length), ∃ b off, a = some ⟨b, off, none⟩ ∧ b < w.heap.size ∧
    w.cell? ⟨b, off + i * 3, none⟩ = some (.int .i64 l[i].a) ∧ w.cell? ⟨b, off + i * 3 + 1, none⟩ = some (.int .i64 l[i].z) ∧ w.cell? ⟨b, off + i * 3 + 2, none⟩ = some (.int .i64 l[i].s)
theorem PaysAt.mono {w w' : World} {v : Value} {l : List Py} (h : PaysAt w v l) (hx : Ext w w') : PaysAt w' v l := by
  obtain ⟨a, cap, hv, hl, hc⟩ := h
  refine ⟨a, cap, hv, hl, fun i hi => ?_⟩
  obtain ⟨b, off, ha, hb, h0, h1, h2⟩ := hc i hi
  exact ⟨b, off, ha, Nat.lt_of_lt_of_le hb hx.size, by rw [hx.cell (p := ⟨b, _, none⟩) hb]; exact h0, by rw [hx.cell (p := ⟨b, _, none⟩) hb]; exact h1, by rw [hx.cell (p := ⟨b, _, none⟩) hb]; exact h2⟩
def pyGood (n : Nat) (p : Py) : Bool := inB p.a 0 ((n : Int) - 1) && (inB p.z 0 ((n : Int) - 1) && (!(p.a == p.z) && !decide (p.s ≤ 0)))
/-- A payment more. -/
def payL (L : Nat → Int) (p : Py) : Nat → Int := fun i => if (i : Int) = p.z then L i - p.s else if (i : Int) = p.a then L i + p.s else L i
def leftFrom (xs : List Int) (k : Nat) : Nat → Int := fun i => if i < k then xs.getD i 0 else 0
def leftPay (xs : List Int) (l : List Py) (k : Nat) : Nat → Int := (l.take k).foldl payL (leftFrom xs xs.length)
theorem leftPay_succ (xs : List Int) {l : List Py} {k : Nat} (h : k < l.length) : leftPay xs l (k + 1) = payL (leftPay xs l k) l[k] := by
  unfold leftPay
  rw [List.take_succ_eq_append_getElem h, List.foldl_append]; rfl
/-- A clearing. -/
def clearB (xs : List Int) (l : List Py) : Bool := allTo (fun j => pyGood xs.length (l.getD j noPy)) l.length && allTo (fun i => leftPay xs l l.length i == 0) 10
def sm (p : Py) : Prop := -9223372036854775808 ≤ p.s ∧ p.s ≤ 9223372036854775807
theorem leftPay_bound {xs : List Int} {l : List Py} (hx : ∀ x ∈ xs, -1000000000 ≤ x ∧ x ≤ 1000000000) (hl : ∀ p ∈ l, sm p) : ∀ k, k ≤ l.length → ∀ i, -1000000000 - 9223372036854775808 * (k : Int) ≤ leftPay xs l k i ∧ leftPay xs l k i ≤ 1000000000 + 9223372036854775808 * (k : Int)
  | 0, _, i => by
    unfold leftPay leftFrom
    rw [List.take_zero, List.foldl_nil]
    split
    · rename_i h
      rw [getD_of h]
      have := hx _ (List.getElem_mem h)
      omega
    · omega
  | k + 1, h, i => by
    have ih := leftPay_bound hx hl k (by omega) i
    rw [leftPay_succ xs (by omega)]
    have hs := hl l[k] (List.getElem_mem _)
    unfold sm at hs
    unfold payL
    push_cast
    split
    · omega
    · split
      · omega
      · omega
theorem leftFrom_bound {xs : List Int} (hx : ∀ x ∈ xs, -1000000000 ≤ x ∧ x ≤ 1000000000) (k i : Nat) : -1000000000 ≤ leftFrom xs k i ∧ leftFrom xs k i ≤ 1000000000 := by
  unfold leftFrom
  split
  · rcases Nat.lt_or_ge i xs.length with h | h
    · rw [getD_of h]; exact hx _ (List.getElem_mem h)
    · rw [List.getD_eq_getElem?_getD, List.getElem?_eq_none h]; simp
  · omega
/-- What is left, in memory. -/
def wideL (x : Int) : List Value := [.int .i64 (x / 18446744073709551616), .int .u64 (x % 18446744073709551616)]
def leftC (L : Nat → Int) : Array Value := ((List.range 10).flatMap fun i => wideL (L i)).toArray
theorem leftC_size (L : Nat → Int) : (leftC L).size = 20 := by unfold leftC; simpa using (flat_get (sz := 2) (fun i => wideL (L i)) (fun _ => rfl) 10).1
theorem leftC_get (L : Nat → Int) {i : Nat} (h : i < 10) : (leftC L)[i * 2]? = some (.int .i64 (L i / 18446744073709551616)) ∧ (leftC L)[i * 2 + 1]? = some (.int .u64 (L i % 18446744073709551616)) := by
  have := (flat_get (sz := 2) (fun i => wideL (L i)) (fun _ => rfl) 10).2 i
  have h0 := this 0 h (by omega)
  have h1 := this 1 h (by omega)
  unfold leftC
  rw [List.getElem?_toArray, List.getElem?_toArray]
  rw [Nat.add_zero] at h0
  exact ⟨h0, h1⟩
theorem leftC_set (L : Nat → Int) {i : Nat} (h : i < 10) (x : Int) : ((leftC L).toList.take (i * 2) ++ (wideC x).toList ++ (leftC L).toList.drop (i * 2 + (wideC x).size)).toArray = leftC (fun j => if j = i then x else L j) := by
  apply Array.ext_getElem?
  intro j
  have hsz : (leftC L).toList.length = 20 := by simpa using leftC_size L
  have h2 : (wideC x).toList.length = 2 := rfl
  have h3 : (wideC x).size = 2 := rfl
  rw [List.getElem?_toArray, h3]
  rcases Nat.lt_or_ge j 20 with hj | hj
  · have hq : j / 2 < 10 := by omega
    have g1 := leftC_get L hq
    have g2 := leftC_get (fun j => if j = i then x else L j) hq
    rcases (by omega : j = j / 2 * 2 ∨ j = j / 2 * 2 + 1) with hr | hr
    · rw [hr]
      generalize j / 2 = q at *
      rw [g2.1]
      by_cases hqi : q = i
      · subst hqi
        rw [List.append_assoc, List.getElem?_append_right (by simp [hsz]; omega)]
        simp [hsz, wideC, show min (q * 2) 20 = q * 2 by omega]
      · simp only [if_neg hqi]
        rw [← g1.1, ← Array.getElem?_toList]
        rcases Nat.lt_or_ge q i with hlt | hge
        · rw [List.append_assoc, List.getElem?_append_left (by simp [hsz]; omega), List.getElem?_take, if_pos (by omega)]
        · rw [List.getElem?_append_right (by simp [hsz, h2]; omega), List.getElem?_drop]
          congr 1
          simp [hsz, h2]; omega
    · rw [hr]
      generalize j / 2 = q at *
      rw [g2.2]
      by_cases hqi : q = i
      · subst hqi
        rw [List.append_assoc, List.getElem?_append_right (by simp [hsz]; omega)]
        simp [hsz, wideC, show min (q * 2) 20 = q * 2 by omega]
      · simp only [if_neg hqi]
        rw [← g1.2, ← Array.getElem?_toList]
        rcases Nat.lt_or_ge q i with hlt | hge
        · rw [List.append_assoc, List.getElem?_append_left (by simp [hsz]; omega), List.getElem?_take, if_pos (by omega)]
        · rw [List.getElem?_append_right (by simp [hsz, h2]; omega), List.getElem?_drop]
          congr 1
          simp [hsz, h2]; omega
  · rw [Array.getElem?_eq_none (by rw [leftC_size]; exact hj), List.getElem?_eq_none]
    simp [hsz, h2]; omega
theorem leftC_one (L : Nat → Int) : (leftC L).all (·.oneCell') = true := by
  rw [Array.all_eq_true_iff_forall_mem]
  intro v hv
  unfold leftC at hv
  simp only [List.mem_toArray, List.mem_flatMap] at hv
  obtain ⟨i, _, hi⟩ := hv
  simp [wideL] at hi
  rcases hi with rfl | rfl <;> rfl
end
section
open Go Go.RowKit Go.Shelf

theorem size141 : (Tryz.prog.info? 141).map (·.size) = some 2 := by kernel_rfl
theorem wideC_one (x : Int) : (wideC x).all (·.oneCell') = true := by simp [wideC, Value.oneCell']
theorem debtsHas_b (a : Option Addr) (n cap : Nat) (i : Int) (hn : n ≤ 1000000) (v : Bool) (w : World) (h : inB i 0 ((n : Int) - 1) = v) : Cal 91 #[.slice a n cap, .int .i64 i] w fun e w' => e = .returned (.bool v) ∧ w = w' := by
  subst h
  have H1 := hid (fun (u : World) => isIn_any i 0 ((n : Int) - 1) u)
  have hw : wrap64 ((n : Int) - 1) = (n : Int) - 1 := by unfold wrap64; omega
  gi_enter Tryz.func91, Tryz.ntmps91
  gi_wp2_with (gi_at_call 46; ((with_reducible refine (H1.out _).mono ?_); rintro e w1 ⟨rfl, rfl⟩))
  go_ret
  exact ⟨rfl, rfl⟩
theorem wpIn_load_left {F : Fence} {n : Nat} {o : Oper} {a : Act} {w : World} {K : Act → World → Prop} {Q : Exit → Act → World → Prop} (x : Operand) (ho : o.op = .load 142 x) (hF : ∀ f, F.fn f) {g : Nat} (hx : a.eval x = .pointer (some ⟨g, 0, none⟩)) {t : TypeId} {L : Nat → Int}
    (hg : w.heap[g]? = some (.cells (leftC L) t (0, 0))) (h : K (a.put o.dst (.agg (leftC L))) w) : o.wpIn F n Tryz.prog a w K Q := by
  have hl : (loadVar 142 ⟨g, 0, none⟩).run Tryz.prog w = .ok (.agg (leftC L)) w := run_loadVar_row w _ t 142 _ _ _ hg Tryz.underlying142 rfl (by rw [leftC_size]; kernel_rfl)
  refine ⟨fun f _ => hF f, ?_⟩
  rw [Oper.semAt_eq _ _ _ (by rw [ho]; intro c h; cases h)]
  unfold execOp
  simp only [ho, hx, Instr.loadAt, Instr.sureAddr, Sem.run_bind, Sem.run_pure, Result.andThen_ok, hl]
  exact h
theorem eqItems_all {d : Nat} {e : TypeId} {c : Nat} {xs ys : Array Value} {w : World} (f : Nat → Bool) : ∀ l : List Nat, (∀ i ∈ l, ∃ a b, (part e xs (i * c)).run Tryz.prog w = .ok a w ∧ (part e ys (i * c)).run Tryz.prog w = .ok b w ∧ (Op.equalIn d e a b).run Tryz.prog w = .ok (f i) w) →
    (Op.eqItems d e c xs ys l).run Tryz.prog w = .ok (l.all f) w
  | [], _ => by simp [Op.eqItems]
  | i :: l, h => by
    obtain ⟨a, b, h1, h2, h3⟩ := h i (by simp)
    have ih := eqItems_all f l fun j hj => h j (by simp [hj])
    simp only [Op.eqItems, Sem.run_bind, h1, h2, h3, Result.andThen_ok, List.all_cons]
    cases f i with
    | false => simp
    | true => simpa using ih
theorem cells141 : Tryz.prog.cellsOf 141 = 2 := by kernel_rfl
theorem info141 : (Tryz.prog.info? 141).map (fun i => (i.zero, i.size, i.bytes)) = some (some (.agg #[.int .i64 0, .int .u64 0]), 2, 16) := by kernel_rfl
theorem part_wide (L : Nat → Int) {i : Nat} (hi : i < 10) (w : World) : (part 141 (leftC L) (i * 2)).run Tryz.prog w = .ok (.agg (wideC (L i))) w := by
  obtain ⟨inf, hinf, hz0, hz1, hz2⟩ := info_parts info141
  have he : (leftC L).extract (i * 2) (i * 2 + 2) = wideC (L i) := by
    apply Array.ext_getElem?
    intro j
    rw [Array.getElem?_extract, leftC_size]
    have h := leftC_get L hi
    match j with
    | 0 => rw [if_pos (by omega), Nat.add_zero, h.1]; rfl
    | 1 => rw [if_pos (by omega), h.2]; rfl
    | j + 2 => rw [if_neg (by omega), Array.getElem?_eq_none (by simp [wideC])]
  simp [part, isAgg, run_underlying Tryz.underlying141, sizeOf, typeInfo, hinf, hz1, he]
theorem eql_wideC (x y : Int) (w : World) : (Op.equalIn 9999 141 (.agg (wideC x)) (.agg (wideC y))).run Tryz.prog w = .ok (x == y) w := by
  unfold wideC
  simp [go_sem]
  by_cases h1 : x / 18446744073709551616 = y / 18446744073709551616 <;> by_cases h2 : x % 18446744073709551616 = y % 18446744073709551616
  · have : x = y := by omega
    simp [h1, h2, this]
  · have : x ≠ y := by rintro rfl; exact h2 rfl
    simp [h1, h2, this]
  · have : x ≠ y := by rintro rfl; exact h1 rfl
    simp [h1, h2, this]
  · have : x ≠ y := by rintro rfl; exact h1 rfl
    simp [h1, h2, this]
theorem eqlWide (L : Nat → Int) (w : World) : (Op.equalIn 10000 142 (.agg (leftC L)) (.agg #[.int .i64 0, .int .u64 0, .int .i64 0, .int .u64 0, .int .i64 0, .int .u64 0, .int .i64 0, .int .u64 0, .int .i64 0, .int .u64 0, .int .i64 0, .int .u64 0, .int .i64 0, .int .u64 0, .int .i64 0, .int .u64 0, .int .i64 0, .int .u64 0, .int .i64 0, .int .u64 0])).run Tryz.prog w = .ok (allTo (fun i => L i == 0) 10) w := by
  have e : (#[.int .i64 0, .int .u64 0, .int .i64 0, .int .u64 0, .int .i64 0, .int .u64 0, .int .i64 0, .int .u64 0, .int .i64 0, .int .u64 0, .int .i64 0, .int .u64 0, .int .i64 0, .int .u64 0, .int .i64 0, .int .u64 0, .int .i64 0, .int .u64 0, .int .i64 0, .int .u64 0] : Array Value) = leftC fun _ => 0 := rfl
  obtain ⟨inf, hinf, hz0, hz1, hz2⟩ := info_parts info141
  rw [e, run_equalIn_array w 9999 _ _ Tryz.underlying142 hinf, cells141]
  exact eqItems_all _ _ fun i hi => ⟨_, _, part_wide L (List.mem_range.1 hi) w, part_wide _ (List.mem_range.1 hi) w, eql_wideC _ _ w⟩
set_option maxRecDepth 100000 in
set_option maxHeartbeats 8000000 in
theorem isCleared_any (dv pv : Value) (xs : List Int) (l : List Py) (w : World) (hd : IntsAt w dv xs) (hp : PaysAt w pv l) (hx : ∀ x ∈ xs, -1000000000 ≤ x ∧ x ≤ 1000000000) (hn : xs.length ≤ 10) (hl : ∀ p ∈ l, sm p) :
    Cal 65 #[dv, pv] w fun e w' => e = .returned (.bool (clearB xs l)) ∧ Ext w w' := by
  have HLB := hid (fun k i => leftFrom_bound hx k i)
  have HPB := hid (fun k hk i => leftPay_bound hx hl k hk i)
  have HSM := hid hl
  obtain ⟨da, dc, rfl, ⟨hdc, hdl⟩, hdi⟩ := hd
  obtain ⟨pa, pc, rfl, ⟨hpc, hpl⟩, hpi⟩ := hp
  have HDI := hid hdi
  have HPI := hid hpi
  have HX := hid hx
  clear hdi hpi hl hx
  have hz : leftC (leftFrom xs 0) = #[.int .i64 0, .int .u64 0, .int .i64 0, .int .u64 0, .int .i64 0, .int .u64 0, .int .i64 0, .int .u64 0, .int .i64 0, .int .u64 0, .int .i64 0, .int .u64 0, .int .i64 0, .int .u64 0, .int .i64 0, .int .u64 0, .int .i64 0, .int .u64 0, .int .i64 0, .int .u64 0] := rfl
  have HJ : Hid (Ext w (w.alloc (.cells (leftC (leftFrom xs 0)) 142)) ∧ (w.alloc (.cells (leftC (leftFrom xs 0)) 142)).heap[w.heap.size]? = some (.cells (leftC (leftFrom xs 0)) 142 (0, 0))) := hid ⟨(Ext.refl _).alloc _, Ext.new (Ext.refl _)⟩
  rw [hz] at HJ
  gi_enter Tryz.func65, Tryz.ntmps65
  gi_wp2_with fail
  gi_loopw [6, 7, 12] (fun u6 u7 i wr => ∃ k : Nat, k ≤ xs.length ∧ i = .int .i64 k ∧ Hid (Ext w wr ∧ wr.heap[w.heap.size]? = some (.cells (leftC (leftFrom xs k)) 142 (0, 0)))) (fun _ _ i _ => xs.length - (intOf i).toNat)
  case atStart => exact ⟨0, Nat.zero_le _, rfl, by rw [hz]; exact HJ⟩
  case round =>
    obtain ⟨k, hk, rfl, HI⟩ := hrel
    clear HJ hz
    by_cases hlt : k < xs.length
    · obtain ⟨b, off, rfl, hbb, hck⟩ := HDI.out k hlt
      rw [← HI.out.1.cell (p := ⟨b, _, none⟩) hbb] at hck
      have hk10 : (k : Int) < 10 := by omega
      have hkn : k < 10 := by omega
      have cc := leftC_get (leftFrom xs k) hkn
      have c0 : wr.cell? ⟨w.heap.size, k * 2, none⟩ = some (.int .i64 (leftFrom xs k k / 18446744073709551616)) := by rw [cell_of HI.out.2]; exact cc.1
      have c1 : wr.cell? ⟨w.heap.size, k * 2 + 1, none⟩ = some (.int .u64 (leftFrom xs k k % 18446744073709551616)) := by rw [cell_of HI.out.2]; exact cc.2
      clear cc
      have hB := HLB.out k k
      have hxk := HX.out xs[k] (List.getElem_mem _)
      have HSU : Hid (leftFrom xs (k + 1) = fun j => if j = k then leftFrom xs k k + xs[k] else leftFrom xs k j) := hid (by
        funext j
        unfold leftFrom
        by_cases hjk : j = k
        · subst hjk; simp [hlt]
        · rw [if_neg hjk]
          rcases Nat.lt_or_ge j k with h | h
          · rw [if_pos (by omega), if_pos h]
          · rw [if_neg (by omega), if_neg (by omega)])
      have HP := hid (fun (u : World) => plus_any (leftFrom xs k k) xs[k] u (by omega) (by omega))
      unfold wideC at HP
      generalize leftFrom xs k k = y at *
      generalize xs[k] = x at *
      have hwc : (#[.int .i64 ((y + x) / 18446744073709551616), .int .u64 ((y + x) % 18446744073709551616)] : Array Value) = wideC (y + x) := rfl
      rw [hwc] at HP
      clear hwc
      have HST := hid (leftC_set (leftFrom xs k) hkn (y + x))
      have hlb := lt_of_block HI.out.2
      gi_wp2_with (first | (gi_at_call 90; ((with_reducible refine (HP.out _).mono ?_); rintro e w1 ⟨rfl, hx1⟩; have hg1 := hx1.block HI.out.2)) | (refine wpIn_store_at 141 (.tmp 23) (.tmp 22) rfl (fun _ => trivial) (g := w.heap.size) (off := k * 2) (by simp [go_sem]) rfl hg1 (by rw [size141]; rfl) (by rw [leftC_size]; show _ + 2 ≤ 20; omega) (wideC_one _) ?_; rw [HST.out]))
      go_roundw
      case rel => exact ⟨k + 1, by omega, by go_num, hid ⟨ext_setRow (HI.out.1.trans hx1) (Nat.le_refl _) _, by rw [setRow_heap _ _ _ _ _ _ hg1, HSU.out]⟩⟩
      case measure => simp [intOf]; omega
    · obtain rfl : k = xs.length := by omega
      have HJ : Hid (Ext w wr ∧ wr.heap[w.heap.size]? = some (.cells (leftC (leftPay xs l 0)) 142 (0, 0))) := HI
      clear HI HLB
      gi_wp2_with fail
      obtain ⟨wo, rfl⟩ : ∃ wo, wo = wr := ⟨wr, rfl⟩
      gi_loopw [9, 27] (fun u9 i wr => ∃ k : Nat, k ≤ l.length ∧ i = .int .i64 k ∧ Hid (∀ j, j < k → pyGood xs.length (l.getD j noPy) = true) ∧ Hid (Ext w wr ∧ wr.heap[w.heap.size]? = some (.cells (leftC (leftPay xs l k)) 142 (0, 0)))) (fun _ i _ => l.length - (intOf i).toNat)
      case atStart => exact ⟨0, Nat.zero_le _, rfl, hid fun j h => absurd h (by omega), HJ⟩
      case round =>
        obtain ⟨k, hk, rfl, HG, HI⟩ := hrel
        clear HJ
        by_cases hlt : k < l.length
        · obtain ⟨b, off, rfl, hbb, ca, cz, cs⟩ := HPI.out k hlt
          rw [← HI.out.1.cell (p := ⟨b, _, none⟩) hbb] at ca cz cs
          have hki : (k : Int) < (l.length : Int) := by omega
          have HQ : Hid (pyGood xs.length (l.getD k noPy) = (inB l[k].a 0 ((xs.length : Int) - 1) && (inB l[k].z 0 ((xs.length : Int) - 1) && (!(l[k].a == l[k].z) && !decide (l[k].s ≤ 0))))) := hid (by rw [getD_of hlt]; rfl)
          have HLS := hid (leftPay_succ xs hlt)
          have HBD := hid (HPB.out k (by omega))
          have HSB := hid (HSM.out l[k] (List.getElem_mem _))
          generalize l[k] = p at *
          obtain ⟨a, z, s⟩ := p
          simp only at ca cz cs HQ
          have HF : Hid (pyGood xs.length (l.getD k noPy) = false → clearB xs l = false) := hid fun h => by unfold clearB; rw [allTo_no hlt h]; rfl
          have HU : Hid (pyGood xs.length (l.getD k noPy) = true → ∀ j, j < k + 1 → pyGood xs.length (l.getD j noPy) = true) := hid fun h => upTo_succ HG.out h
          have HA := hid (fun (v : Bool) (u : World) (h : inB a 0 ((xs.length : Int) - 1) = v) => debtsHas_b da xs.length dc a (by omega) v u h)
          have HZ := hid (fun (v : Bool) (u : World) (h : inB z 0 ((xs.length : Int) - 1) = v) => debtsHas_b da xs.length dc z (by omega) v u h)
          have hx1 : Ext wr (wr.alloc (.cells #[.int .i64 a, .int .i64 z, .int .i64 s] 74)) := (Ext.refl _).alloc _
          have hnb : (wr.alloc (.cells #[.int .i64 a, .int .i64 z, .int .i64 s] 74)).heap[wr.heap.size]? = some (.cells #[.int .i64 a, .int .i64 z, .int .i64 s] 74 (0, 0)) := Ext.new (Ext.refl _)
          gi_upto_region 10 with fail
          clear ca cz cs
          have HX1 := hid (HI.out.1.trans hx1)
          have HGB := hid (hx1.block HI.out.2)
          clear HI HG hx1
          generalize wr.alloc (.cells #[.int .i64 a, .int .i64 z, .int .i64 s] 74) = W at *
          generalize wr.heap.size = nb at *
          have cb := cell_of hnb
          have HBX := hid hnb
          clear hnb
          cases h1 : inB a 0 ((xs.length : Int) - 1) with
          | false =>
            have HR := hid (HF.out (by rw [HQ.out, h1]; rfl))
            have H1 := hid (HA.out _ W h1)
            clear h1 HQ HF HU
            gi_wp2_with (gi_at_call 91; ((with_reducible refine H1.out.mono ?_); rintro e w1 ⟨rfl, rfl⟩))
            go_ret
            exact ⟨by rw [HR.out]; rfl, HX1.out⟩
          | true =>
          cases h2 : inB z 0 ((xs.length : Int) - 1) with
          | false =>
            have HR := hid (HF.out (by rw [HQ.out, h1, h2]; rfl))
            have H1 := hid (HA.out _ W h1)
            have H2 := hid (HZ.out _ W h2)
            clear h1 h2 HQ HF HU
            gi_wp2_with (first | (gi_at_call 91; ((with_reducible refine H1.out.mono ?_); rintro e w1 ⟨rfl, rfl⟩)) | (gi_at_call 91; ((with_reducible refine H2.out.mono ?_); rintro e w1 ⟨rfl, rfl⟩)))
            go_ret
            exact ⟨by rw [HR.out]; rfl, HX1.out⟩
          | true =>
          have H1 := hid (HA.out _ W h1)
          have H2 := hid (HZ.out _ W h2)
          cases h3 : (a == z) with
          | true =>
            have HR := hid (HF.out (by rw [HQ.out, h1, h2, h3]; rfl))
            clear h1 h2 HQ HF HU
            gi_wp2_with (first | (gi_at_call 91; ((with_reducible refine H1.out.mono ?_); rintro e w1 ⟨rfl, rfl⟩)) | (gi_at_call 91; ((with_reducible refine H2.out.mono ?_); rintro e w1 ⟨rfl, rfl⟩)))
            go_ret
            exact ⟨by rw [HR.out]; rfl, HX1.out⟩
          | false =>
          by_cases h4 : s ≤ 0
          · have HR := hid (HF.out (by rw [HQ.out, h1, h2, h3]; simp [h4]))
            clear h1 h2 HQ HF HU
            gi_wp2_with (first | (gi_at_call 91; ((with_reducible refine H1.out.mono ?_); rintro e w1 ⟨rfl, rfl⟩)) | (gi_at_call 91; ((with_reducible refine H2.out.mono ?_); rintro e w1 ⟨rfl, rfl⟩)))
            go_ret
            exact ⟨by rw [HR.out]; rfl, HX1.out⟩
          have HUU := hid (HU.out (by rw [HQ.out, h1, h2, h3]; simp [h4]))
          have g1 := inB_spec h1
          have g2 := inB_spec h2
          have g3 : a ≠ z := by simpa using h3
          have HSR : Hid (1 ≤ s ∧ s ≤ 9223372036854775807) := hid (by have := HSB.out; unfold sm at this; simp only at this; omega)
          clear h1 h2 HQ HF HU HA HZ
          gi_upto_region 12 with (first | (gi_at_call 91; ((with_reducible refine H1.out.mono ?_); rintro e w1 ⟨rfl, rfl⟩)) | (gi_at_call 91; ((with_reducible refine H2.out.mono ?_); rintro e w1 ⟨rfl, rfl⟩)))
          clear cb H1 H2 h4 h3
          obtain ⟨L, hLK⟩ : ∃ L, L = leftPay xs l k := ⟨_, rfl⟩
          rw [← hLK] at HGB HLS
          have HLK := hid hLK
          clear hLK
          obtain ⟨A, rfl⟩ : ∃ A : Nat, a = A := ⟨a.toNat, by omega⟩
          obtain ⟨Z, rfl⟩ : ∃ Z : Nat, z = Z := ⟨z.toNat, by omega⟩
          have hAZ : A ≠ Z := by omega
          have HNE : Hid (nb ≠ w.heap.size) := hid (fun e => by
            have h1 := HBX.out
            rw [e, HGB.out] at h1
            have h2 := congrArg (fun o : Option Obj => match o with | some (.cells c _ _) => c.size | _ => 0) h1
            simp [leftC_size] at h2)
          have HYBa : Hid (∀ i, -10000000000000000000000000000000000 ≤ L i ∧ L i ≤ 10000000000000000000000000000000000) := hid fun i => by rw [HLK.out]; have := HBD.out i; omega
          clear HBD
          obtain ⟨yA, hyA⟩ : ∃ yA, yA = L A := ⟨_, rfl⟩
          have HyA := hid hyA
          clear hyA
          obtain ⟨yZ, hyZ⟩ : ∃ yZ, yZ = L Z := ⟨_, rfl⟩
          have HyZ := hid hyZ
          clear hyZ
          have HBXa := HBX
          have HGBa := HGB
          have hixa : (A : Int) < 10 := by omega
          have hina : A < 10 := by omega
          have HYa := hid (leftC_get (L) hina)
          have HC0a := hid (fun (u : World) (hu : Ext W u) => show u.cell? ⟨w.heap.size, A * 2, none⟩ = some (.int .i64 (L A / 18446744073709551616)) by rw [cell_of (hu.block HGB.out)]; exact HYa.out.1)
          have HC1a := hid (fun (u : World) (hu : Ext W u) => show u.cell? ⟨w.heap.size, A * 2 + 1, none⟩ = some (.int .u64 (L A % 18446744073709551616)) by rw [cell_of (hu.block HGB.out)]; exact HYa.out.2)
          have HPLa := hid (fun (u : World) => plus_any (L A) (s) u (by have := HYBa.out A; omega) (by have := HSR.out; omega))
          have HPLa : Hid (∀ u, Cal 90 #[.agg #[.int .i64 (L A / 18446744073709551616), .int .u64 (L A % 18446744073709551616)], .int .i64 (s)] u fun e w' => e = .returned (.agg (wideC (L A + s))) ∧ Ext u w') := HPLa
          have HSTa := hid (leftC_set (L) hina (L A + s))
          have HYva := hid (HYBa.out A)
          clear HYa
          obtain ⟨ya, hya⟩ : ∃ y, y = L A := ⟨_, rfl⟩
          rw [← hya] at HC0a HC1a HPLa HSTa HYva
          have HYa := hid hya
          clear hya
          refine lex_wide 10 [] (by kernel_rfl) (by kernel_rfl) (nStab_nil) ?_
          simp only [List.take_succ_cons, List.take_zero, List.drop_succ_cons, List.drop_zero]
          apply lex_fun (rfl : psAt _ _ = none)
          · intro x u hR hf
            clear hR hf
            go_simp
            exact ⟨rfl, Ext.refl _⟩
          simp only [Act.put, List.setIfInBounds_toArray, List.set_cons_succ, List.set_cons_zero]
          apply lex_fun (rfl : psAt _ _ = none)
          · intro x u hR hf
            have cb := cell_of (hR.block HBXa.out)
            clear hR hf
            go_simp
            exact ⟨rfl, Ext.refl _⟩
          simp only [Act.put, List.setIfInBounds_toArray, List.set_cons_succ, List.set_cons_zero]
          apply lex_fun (rfl : psAt _ _ = none)
          · intro x u hR hf
            clear hR hf
            go_simp
            exact ⟨rfl, Ext.refl _⟩
          simp only [Act.put, List.setIfInBounds_toArray, List.set_cons_succ, List.set_cons_zero]
          apply lex_fun (rfl : psAt _ _ = none)
          · intro x u hR hf
            have cb := cell_of (hR.block HBXa.out)
            clear hR hf
            go_simp
            exact ⟨rfl, Ext.refl _⟩
          simp only [Act.put, List.setIfInBounds_toArray, List.set_cons_succ, List.set_cons_zero]
          apply lex_fun (rfl : psAt _ _ = none)
          · intro x u hR hf
            clear hR hf
            go_simp
            exact ⟨rfl, Ext.refl _⟩
          simp only [Act.put, List.setIfInBounds_toArray, List.set_cons_succ, List.set_cons_zero]
          apply lex_fun (rfl : psAt _ _ = none)
          · intro x u hR hf
            have c0 := HC0a.out u hR
            have c1 := HC1a.out u hR
            clear hR hf
            go_simp
            exact ⟨rfl, Ext.refl _⟩
          simp only [Act.put, List.setIfInBounds_toArray, List.set_cons_succ, List.set_cons_zero]
          apply lex_fun (rfl : psAt _ _ = none)
          · intro x u hR hf
            clear hR hf
            go_simp
            exact ⟨rfl, Ext.refl _⟩
          simp only [Act.put, List.setIfInBounds_toArray, List.set_cons_succ, List.set_cons_zero]
          apply lex_fun (rfl : psAt _ _ = none)
          · intro x u hR hf
            have cb := cell_of (hR.block HBXa.out)
            clear hR hf
            go_simp
            exact ⟨rfl, Ext.refl _⟩
          simp only [Act.put, List.setIfInBounds_toArray, List.set_cons_succ, List.set_cons_zero]
          refine lex_fun (v := .agg (wideC (ya + s))) (rfl : psAt _ _ = none) ?_ ?_
          · intro x u hR hf
            have hcal := hid (HPLa.out u)
            clear hR hf
            go_simp
            exact hcal.out.mono fun e w'' ⟨he, hx'⟩ => ⟨_, he, rfl, hx'⟩
          simp only [Act.put, List.setIfInBounds_toArray, List.set_cons_succ, List.set_cons_zero]
          apply lex_fun (rfl : psAt _ _ = none)
          · intro x u hR hf
            clear hR hf
            go_simp
            exact ⟨rfl, Ext.refl _⟩
          simp only [Act.put, List.setIfInBounds_toArray, List.set_cons_succ, List.set_cons_zero]
          refine lex_nil fun x w6 hE hfacts => ?_
          clear hfacts x
          have hga := hE.block HGBa.out
          gi_wp2_with (refine wpIn_store_at 141 (.tmp 64) (.tmp 63) rfl (fun _ => trivial) (g := w.heap.size) (off := A * 2) (by simp [go_sem]) rfl hga (by rw [size141]; rfl) (by rw [leftC_size]; show _ + 2 ≤ 20; omega) (wideC_one _) ?_; rw [HSTa.out]; refine Hid.out ?_)
          refine hid ?_
          have HXn := hid (ext_setRow (HX1.out.trans hE) (Nat.le_refl w.heap.size) (leftC fun j => if j = A then ya + s else L j))
          have HGn : Hid ((w6.setRow w.heap.size (leftC fun j => if j = A then ya + s else L j)).heap[w.heap.size]? = some (.cells (leftC fun j => if j = A then ya + s else L j) 142 (0, 0))) := hid (setRow_heap _ _ _ _ _ _ hga)
          have HBn : Hid ((w6.setRow w.heap.size (leftC fun j => if j = A then ya + s else L j)).heap[nb]? = _) := hid ((setRow_other w6 w.heap.size nb _ HNE.out).trans (hE.block HBXa.out))
          clear HX1 HGB HBX HC0a HC1a hga hE HPLa HGBa HBXa
          have HX1 := HXn
          have HGB := HGn
          have HBX := HBn
          clear HXn HGn HBn
          generalize w6.setRow w.heap.size (leftC fun j => if j = A then ya + s else L j) = W at *
          clear w6
          gi_upto_region 13 with fail
          obtain ⟨L1, hL1⟩ : ∃ L1, L1 = fun j => if j = A then ya + s else L j := ⟨_, rfl⟩
          rw [← hL1] at HGB
          have HL1 := hid hL1
          clear hL1
          have HYBz : Hid (∀ i, -20000000000000000000000000000000000 ≤ L1 i ∧ L1 i ≤ 20000000000000000000000000000000000) := hid fun i => by
            rw [HL1.out]
            have h1 := HYBa.out i
            have h2 := HYBa.out A
            have h3 := HSR.out
            simp only
            split
            · have h4 := HYva.out; omega
            · omega
          have HWN : Hid (IntKind.i64.wrap (-s) = -s) := hid (by have := HSR.out; rw [IntKind.wrap_i64]; omega)
          have HBXz := HBX
          have HGBz := HGB
          have hixz : (Z : Int) < 10 := by omega
          have hinz : Z < 10 := by omega
          have HYz := hid (leftC_get (L1) hinz)
          have HC0z := hid (fun (u : World) (hu : Ext W u) => show u.cell? ⟨w.heap.size, Z * 2, none⟩ = some (.int .i64 (L1 Z / 18446744073709551616)) by rw [cell_of (hu.block HGB.out)]; exact HYz.out.1)
          have HC1z := hid (fun (u : World) (hu : Ext W u) => show u.cell? ⟨w.heap.size, Z * 2 + 1, none⟩ = some (.int .u64 (L1 Z % 18446744073709551616)) by rw [cell_of (hu.block HGB.out)]; exact HYz.out.2)
          have HPLz := hid (fun (u : World) => plus_any (L1 Z) ((-s)) u (by have := HYBz.out Z; omega) (by have := HSR.out; omega))
          have HPLz : Hid (∀ u, Cal 90 #[.agg #[.int .i64 (L1 Z / 18446744073709551616), .int .u64 (L1 Z % 18446744073709551616)], .int .i64 ((-s))] u fun e w' => e = .returned (.agg (wideC (L1 Z + (-s)))) ∧ Ext u w') := HPLz
          have HSTz := hid (leftC_set (L1) hinz (L1 Z + (-s)))
          have HYvz := hid (HYBz.out Z)
          clear HYz
          obtain ⟨yz, hyz⟩ : ∃ y, y = L1 Z := ⟨_, rfl⟩
          rw [← hyz] at HC0z HC1z HPLz HSTz HYvz
          have HYz := hid hyz
          clear hyz
          refine lex_wide 11 [] (by kernel_rfl) (by kernel_rfl) (nStab_nil) ?_
          simp only [List.take_succ_cons, List.take_zero, List.drop_succ_cons, List.drop_zero]
          apply lex_fun (rfl : psAt _ _ = none)
          · intro x u hR hf
            clear hR hf
            go_simp
            exact ⟨rfl, Ext.refl _⟩
          simp only [Act.put, List.setIfInBounds_toArray, List.set_cons_succ, List.set_cons_zero]
          apply lex_fun (rfl : psAt _ _ = none)
          · intro x u hR hf
            have cb := cell_of (hR.block HBXz.out)
            clear hR hf
            go_simp
            exact ⟨rfl, Ext.refl _⟩
          simp only [Act.put, List.setIfInBounds_toArray, List.set_cons_succ, List.set_cons_zero]
          apply lex_fun (rfl : psAt _ _ = none)
          · intro x u hR hf
            clear hR hf
            go_simp
            exact ⟨rfl, Ext.refl _⟩
          simp only [Act.put, List.setIfInBounds_toArray, List.set_cons_succ, List.set_cons_zero]
          apply lex_fun (rfl : psAt _ _ = none)
          · intro x u hR hf
            have cb := cell_of (hR.block HBXz.out)
            clear hR hf
            go_simp
            exact ⟨rfl, Ext.refl _⟩
          simp only [Act.put, List.setIfInBounds_toArray, List.set_cons_succ, List.set_cons_zero]
          apply lex_fun (rfl : psAt _ _ = none)
          · intro x u hR hf
            clear hR hf
            go_simp
            exact ⟨rfl, Ext.refl _⟩
          simp only [Act.put, List.setIfInBounds_toArray, List.set_cons_succ, List.set_cons_zero]
          apply lex_fun (rfl : psAt _ _ = none)
          · intro x u hR hf
            have c0 := HC0z.out u hR
            have c1 := HC1z.out u hR
            clear hR hf
            go_simp
            exact ⟨rfl, Ext.refl _⟩
          simp only [Act.put, List.setIfInBounds_toArray, List.set_cons_succ, List.set_cons_zero]
          apply lex_fun (rfl : psAt _ _ = none)
          · intro x u hR hf
            clear hR hf
            go_simp
            exact ⟨rfl, Ext.refl _⟩
          simp only [Act.put, List.setIfInBounds_toArray, List.set_cons_succ, List.set_cons_zero]
          apply lex_fun (rfl : psAt _ _ = none)
          · intro x u hR hf
            have cb := cell_of (hR.block HBXz.out)
            clear hR hf
            go_simp
            exact ⟨rfl, Ext.refl _⟩
          simp only [Act.put, List.setIfInBounds_toArray, List.set_cons_succ, List.set_cons_zero]
          refine lex_fun (v := .int .i64 (-s)) (rfl : psAt _ _ = none) ?_ ?_
          · intro x u hR hf
            clear hR hf
            go_simp
            exact ⟨HWN.out, Ext.refl _⟩
          simp only [Act.put, List.setIfInBounds_toArray, List.set_cons_succ, List.set_cons_zero]
          refine lex_fun (v := .agg (wideC (yz + (-s)))) (rfl : psAt _ _ = none) ?_ ?_
          · intro x u hR hf
            have hcal := hid (HPLz.out u)
            clear hR hf
            go_simp
            exact hcal.out.mono fun e w'' ⟨he, hx'⟩ => ⟨_, he, rfl, hx'⟩
          simp only [Act.put, List.setIfInBounds_toArray, List.set_cons_succ, List.set_cons_zero]
          apply lex_fun (rfl : psAt _ _ = none)
          · intro x u hR hf
            clear hR hf
            go_simp
            exact ⟨rfl, Ext.refl _⟩
          simp only [Act.put, List.setIfInBounds_toArray, List.set_cons_succ, List.set_cons_zero]
          refine lex_nil fun x w6 hE hfacts => ?_
          clear hfacts x
          have hgz := hE.block HGBz.out
          gi_wp2_with (refine wpIn_store_at 141 (.tmp 75) (.tmp 74) rfl (fun _ => trivial) (g := w.heap.size) (off := Z * 2) (by simp [go_sem]) rfl hgz (by rw [size141]; rfl) (by rw [leftC_size]; show _ + 2 ≤ 20; omega) (wideC_one _) ?_; rw [HSTz.out]; refine Hid.out ?_)
          refine hid ?_
          have HXn := hid (ext_setRow (HX1.out.trans hE) (Nat.le_refl w.heap.size) (leftC fun j => if j = Z then yz + (-s) else L1 j))
          have HGn : Hid ((w6.setRow w.heap.size (leftC fun j => if j = Z then yz + (-s) else L1 j)).heap[w.heap.size]? = some (.cells (leftC fun j => if j = Z then yz + (-s) else L1 j) 142 (0, 0))) := hid (setRow_heap _ _ _ _ _ _ hgz)
          have HBn : Hid ((w6.setRow w.heap.size (leftC fun j => if j = Z then yz + (-s) else L1 j)).heap[nb]? = _) := hid ((setRow_other w6 w.heap.size nb _ HNE.out).trans (hE.block HBXz.out))
          clear HX1 HGB HBX HC0z HC1z hgz hE HPLz HGBz HBXz
          have HX1 := HXn
          have HGB := HGn
          have HBX := HBn
          clear HXn HGn HBn
          generalize w6.setRow w.heap.size (leftC fun j => if j = Z then yz + (-s) else L1 j) = W at *
          clear w6
          gi_wp2_with fail
          go_roundw
          case rel =>
            refine ⟨k + 1, by omega, by go_num, HUU, hid ⟨HX1.out, ?_⟩⟩
            rw [HGB.out, HLS.out]
            congr 3
            funext i
            rw [HL1.out]
            unfold payL
            simp only
            by_cases hiz : i = Z
            · subst hiz
              have e : yz = L i := by rw [HYz.out, HL1.out]; simp only; rw [if_neg (Ne.symm hAZ)]
              rw [if_pos rfl, if_pos rfl, e]; omega
            · rw [if_neg hiz, if_neg (show ¬ (i : Int) = Z by omega)]
              by_cases hia : i = A
              · subst hia
                rw [if_pos rfl, if_pos rfl, HYa.out]
              · rw [if_neg hia, if_neg (show ¬ (i : Int) = A by omega)]
          case measure => simp [intOf]; omega

        · obtain rfl : k = l.length := by omega
          have HAL : Hid (allTo (fun j => pyGood xs.length (l.getD j noPy)) l.length = true) := hid (allTo_yes HG.out)
          clear HG
          obtain ⟨L, hLK⟩ : ∃ L, L = leftPay xs l l.length := ⟨_, rfl⟩
          rw [← hLK] at HI
          have HCB : Hid (clearB xs l = allTo (fun i => L i == 0) 10) := hid (by unfold clearB; rw [HAL.out, ← hLK]; rfl)
          clear hLK HAL
          have hq := fun (u : World) => eqlWide L u
          gi_wp2_with (refine wpIn_load_left (.tmp 5) rfl (fun _ => trivial) (hx := rfl) HI.out.2 ?_)
          go_ret
          exact ⟨by rw [HCB.out]; rfl, HI.out.1⟩
end
end Go.Proofs.YtjocoadhalimjaaGreat
