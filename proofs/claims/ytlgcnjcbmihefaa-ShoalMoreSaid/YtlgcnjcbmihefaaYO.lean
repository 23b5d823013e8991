/- ShoalMore: its walk. -/
import Derived.Test.YtlgcnjcbmihefaaYN
import Derived.Test.YtlgcnjcbmihefaaYE
import Derived.Test.YtlgcnjcbmihefaaXS
set_option linter.unusedSimpArgs false
set_option linter.unusedVariables false
namespace Go.Proofs.Ytlgcnjcbmihefaa
open Go Go.RowKit Go.Shelf

theorem wpIn_store_agg {F : Fence} {n : Nat} {o : Oper} {a : Act} {w : World} {K : Act → World → Prop} {Q : Exit → Act → World → Prop} (ty : TypeId) (x y : Operand) (ho : o.op = .store ty x y) (hF : ∀ f, F.fn f) {g : Nat} (hx : a.eval x = .pointer (some ⟨g, 0, none⟩)) {t : TypeId} (cells : Array Value) {old : Array Value}
    (hy : a.eval y = .agg cells) (hg : w.heap[g]? = some (.cells old t (0, 0))) (hi : (Try.prog.info? ty).map (·.size) = some cells.size) (hold : old.size = cells.size) (h1 : cells.all (·.oneCell') = true) (h : K (a.put o.dst undef) (w.setRow g cells)) : o.wpIn F n Try.prog a w K Q := by
  have hl : (storeVar ty ⟨g, 0, none⟩ (.agg cells)).run Try.prog w = .ok () (w.setRow g cells) := run_storeVar_row w _ t ty _ _ hg hi hold h1
  refine ⟨fun f _ => hF f, ?_⟩
  rw [Oper.semAt_eq _ _ _ (by rw [ho]; intro c h; cases h)]
  unfold execOp
  simp only [ho, hx, hy, Instr.storeAt, Instr.sureAddr, Sem.run_bind, Sem.run_pure, Result.andThen_ok, hl]
  exact h
theorem gives_extract {F : Fence} {n : Nat} {P : Program} {R : World → World → Prop} {o : Oper} {a : Act} {w : World} {V : Value → World → Prop} (x : Operand) (i : Nat) (ho : o.op = .extract x i) {vs : Array Value} {v : Value} (hx : a.eval x = .tuple vs) (hv : vs[i]? = some v) (h : V v w ∧ R w w) : gives F n P R o a w V := by
  unfold gives
  rw [Oper.semAt_eq _ _ _ (by rw [ho]; intro c h; cases h)]
  unfold execOp
  simp [ho, hx, Instr.extract, hv]
  exact h

theorem wpIn_max0 {F : Fence} {n : Nat} {o : Oper} {a : Act} {w : World} {K : Act → World → Prop} {Q : Exit → Act → World → Prop} (x : Operand) (y : Int) (ho : o.op = .call { callee := .builtin .max, args := #[.const (.int .i64 0), x], argTypes := #[3, 3] }) (hF : ∀ f, F.fn f) (hn : F.depth = none) (hx : a.eval x = .int .i64 y)
    (h : K (a.put o.dst (.int .i64 (max 0 y))) w) : o.wpIn F n Try.prog a w K Q := by
  refine wpIn_of_gives (R := fun u u' => u' = u) (V := fun u _ => u = .int .i64 (max 0 y)) hF hn ?_ (fun v w' hv hw => by subst hv; subst hw; exact h)
  have he : (if y > 0 then y else 0) = max 0 y := by split <;> omega
  unfold gives
  rw [Oper.semAt_eq _ _ _ (by rw [ho]; intro c h; cases h)]
  unfold execOp
  have h0 : a.eval (.const (.int .i64 0)) = .int .i64 0 := rfl
  simp only [ho, resolve, invoke, builtin, Sem.run_bind, Sem.run_pure, Result.andThen_ok, List.map_toArray, List.map_cons, List.map_nil, hx, h0, run_max_int2, he]
  exact ⟨rfl, rfl⟩

theorem setCell_same {w : World} {g : Nat} {cs : Array Value} {t : TypeId} (h : w.heap[g]? = some (.cells cs t (0, 0))) (o : Nat) (v : Value) : (w.setCell ⟨g, o, none⟩ v).heap[g]? = some (.cells (cs.setIfInBounds o v) t (0, 0)) := by
  simp [World.setCell, Array.getElem?_modify, h]

theorem canList_80 {D : SeaD} (h80 : D.wide * D.high ≤ 80) (rs : List Rep) (n h : Int) : (canList D rs n h).length ≤ 80 := by
  unfold canList canF opens
  split
  · simp
  · refine Nat.le_trans (List.length_filter_le _ _) (Nat.le_trans (List.length_filter_le _ _) ?_)
    rw [List.length_range]
    omega

/-- With a report more, fewer false ones, or a lesser speed: the errors, and the cells. -/
theorem more_facts {D : SeaD} {rs : List Rep} (hS : soundB D rs = true) {n h : Int} (hn : 0 ≤ n ∧ n < 25) (hh : 0 ≤ h ∧ h < D.hours) (r : Rep) :
    (canErr D rs n h = 12 ∧ (canErr D (rs ++ [r]) n h = 12 ∨ canErr D (rs ++ [r]) n h = 11) ∧ canErr D rs (max 0 (n - 1)) h = 12 ∧ canErr (slowD D (max 0 (D.speed - 1))) rs n h = 12 ∧ canList D rs n h = [] ∧ canList D (rs ++ [r]) n h = [] ∧ canList D rs (max 0 (n - 1)) h = [] ∧ canList (slowD D (max 0 (D.speed - 1))) rs n h = []) ∨
    (canErr D rs n h = 0 ∧ (canErr D (rs ++ [r]) n h = 0 ∨ canErr D (rs ++ [r]) n h = 12 ∨ canErr D (rs ++ [r]) n h = 11) ∧ (canErr D rs (max 0 (n - 1)) h = 0 ∨ canErr D rs (max 0 (n - 1)) h = 12) ∧ (canErr (slowD D (max 0 (D.speed - 1))) rs n h = 0 ∨ canErr (slowD D (max 0 (D.speed - 1))) rs n h = 12) ∧
      (∀ c ∈ canList D (rs ++ [r]) n h, c ∈ canList D rs n h) ∧ (∀ c ∈ canList D rs (max 0 (n - 1)) h, c ∈ canList D rs n h) ∧ (∀ c ∈ canList (slowD D (max 0 (D.speed - 1))) rs n h, c ∈ canList D rs n h)) := by
  have hS2 := hS
  unfold soundB at hS2
  rw [Bool.and_eq_true] at hS2
  have hro := reps_ok hS2.1 hS2.2
  have hbd := sea_bounds hS2.1
  have hsp := inB_spec hbd.2.2.2.1
  have hSs : soundB (slowD D (max 0 (D.speed - 1))) rs = true := by
    have hs := hS2.1
    unfold soundB
    rw [Bool.and_eq_true]
    refine ⟨?_, hS2.2⟩
    unfold seaB at hs ⊢
    simp only [Bool.and_eq_true] at hs ⊢
    refine ⟨⟨⟨⟨hs.1.1.1.1, ?_⟩, hs.1.1.2⟩, hs.1.2⟩, hs.2⟩
    show inB (max 0 (D.speed - 1)) 0 2 = true
    unfold inB
    simp
    omega
  have c0 := fun c => can_iff hS (n := n) (h := h) (c := c) hn hh
  have c2 := fun c => can_iff hS (n := max 0 (n - 1)) (h := h) (c := c) (by omega) hh
  have c3 := fun c => can_iff hSs (n := n) (h := h) (c := c) hn hh
  have e0 := (c0 0).1
  have e2 := (c2 0).1
  have e3 := (c3 0).1
  have s2 : ∀ c ∈ canF D rs (max 0 (n - 1)) h.toNat, c ∈ canF D rs n h.toNat := fun c hc => can_fewer hro.1 (by omega) (by omega) hn.2 hc
  have s3 : ∀ c ∈ canF (slowD D (max 0 (D.speed - 1))) rs n h.toNat, c ∈ canF D rs n h.toNat := fun c hc => slow_can (by omega) (by omega) hro.1 (by omega) hn.2 hc
  have f1 : (canErr D (rs ++ [r]) n h = 11 ∧ canList D (rs ++ [r]) n h = []) ∨ (canErr D (rs ++ [r]) n h = (if (canF D (rs ++ [r]) n h.toNat).length = 0 then 12 else 0) ∧ canList D (rs ++ [r]) n h = canF D (rs ++ [r]) n h.toNat ∧ ∀ c ∈ canF D (rs ++ [r]) n h.toNat, c ∈ canF D rs n h.toNat) := by
    cases hb : repsB D.hours (D.wide * D.high) (rs ++ [r]) with
    | false =>
      have ha : askErr D (rs ++ [r]) n h = 11 := by unfold askErr; rw [if_neg (by rw [hS2.1]; simp), if_pos hb]
      refine .inl ⟨?_, ?_⟩
      · unfold canErr; rw [if_pos (by rw [ha]; decide), ha]
      · unfold canList; rw [if_pos (by rw [ha]; decide)]
    | true =>
      have hS1 : soundB D (rs ++ [r]) = true := by unfold soundB; rw [hS2.1, hb]; rfl
      have c1 := fun c => can_iff hS1 (n := n) (h := h) (c := c) hn hh
      exact .inr ⟨(c1 0).1, (c1 0).2.1, fun c hc => can_app (reps_ok hS2.1 hb).1 (by omega) hn.2 hc⟩
  rw [(c0 0).2.1, (c2 0).2.1, (c3 0).2.1, e0, e2, e3]
  clear e0 e2 e3 c0 c2 c3
  generalize canF D rs n h.toNat = l0 at *
  generalize canF D rs (max 0 (n - 1)) h.toNat = l2 at *
  generalize canF (slowD D (max 0 (D.speed - 1))) rs n h.toNat = l3 at *
  by_cases hz : l0.length = 0
  · have z0 := List.eq_nil_of_length_eq_zero hz
    subst z0
    have n2 : l2 = [] := List.eq_nil_iff_forall_not_mem.mpr (fun c hc => by have := s2 c hc; cases this)
    have n3 : l3 = [] := List.eq_nil_iff_forall_not_mem.mpr (fun c hc => by have := s3 c hc; cases this)
    subst n2; subst n3
    refine .inl ⟨rfl, ?_, rfl, rfl, rfl, ?_, rfl, rfl⟩
    · rcases f1 with ⟨e, _⟩ | ⟨e, _, hs⟩
      · exact .inr e
      · have hnil : canF D (rs ++ [r]) n h.toNat = [] := List.eq_nil_iff_forall_not_mem.mpr (fun c hc => by have := hs c hc; cases this)
        left; rw [e, hnil]; rfl
    · rcases f1 with ⟨_, e⟩ | ⟨_, e, hs⟩
      · exact e
      · rw [e]; exact List.eq_nil_iff_forall_not_mem.mpr (fun c hc => by have := hs c hc; cases this)
  · refine .inr ⟨if_neg hz, ?_, ?_, ?_, ?_, s2, s3⟩
    · rcases f1 with ⟨e, _⟩ | ⟨e, _, hs⟩
      · exact .inr (.inr e)
      · rw [e]; split
        · exact .inr (.inl rfl)
        · exact .inl rfl
    · split
      · exact .inr rfl
      · exact .inl rfl
    · split
      · exact .inr rfl
      · exact .inl rfl
    · rcases f1 with ⟨_, e⟩ | ⟨_, e, hs⟩
      · rw [e]; intro c hc; cases hc
      · rw [e]; exact hs

set_option maxRecDepth 100000 in
set_option maxHeartbeats 4000000 in
theorem ShoalMore_any (D : SeaD) (rs : List Rep) (q : Rep) (n0 n1 : Int) (v0 : Value) (w : World) (h0 : SearchAt w v0 D rs) :
    Cal 10 #[v0, .agg #[.int .i64 q.hour, .int .i64 q.cell, .int .i64 q.far, .bool q.there], .agg #[.int .i64 n0, .int .i64 n1]] w fun e w' => e = .returned (.bool true) ∧ Ext w w' := by
  obtain ⟨lv, dv, rv, rfl, hl, hd, hr⟩ := h0
  obtain ⟨o1, ho1⟩ : ∃ o : Obj, o = .cells #[.int .i64 D.wide, .int .i64 D.high, lv, .int .i64 D.hours, dv, .int .i64 D.speed, rv] 28 (0, 0) := ⟨_, rfl⟩
  obtain ⟨o2, ho2⟩ : ∃ o : Obj, o = .cells #[.int .i64 q.hour, .int .i64 q.cell, .int .i64 q.far, .bool q.there] 52 (0, 0) := ⟨_, rfl⟩
  obtain ⟨o3, ho3⟩ : ∃ o : Obj, o = .cells #[.int .i64 n0, .int .i64 n1] 38 (0, 0) := ⟨_, rfl⟩
  have hx : Ext w (((w.alloc o1).alloc o2).alloc o3) := (((Ext.refl w).alloc _).alloc _).alloc _
  have hb1 : (((w.alloc o1).alloc o2).alloc o3).heap[w.heap.size]? = some o1 := Ext.block ((Ext.refl _).alloc _) two_new
  have hb2 : (((w.alloc o1).alloc o2).alloc o3).heap[w.heap.size + 1]? = some o2 := by
    have := Ext.new (w := w.alloc o1) (o := o2) ((Ext.refl ((w.alloc o1).alloc o2)).alloc o3)
    simpa using this
  have hb3 : (((w.alloc o1).alloc o2).alloc o3).heap[w.heap.size + 1 + 1]? = some o3 := by
    have := Ext.new (w := (w.alloc o1).alloc o2) (o := o3) (Ext.refl _)
    simpa using this
  subst ho1; subst ho2; subst ho3
  have HSND := hid (sound_any D rs _ _ ⟨lv, dv, rv, rfl, hl.mono hx, hd.mono hx, hr.mono hx⟩)
  have hlv : lv.oneCell' = true := by obtain ⟨_, _, rfl, _⟩ := hl; rfl
  have hdv : dv.oneCell' = true := by obtain ⟨_, _, rfl, _⟩ := hd; rfl
  have HONE : Hid ((#[Value.int .i64 D.wide, .int .i64 D.high, lv, .int .i64 D.hours, dv, .int .i64 D.speed] : Array Value).all (·.oneCell') = true) := by
    show Array.all _ _ = true
    simp [hlv, hdv]
    exact ⟨rfl, rfl, rfl, rfl⟩
  have HL := hid (hl.mono hx)
  have HD := hid (hd.mono hx)
  have HR := hid (hr.mono hx)
  obtain ⟨ra, rcap, rfl, hrl, _⟩ := hr
  clear hlv hdv
  have HX := hid hx
  have HB1 := hid hb1
  have HB2 := hid hb2
  have HB3 := hid hb3
  clear hl hd hx hb1 hb2 hb3
  gi_enter Try.func10, Try.ntmps10
  gi_wp2_with fail
  generalize ((w.alloc (.cells #[.int .i64 D.wide, .int .i64 D.high, lv, .int .i64 D.hours, dv, .int .i64 D.speed, .slice ra rs.length rcap] 28)).alloc (.cells #[.int .i64 q.hour, .int .i64 q.cell, .int .i64 q.far, .bool q.there] 52)).alloc (.cells #[.int .i64 n0, .int .i64 n1] 38) = w0 at *
  cases hsb : soundB D rs with
  | false =>
    rw [hsb] at HSND
    gi_wp2_with (first | (gi_at_call 31; ((with_reducible refine HSND.out.mono ?_); rintro e w1 ⟨rfl, hx1⟩)) | (gi_at_call 22; ((with_reducible refine (works_any _).mono ?_); rintro e w2 ⟨rfl, hx2⟩)))
    go_ret
    exact ⟨rfl, HX.out.trans (hx1.trans hx2)⟩
  | true =>
    rw [hsb] at HSND
    have hsb2 := hsb
    unfold soundB at hsb2
    rw [Bool.and_eq_true] at hsb2
    have hbd := sea_bounds hsb2.1
    have hm0 := modI_ok n0 (m := 25) (by omega)
    have hh := inB_spec hbd.2.2.1
    have hm1 := modI_ok n1 (m := D.hours) hh.1
    have hsp := inB_spec hbd.2.2.2.1
    have hro := (reps_ok hsb2.1 hsb2.2).1
    have HSB := hid hsb
    have HSE := hid hsb2.1
    clear hsb hsb2 hbd
    gi_wp2_with (gi_at_call 31; ((with_reducible refine HSND.out.mono ?_); rintro e w1 ⟨rfl, hx1⟩))
    have HC1 := hid fun e : Later w1 => And.intro (cell_of ((hx1.trans e.grown).block HB1.out)) (cell_of ((hx1.trans e.grown).block HB3.out))
    have HM0 := hid fun e : Later w1 => mod_any n0 25 e.val (by omega)
    have HM1 := hid fun e : Later w1 => mod_any n1 D.hours e.val (by omega)
    refine quiet_wide 9 (by kernel_rfl) (by kernel_rfl) ?_
    simp only [List.take_succ_cons, List.take_zero, List.drop_succ_cons, List.drop_zero]
    have q1 := HC1.out
    repeat (any_goals (first | go_big_quiet_step ((first | (go_at_call 37; with_reducible exact Cal.quiet_same (HM0.out _)) | (go_at_call 37; with_reducible exact Cal.quiet_same (HM1.out _)))) | quiet_step ((first | (go_at_call 37; with_reducible exact Cal.quiet_same (HM0.out _)) | (go_at_call 37; with_reducible exact Cal.quiet_same (HM1.out _))))))
    refine wpQuiet_nil ?_
    rintro w2 ⟨⟨_, hx2⟩, rfl⟩
    clear q1 HC1 HM0 HM1 HSND
    generalize modI n0 25 = mW at *
    generalize modI n1 D.hours = mH at *
    have HX2 := hid (hx1.trans hx2)
    have hcb := cell_of (HX2.out.block HB1.out)
    clear hx1 hx2
    have HF := hid (more_facts HSB.out (n := mW) (h := mH) hm0 hm1 q)
    have HCN := hid fun (wr : Int) (e : World) (hx : Ext w2 e) => Can_any D lv dv (.slice ra rs.length rcap) rs wr mH e (HL.out.mono (HX2.out.trans hx)) (HD.out.mono (HX2.out.trans hx)) (HR.out.mono (HX2.out.trans hx))
    have HCS : Hid (∀ e, Ext w2 e → Cal 23 #[.agg #[.int .i64 D.wide, .int .i64 D.high, lv, .int .i64 D.hours, dv, .int .i64 (max 0 (D.speed - 1))], .slice ra rs.length rcap, .int .i64 mW, .int .i64 mH] e fun en w' => ∃ v, en = .returned (.tuple #[v, .int .i64 (canErr (slowD D (max 0 (D.speed - 1))) rs mW mH)]) ∧ Ext e w' ∧ Hid (Row w' 3 1 v (canList (slowD D (max 0 (D.speed - 1))) rs mW mH).length (natVals (canList (slowD D (max 0 (D.speed - 1))) rs mW mH)))) :=
      fun e hx => Can_any (slowD D (max 0 (D.speed - 1))) lv dv (.slice ra rs.length rcap) rs mW mH e (HL.out.mono (HX2.out.trans hx)) (HD.out.mono (HX2.out.trans hx)) (HR.out.mono (HX2.out.trans hx))
    have HCA := hid fun (v : Value) (e : World) (hx : Ext w2 e) (hv : RepsAt e v (rs ++ [q])) => Can_any D lv dv v (rs ++ [q]) mW mH e (HL.out.mono (HX2.out.trans hx)) (HD.out.mono (HX2.out.trans hx)) hv
    have HCB := hid fun (e : World) (hx : Ext w2 e) => cell_of ((HX2.out.trans hx).block HB1.out)
    have HRS := hid fun (e : World) (hx : Ext w2 e) => HR.out.mono (HX2.out.trans hx)
    rw [seaVal] at HCN HCA
    have HCN0 := hid (HCN.out mW w2 (Ext.refl _))
    gi_wp2_with (first | (gi_at_call 23; ((with_reducible refine HCN0.out.mono ?_); rintro e w3 ⟨v3, rfl, hx3, hv3⟩; obtain ⟨a3, c3, rfl⟩ := hv3.out.isSliceN; have hcb3 := HCB.out w3 hx3; clear HCN0)) | (refine wpIn_max0 (.tmp 46) (D.speed - 1) rfl (fun _ => trivial) rfl rfl ?_) | (refine wpIn_store_agg (w := w3.alloc (.cells #[.int .i64 0, .int .i64 0, .slice none 0 0, .int .i64 0, .slice none 0 0, .int .i64 0] 25)) 25 (.tmp 11) (.tmp 42) rfl (fun _ => trivial) rfl #[.int .i64 D.wide, .int .i64 D.high, lv, .int .i64 D.hours, dv, .int .i64 D.speed] rfl (Ext.new (Ext.refl _)) (by kernel_rfl) rfl HONE.out ?_; have hsl := setRow_heap (w3.alloc (.cells #[.int .i64 0, .int .i64 0, .slice none 0 0, .int .i64 0, .slice none 0 0, .int .i64 0] 25)) w3.heap.size _ #[.int .i64 D.wide, .int .i64 D.high, lv, .int .i64 D.hours, dv, .int .i64 D.speed] 25 _ (Ext.new (Ext.refl _)); have hx4 : Ext w3 ((w3.alloc (.cells #[.int .i64 0, .int .i64 0, .slice none 0 0, .int .i64 0, .slice none 0 0, .int .i64 0] 25)).setRow w3.heap.size #[.int .i64 D.wide, .int .i64 D.high, lv, .int .i64 D.hours, dv, .int .i64 D.speed]) := below_setRow ((Ext.refl w3).alloc _) (Nat.le_refl _) _; generalize ((w3.alloc (.cells #[.int .i64 0, .int .i64 0, .slice none 0 0, .int .i64 0, .slice none 0 0, .int .i64 0] 25)).setRow w3.heap.size #[.int .i64 D.wide, .int .i64 D.high, lv, .int .i64 D.hours, dv, .int .i64 D.speed]) = w4 at *; have hcb4 := HCB.out w4 (hx3.trans hx4); have hcs4 := cell_of hsl; have hfs4 := free_of hsl))
    have hx5 : Ext w3 (w4.setCell ⟨w3.heap.size, 5, none⟩ (.int .i64 (max 0 (D.speed - 1)))) := hx4.set (Nat.le_refl _) 5 _
    have hs5 : (w4.setCell ⟨w3.heap.size, 5, none⟩ (.int .i64 (max 0 (D.speed - 1)))).heap[w3.heap.size]? = some (.cells #[.int .i64 D.wide, .int .i64 D.high, lv, .int .i64 D.hours, dv, .int .i64 (max 0 (D.speed - 1))] 25 (0, 0)) := by
      have := setCell_same hsl 5 (.int .i64 (max 0 (D.speed - 1)))
      simpa using this
    generalize w4.setCell ⟨w3.heap.size, 5, none⟩ (.int .i64 (max 0 (D.speed - 1))) = w5 at *
    have hx25 := hx3.trans hx5
    have HG1 : Hid (∀ u, Ext w5 u → ∀ o : Nat, u.cell? ⟨w.heap.size, o, none⟩ = #[Value.int .i64 D.wide, .int .i64 D.high, lv, .int .i64 D.hours, dv, .int .i64 D.speed, .slice ra rs.length rcap][o]?) := fun u hu => HCB.out u (hx25.trans hu)
    have HG2 : Hid (∀ u, Ext w5 u → ∀ o : Nat, u.cell? ⟨w.heap.size + 1, o, none⟩ = #[Value.int .i64 q.hour, .int .i64 q.cell, .int .i64 q.far, .bool q.there][o]?) := fun u hu => cell_of ((HX2.out.trans (hx25.trans hu)).block HB2.out)
    have HG3 : Hid (∀ u, Ext w5 u → ∀ o : Nat, u.cell? ⟨w3.heap.size, o, none⟩ = #[Value.int .i64 D.wide, .int .i64 D.high, lv, .int .i64 D.hours, dv, .int .i64 (max 0 (D.speed - 1))][o]?) := fun u hu => cell_of (hu.block hs5)
    have HX5 := hid hx25
    have HV3 := hid (hv3.out.mono hx5)
    clear hx4 hx5 hx25 hs5 hsl hcb4 hcs4 hfs4 hcb3 hx3 hv3 hcb
    have h80 := seaB_80 HSE.out
    have len0 := canList_80 h80 rs mW mH
    have len1 := canList_80 h80 (rs ++ [q]) mW mH
    have len2 := canList_80 h80 rs (max 0 (mW - 1)) mH
    have len3 := canList_80 (D := slowD D (max 0 (D.speed - 1))) h80 rs mW mH
    clear h80
    generalize canErr D rs mW mH = e0 at *
    generalize canList D rs mW mH = l0 at *
    generalize canErr D (rs ++ [q]) mW mH = e1 at *
    generalize canList D (rs ++ [q]) mW mH = l1 at *
    refine lex_own 16 (mPreds w5.heap.size rs.length (flatR rs) [.int .i64 q.hour, .int .i64 q.cell, .int .i64 q.far, .bool q.there] l1 e1) (mR w5.heap.size rs.length (flatR rs)) (fun _ => Ext w5) (Ext w5) (by kernel_rfl) (by kernel_rfl) (fun i => Ext.drawn w5) (Ext.drawn w5) (fun i j u v _ h k => mC_ok j u v h k) (fun j u v h k => mC_ok j u v h k) (m_stab rfl) ?_
    · simp only [List.take_succ_cons, List.take_zero, List.drop_succ_cons, List.drop_zero]
      apply m_fun (rfl : psAt _ _ = none) (by omega)
      · intro x u hx hf
        clear hf
        go_simp
        exact ⟨rfl, Ext.refl _⟩
      simp only [Act.put, List.setIfInBounds_toArray, List.set_cons_succ, List.set_cons_zero]
      apply m_fun (rfl : psAt _ _ = none) (by omega)
      · intro x u hx hf
        clear hf
        have c1 := HG1.out u hx
        go_simp
        exact ⟨rfl, Ext.refl _⟩
      simp only [Act.put, List.setIfInBounds_toArray, List.set_cons_succ, List.set_cons_zero]
      refine m_pred (p := mEmp w5.heap.size) rfl (by omega) ?_ ?_
      · intro x u hx hf
        have hn := hx.size
        clear hf
        go_simp
        exact ⟨⟨_, rfl, Ext.new (Ext.refl _), hn⟩, (Ext.refl _).alloc _⟩
      simp only [Act.put, List.setIfInBounds_toArray, List.set_cons_succ, List.set_cons_zero]
      apply m_fun (rfl : psAt _ _ = none) (by omega)
      · intro x u hx hf
        clear hf
        go_simp
        exact ⟨rfl, Ext.refl _⟩
      simp only [Act.put, List.setIfInBounds_toArray, List.set_cons_succ, List.set_cons_zero]
      apply m_fun (rfl : psAt _ _ = none) (by omega)
      · intro x u hx hf
        clear hf
        have c1 := HG1.out u hx
        go_simp
        exact ⟨rfl, Ext.refl _⟩
      simp only [Act.put, List.setIfInBounds_toArray, List.set_cons_succ, List.set_cons_zero]
      refine m_pred (p := mCopy w5.heap.size rs.length (flatR rs)) rfl (by omega) ?_ ?_
      · intro x u hx hf
        obtain ⟨g, e2, hg, hB⟩ := (hf.1 rfl : mEmp w5.heap.size (x 2) u)
        clear hf
        obtain ⟨v', w', hrun, hrow, hgr, how, hemp⟩ := copy_any (ty := 26) (HRS.out u (HX5.out.trans hx)) g hg (by omega)
        rw [if_pos (show Region.wanted _ _ = true from rfl)]
        exact gives_append (.tmp 52) (.tmp 54) 26 rfl e2 rfl hrun ⟨⟨hrow, fun k hk => (how k hk).elim (fun e => by omega) (fun h => Nat.le_trans hx.size h), fun h0 => ⟨g, hemp h0⟩⟩, grown_none hgr⟩
      simp only [Act.put, List.setIfInBounds_toArray, List.set_cons_succ, List.set_cons_zero]
      apply m_fun (rfl : psAt _ _ = none) (by omega)
      · intro x u hx hf
        clear hf
        have c1 := HG2.out u hx
        go_simp
        exact ⟨rfl, Ext.refl _⟩
      simp only [Act.put, List.setIfInBounds_toArray, List.set_cons_succ, List.set_cons_zero]
      refine m_pred (p := mOne w5.heap.size [.int .i64 q.hour, .int .i64 q.cell, .int .i64 q.far, .bool q.there]) rfl (by omega) ?_ ?_
      · intro x u hx hf
        have hn := hx.size
        clear hf
        go_simp
        exact ⟨⟨_, rfl, Ext.new (Ext.refl _), hn⟩, (Ext.refl _).alloc _⟩
      simp only [Act.put, List.setIfInBounds_toArray, List.set_cons_succ, List.set_cons_zero]
      refine m_last (p := mLong (rs.length + 1) (flatR rs ++ [.int .i64 q.hour, .int .i64 q.cell, .int .i64 q.far, .bool q.there])) rfl ?_ ?_
      · intro x u hx hf
        have h5 : mCopy w5.heap.size rs.length (flatR rs) (x 5) u := hf.1 rfl
        have h7 : mOne w5.heap.size [.int .i64 q.hour, .int .i64 q.cell, .int .i64 q.far, .bool q.there] (x 7) u := hf.2.1 rfl
        clear hf
        obtain ⟨g, e7, hg, hgB⟩ := h7
        obtain ⟨i0, hi0, hz0, hz1, hz2⟩ := info_parts info52
        obtain ⟨v', w', hrun, hrow', hcase⟩ := append_two (sz := 4) (bytes := 32) (t := 26) (ty := 26) Try.underlying26 hi0 hz0 hz1 hz2 (by simp [Value.cells]) (by omega) h5.1 ⟨g, 0, none⟩ 1 [.int .i64 q.hour, .int .i64 q.cell, .int .i64 q.far, .bool q.there] rfl
          (fun j z hj => by rw [Addr.add_mid, Nat.zero_add, cell_of hg]; simpa using hj) (fun z hz => by simp at hz; rcases hz with rfl | rfl | rfl | rfl <;> rfl) (by omega) (by omega)
        rw [if_pos (show Region.wanted _ _ = true from rfl)]
        refine gives_append (.tmp 55) (.tmp 57) 26 rfl rfl e7 hrun ⟨hrow', ?_⟩
        rcases hcase with ⟨hgr, _⟩ | ⟨g2, cap, e5, hlt, hg2, hkeep, _⟩
        · exact .inl (grown_none hgr)
        · refine .inr ⟨g2, cap, ?_, hlt, h5.2.1 g2 (by rw [e5]; rfl), by rw [← e5]; exact h5.1, by rw [← e5]; exact hkeep, hg2⟩
          by_cases hz : rs.length = 0
          · obtain ⟨g3, e3⟩ := h5.2.2 hz
            rw [e3] at e5
            injection e5 with _ _ h
            omega
          · omega
      simp only [Act.put, List.setIfInBounds_toArray, List.set_cons_succ, List.set_cons_zero]
      apply m_fun (rfl : psAt _ _ = none) (by omega)
      · intro x u hx hf
        clear hf
        go_simp
        exact ⟨rfl, Ext.refl _⟩
      simp only [Act.put, List.setIfInBounds_toArray, List.set_cons_succ, List.set_cons_zero]
      apply m_fun (rfl : psAt _ _ = none) (by omega)
      · intro x u hx hf
        clear hf
        go_simp
        exact ⟨rfl, Ext.refl _⟩
      simp only [Act.put, List.setIfInBounds_toArray, List.set_cons_succ, List.set_cons_zero]
      refine m_pred (p := mAns l1 e1) rfl (by omega) ?_ ?_
      · intro x u hx hf
        have h8 : mLong (rs.length + 1) (flatR rs ++ [.int .i64 q.hour, .int .i64 q.cell, .int .i64 q.far, .bool q.there]) (x 8) u := hf.2.1 rfl
        clear hf
        have hrp : RepsAt u (x 8) (rs ++ [q]) := Row.reps (by rw [List.length_append, flatR_app]; exact h8) (by rw [List.length_append]; simp; omega)
        have hcal := hid (HCA.out (x 8) u (HX5.out.trans hx) hrp)
        clear h8 hrp
        go_simp
        exact hcal.out.mono fun e w'' ⟨v, he, hx', hv⟩ => ⟨_, he, ⟨v, rfl, hv⟩, hx'⟩
      simp only [Act.put, List.setIfInBounds_toArray, List.set_cons_succ, List.set_cons_zero]
      refine m_pred (p := mAns l1 e1) rfl (by omega) ?_ ?_
      · intro x u hx hf
        have h := (hf.1 rfl : mAns l1 e1 (x 11) u)
        clear hf
        go_simp
        exact ⟨h, Ext.refl _⟩
      simp only [Act.put, List.setIfInBounds_toArray, List.set_cons_succ, List.set_cons_zero]
      refine m_pred (p := mInts l1) rfl (by omega) ?_ ?_
      · intro x u hx hf
        obtain ⟨r, e12, hr⟩ := (hf.1 rfl : mAns l1 e1 (x 12) u)
        rw [if_pos (show Region.wanted _ _ = true from rfl)]
        exact gives_extract (.tmp 49) 0 rfl e12 rfl ⟨hr, Ext.refl _⟩
      simp only [Act.put, List.setIfInBounds_toArray, List.set_cons_succ, List.set_cons_zero]
      refine m_fun (v := .int .i64 e1) (rfl : psAt _ _ = none) (by omega) ?_ ?_
      · intro x u hx hf
        obtain ⟨r, e12, hr⟩ := (hf.1 rfl : mAns l1 e1 (x 12) u)
        rw [if_pos (show Region.wanted _ _ = true from rfl)]
        exact gives_extract (.tmp 49) 1 rfl e12 rfl ⟨rfl, Ext.refl _⟩
      simp only [Act.put, List.setIfInBounds_toArray, List.set_cons_succ, List.set_cons_zero]
      refine m_pred (p := mInts l1) rfl (by omega) ?_ ?_
      · intro x u hx hf
        have h := (hf.1 rfl : mInts l1 (x 13) u)
        clear hf
        go_simp
        exact ⟨h, Ext.refl _⟩
      simp only [Act.put, List.setIfInBounds_toArray, List.set_cons_succ, List.set_cons_zero]
      refine lex_nil fun x w6 hE hfacts => ?_
      have h15 : mInts l1 (x 15) w6 := hfacts 15 _ (by omega) rfl
      clear hfacts
      generalize x 2 = x2 at *
      generalize x 5 = x5 at *
      generalize x 7 = x7 at *
      generalize x 8 = x8 at *
      generalize x 11 = x11 at *
      generalize x 12 = x12 at *
      generalize x 13 = x13 at *
      generalize x 15 = x15 at *
      obtain ⟨a15, c15, rfl⟩ := Row.isSliceN h15
      have HV15 := hid h15
      have HX6 := hid (HX5.out.trans hE)
      have HV3' := hid (HV3.out.mono hE)
      have hcb6 := HG1.out w6 hE
      have hcs6 := HG3.out w6 hE
      clear h15
      have HCNb := hid (HCN.out (max 0 (mW - 1)) w6 HX6.out)
      generalize canErr D rs (max 0 (mW - 1)) mH = e2 at *
      generalize canList D rs (max 0 (mW - 1)) mH = l2 at *
      generalize canErr (slowD D (max 0 (D.speed - 1))) rs mW mH = e3 at *
      generalize canList (slowD D (max 0 (D.speed - 1))) rs mW mH = l3 at *
      have hf := HF.out
      clear HF HV3 HRS HCA HCN HG1 HG2
      rcases hf with ⟨rfl, he1, rfl, rfl, z0, z1, z2, z3⟩ | ⟨rfl, he1, he2, he3, s1, s2, s3⟩
      · have n0' : l0.length = 0 := by rw [z0]; rfl
        have n1' : l1.length = 0 := by rw [z1]; rfl
        have n2' : l2.length = 0 := by rw [z2]; rfl
        have n3' : l3.length = 0 := by rw [z3]; rfl
        clear z0 z1 z2 z3
        rcases he1 with rfl | rfl
        all_goals
          gi_wp2_with (first | (gi_at_call 23; ((with_reducible refine HCNb.out.mono ?_); rintro e w7 ⟨v7, rfl, hx7, hv7⟩; obtain ⟨a7, c7, rfl⟩ := hv7.out.isSliceN; have hcb7 := HCB.out w7 (HX6.out.trans hx7); have hcs7 := HG3.out w7 (hE.trans hx7); have HCSb := hid (HCS.out w7 (HX6.out.trans hx7)))) | (refine wpIn_max0 (.tmp 70) (mW - 1) rfl (fun _ => trivial) rfl rfl ?_) | (gi_at_call 23; ((with_reducible refine HCSb.out.mono ?_); rintro e w8 ⟨v8, rfl, hx8, hv8⟩; obtain ⟨a8, c8, rfl⟩ := hv8.out.isSliceN; have HS1 := hid fun (h : ∀ x ∈ intsOf l1, x ∈ intsOf l0) => subset_any (.slice a15 l1.length c15) (.slice a3 l0.length c3) (intsOf l1) (intsOf l0) w8 ((HV15.out.mono (hx7.trans hx8)).ints (by omega)) ((HV3'.out.mono (hx7.trans hx8)).ints (by omega)) h)) | (gi_at_call 38; ((with_reducible refine (HS1.out T1.out).mono ?_); rintro e w9 ⟨rfl, hx9⟩; have HS2 := hid fun (h : ∀ x ∈ intsOf l2, x ∈ intsOf l0) => subset_any (.slice a7 l2.length c7) (.slice a3 l0.length c3) (intsOf l2) (intsOf l0) w9 ((hv7.out.mono (hx8.trans hx9)).ints (by omega)) ((HV3'.out.mono (hx7.trans (hx8.trans hx9))).ints (by omega)) h)) | (gi_at_call 38; ((with_reducible refine (HS2.out T2.out).mono ?_); rintro e w10 ⟨rfl, hx10⟩; have HS3 := hid fun (h : ∀ x ∈ intsOf l3, x ∈ intsOf l0) => subset_any (.slice a8 l3.length c8) (.slice a3 l0.length c3) (intsOf l3) (intsOf l0) w10 ((hv8.out.mono (hx9.trans hx10)).ints (by omega)) ((HV3'.out.mono (hx7.trans (hx8.trans (hx9.trans hx10)))).ints (by omega)) h)) | (gi_at_call 38; ((with_reducible refine (HS3.out T3.out).mono ?_); rintro e w11 ⟨rfl, hx11⟩)) | (gi_at_call 22; ((with_reducible refine (works_any _).mono ?_); rintro e wz ⟨rfl, hxz⟩)))
        all_goals first | exact (undef_no (by assumption)).elim | (go_ret; exact ⟨rfl, HX.out.trans (HX2.out.trans (HX6.out.trans (hx7.trans (hx8.trans hxz))))⟩)
      · have key : ∀ (a b : List Nat), (∀ c ∈ a, c ∈ b) → ∀ x ∈ intsOf a, x ∈ intsOf b := fun a b h x hx => by
          unfold intsOf at hx ⊢
          obtain ⟨c, hc, rfl⟩ := List.mem_map.mp hx
          exact List.mem_map.mpr ⟨c, h c hc, rfl⟩
        have T1 := hid (key _ _ s1)
        have T2 := hid (key _ _ s2)
        have T3 := hid (key _ _ s3)
        clear key s1 s2 s3
        rcases he1 with rfl | rfl | rfl <;> rcases he2 with rfl | rfl <;> rcases he3 with rfl | rfl
        all_goals
          gi_wp2_with (first | (gi_at_call 23; ((with_reducible refine HCNb.out.mono ?_); rintro e w7 ⟨v7, rfl, hx7, hv7⟩; obtain ⟨a7, c7, rfl⟩ := hv7.out.isSliceN; have hcb7 := HCB.out w7 (HX6.out.trans hx7); have hcs7 := HG3.out w7 (hE.trans hx7); have HCSb := hid (HCS.out w7 (HX6.out.trans hx7)))) | (refine wpIn_max0 (.tmp 70) (mW - 1) rfl (fun _ => trivial) rfl rfl ?_) | (gi_at_call 23; ((with_reducible refine HCSb.out.mono ?_); rintro e w8 ⟨v8, rfl, hx8, hv8⟩; obtain ⟨a8, c8, rfl⟩ := hv8.out.isSliceN; have HS1 := hid fun (h : ∀ x ∈ intsOf l1, x ∈ intsOf l0) => subset_any (.slice a15 l1.length c15) (.slice a3 l0.length c3) (intsOf l1) (intsOf l0) w8 ((HV15.out.mono (hx7.trans hx8)).ints (by omega)) ((HV3'.out.mono (hx7.trans hx8)).ints (by omega)) h)) | (gi_at_call 38; ((with_reducible refine (HS1.out T1.out).mono ?_); rintro e w9 ⟨rfl, hx9⟩; have HS2 := hid fun (h : ∀ x ∈ intsOf l2, x ∈ intsOf l0) => subset_any (.slice a7 l2.length c7) (.slice a3 l0.length c3) (intsOf l2) (intsOf l0) w9 ((hv7.out.mono (hx8.trans hx9)).ints (by omega)) ((HV3'.out.mono (hx7.trans (hx8.trans hx9))).ints (by omega)) h)) | (gi_at_call 38; ((with_reducible refine (HS2.out T2.out).mono ?_); rintro e w10 ⟨rfl, hx10⟩; have HS3 := hid fun (h : ∀ x ∈ intsOf l3, x ∈ intsOf l0) => subset_any (.slice a8 l3.length c8) (.slice a3 l0.length c3) (intsOf l3) (intsOf l0) w10 ((hv8.out.mono (hx9.trans hx10)).ints (by omega)) ((HV3'.out.mono (hx7.trans (hx8.trans (hx9.trans hx10)))).ints (by omega)) h)) | (gi_at_call 38; ((with_reducible refine (HS3.out T3.out).mono ?_); rintro e w11 ⟨rfl, hx11⟩)) | (gi_at_call 22; ((with_reducible refine (works_any _).mono ?_); rintro e wz ⟨rfl, hxz⟩)))
        all_goals first | exact (undef_no (by assumption)).elim | (go_ret; exact ⟨rfl, HX.out.trans (HX2.out.trans (HX6.out.trans (hx7.trans (hx8.trans (hx9.trans (hx10.trans (hx11.trans hxz)))))))⟩)
end Go.Proofs.Ytlgcnjcbmihefaa
