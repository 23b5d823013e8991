/- newSea. -/
import Derived.Test.YtiklblbjnblkfaaLex
set_option linter.unusedSimpArgs false
set_option linter.unusedVariables false
namespace Go.Proofs.Ytiklblbjnblkfaa
open Go Go.RowKit Go.Shelf

set_option maxHeartbeats 1000000 in
theorem newSea_bad (D : SeaD) (lv dv rv : Value) (w : World) (hl : IntsAt w lv D.land) (hd : StepsAt w dv D.drift) (hb : seaB D = false) :
    Cal 47 #[seaVal D lv dv, rv] w fun e w' => e = .returned (.tuple #[.pointer none, .int .i64 10]) ∧ Ext w w' := by
  refine callsIn_of_wp_marks Try.func47 rfl trivial ?_
  simp only [seaVal, Try.ntmps47, List.size_toArray, List.length_cons, List.length_nil, Nat.reduceAdd, Nat.reduceSub, Array.replicate_succ, Array.replicate_zero, List.push_toArray, List.append_toArray, List.nil_append, List.cons_append]
  have hx := (Ext.refl w).alloc (.cells #[.int .i64 D.wide, .int .i64 D.high, lv, .int .i64 D.hours, dv, .int .i64 D.speed] 25)
  have HA := hid (isSea_any D lv dv _ (hl.mono hx) (hd.mono hx))
  rw [hb, seaVal] at HA
  clear hl hd hx hb
  gi_wp2_with (gi_at_call 55; refine HA.out.mono ?_; rintro e w1 ⟨rfl, hx1⟩)
  exact ⟨_, results_tmp2 rfl _ _ _, rfl, Ext.after hx1⟩

/-- What is known of the values of the statement that makes the sea. -/
def nsMap (n0 : Nat) (v : Value) (w : World) : Prop := ∃ bm, v = .map (some bm) ∧ MapBlk w bm [] ∧ n0 ≤ bm
def nsRow (n0 hrs : Nat) (v : Value) (w : World) : Prop := ∃ ba, v = .slice (some ⟨ba, 0, none⟩) hrs hrs ∧ w.heap[ba]? = some (.cells (madeCells #[.slice none 0 0] hrs) 116 (0, 0)) ∧ n0 ≤ ba
/-- Whether a report is one of an hour. -/
def ofHour (rs : List Rep) (h : Nat) : List Rep := rs.filter fun r => r.hour == (h : Int)
/-- What is asked, hour by hour, in memory. -/
def AskedAt (w : World) (S : SeaV) (hrs : Nat) (rs : List Rep) : Prop :=
  ∃ (ba : Nat) (vs : List Value), S.asked = .slice (some ⟨ba, 0, none⟩) hrs hrs ∧ vs.length = hrs ∧ w.heap[ba]? = some (.cells vs.toArray 116 (0, 0)) ∧
    ∀ h (hh : h < vs.length), Row w 117 1 vs[h] (ofHour rs h).length ((ofHour rs h).map (askVal S))
/-- The same as it grows: the rows are blocks of the call's own, from n0 on. -/
def AskedPart (w : World) (n0 ba hrs : Nat) (S : SeaV) (rs : List Rep) : Prop :=
  ∃ vs : List Value, vs.length = hrs ∧ w.heap[ba]? = some (.cells vs.toArray 116 (0, 0)) ∧
    (∀ h (hh : h < vs.length), Row w 117 1 vs[h] (ofHour rs h).length ((ofHour rs h).map (askVal S))) ∧
    (∀ h (hh : h < vs.length) k, vs[h].ownBlock = some k → n0 ≤ k) ∧
    (∀ h h' (hh : h < vs.length) (hh' : h' < vs.length) k, h ≠ h' → vs[h].ownBlock = some k → vs[h'].ownBlock ≠ some k)
def seaMap (S : SeaV) (land : List Int) : PMap := (opens land (S.wide * S.high).toNat).map fun (c : Nat) => ((col S c, row S c), (c : Int))
/-- A sea of the calculation, with all that belongs to it. -/
structure SeaFull (w : World) (b : Nat) (S : SeaV) (D : SeaD) (rs : List Rep) : Prop where
  at_ : SeaAt w b S
  ok : S.Ok
  wide : S.wide = D.wide
  high : S.high = D.high
  hours : S.hours = D.hours
  speed : S.speed = D.speed
  land : IntsAt w S.land D.land
  drift : StepsAt w S.drift D.drift
  map : ∃ bm, S.cm = .map (some bm) ∧ MapBlk w bm (seaMap S D.land)
  asked : AskedAt w S D.hours.toNat rs
inductive NewSea (D : SeaD) (lv dv : Value) (rs : List Rep) : Ending → World → Prop
  | reps {w : World} (h : repsB D.hours (D.wide * D.high) rs = false) : NewSea D lv dv rs (.returned (.tuple #[.pointer none, .int .i64 11])) w
  | ok {w : World} {b : Nat} {S : SeaV} (h : repsB D.hours (D.wide * D.high) rs = true) (hs : SeaFull w b S D rs) : NewSea D lv dv rs (.returned (.tuple #[.pointer (some ⟨b, 0, none⟩), .int .i64 0])) w
def nsSea (D : SeaD) (lv dv : Value) (cm asked : Value) : SeaV := ⟨D.wide, D.high, lv, D.hours, dv, D.speed, cm, asked⟩
def nsAgg (D : SeaD) (lv dv : Value) (n0 hrs : Nat) (v : Value) (w : World) : Prop := ∃ cm asked, nsMap n0 cm w ∧ nsRow n0 hrs asked w ∧ v = .agg #[.int .i64 D.wide, .int .i64 D.high, lv, .int .i64 D.hours, dv, .int .i64 D.speed, cm, asked]
def nsPtr (D : SeaD) (lv dv : Value) (n0 hrs : Nat) (v : Value) (w : World) : Prop := ∃ b cm asked, nsMap n0 cm w ∧ nsRow n0 hrs asked w ∧ v = .pointer (some ⟨b, 0, none⟩) ∧ SeaAt w b (nsSea D lv dv cm asked) ∧ n0 ≤ b
def nsVar (n0 : Nat) (v : Value) (w : World) : Prop := ∃ bw, v = .pointer (some ⟨bw, 0, none⟩) ∧ w.heap[bw]? = some (.cells #[.pointer none] 75 (0, 0)) ∧ n0 ≤ bw
theorem MapBlk.kept {w w' : World} {bm : Nat} {m : PMap} (h : MapBlk w bm m) (hk : ∀ o, w.heap[bm]? = some o → w'.heap[bm]? = some o) : MapBlk w' bm m := by
  obtain ⟨es, c, h1, h2⟩ := h; exact ⟨es, c, hk _ h1, h2⟩
theorem nsMap.mono {n0 : Nat} {v : Value} {w w' : World} (h : nsMap n0 v w) (hx : Ext w w') : nsMap n0 v w' := by
  obtain ⟨bm, h1, h2, h3⟩ := h; exact ⟨bm, h1, h2.kept fun o ho => hx.block ho, h3⟩
theorem nsRow.mono {n0 hrs : Nat} {v : Value} {w w' : World} (h : nsRow n0 hrs v w) (hx : Ext w w') : nsRow n0 hrs v w' := by
  obtain ⟨bm, h1, h2, h3⟩ := h; exact ⟨bm, h1, hx.block h2, h3⟩
theorem nsAgg.mono {D : SeaD} {lv dv : Value} {n0 hrs : Nat} {v : Value} {w w' : World} (h : nsAgg D lv dv n0 hrs v w) (hx : Ext w w') : nsAgg D lv dv n0 hrs v w' := by
  obtain ⟨cm, asked, h1, h2, h3⟩ := h; exact ⟨cm, asked, h1.mono hx, h2.mono hx, h3⟩
theorem nsPtr.mono {D : SeaD} {lv dv : Value} {n0 hrs : Nat} {v : Value} {w w' : World} (h : nsPtr D lv dv n0 hrs v w) (hx : Ext w w') : nsPtr D lv dv n0 hrs v w' := by
  obtain ⟨b, cm, asked, h1, h2, h3, h4, h5⟩ := h; exact ⟨b, cm, asked, h1.mono hx, h2.mono hx, h3, h4.mono hx, h5⟩
theorem nsVar.mono {n0 : Nat} {v : Value} {w w' : World} (h : nsVar n0 v w) (hx : Ext w w') : nsVar n0 v w' := by
  obtain ⟨bm, h1, h2, h3⟩ := h; exact ⟨bm, h1, hx.block h2, h3⟩
def nsPreds (D : SeaD) (lv dv : Value) (n0 hrs : Nat) : Preds := [(1, nsMap n0), (4, nsRow n0 hrs), (5, nsAgg D lv dv n0 hrs), (6, nsPtr D lv dv n0 hrs), (7, nsVar n0)]
theorem nsPreds_stab (D : SeaD) (lv dv : Value) (n0 hrs : Nat) : ∀ i p, psAt (nsPreds D lv dv n0 hrs) i = some p → ∀ v u u', p v u → Ext u u' → p v u' := by
  intro i p hp v u u' hv hx
  unfold nsPreds psAt at hp
  split at hp
  · cases hp; exact hv.mono hx
  unfold psAt at hp
  split at hp
  · cases hp; exact hv.mono hx
  unfold psAt at hp
  split at hp
  · cases hp; exact hv.mono hx
  unfold psAt at hp
  split at hp
  · cases hp; exact hv.mono hx
  unfold psAt at hp
  split at hp
  · cases hp; exact hv.mono hx
  cases hp

theorem make_rows (w : World) (H : Int) (n : Nat) (h : H = n) (hn : n ≤ 1000) : (Instr.makeSlice 111 (.int .i64 H) (.int .i64 H)).run Try.prog w = .ok (.slice (some ⟨w.heap.size, 0, none⟩) n n) (w.alloc (.cells (madeCells #[.slice none 0 0] n) 116)) := by
  subst h
  obtain ⟨i0, hi, hz0, hz1, hz2⟩ := info_parts info116
  have := run_make (P := Try.prog) w 111 116 i0 (.slice none 0 0) Try.underlying111 hi hz0 .i64 .i64 n n (by omega) (by omega) (by rw [hz2]; omega) (by omega)
  rw [this]; simp [hz1, Value.cells]

theorem opens_nodup (land : List Int) (n : Nat) : (opens land n).Nodup := List.nodup_range.filter _
theorem opens_lt {land : List Int} {n c : Nat} (h : c ∈ opens land n) : c < n := List.mem_range.1 (List.mem_filter.1 h).1
theorem place_inj {S : SeaV} {a b : Int} (h1 : col S a = col S b) (h2 : row S a = row S b) : a = b := by
  unfold col at h1
  unfold row at h2
  have e1 := Int.emod_add_mul_ediv a S.wide
  have e2 := Int.emod_add_mul_ediv b S.wide
  rw [h1, h2] at e1
  omega
theorem seaMap_new {S : SeaV} {land : List Int} {i : Nat} (h : i < (opens land (S.wide * S.high).toNat).length) :
    PMap.find ((seaMap S land).take i) (col S ((opens land (S.wide * S.high).toNat)[i] : Int), row S ((opens land (S.wide * S.high).toNat)[i] : Int)) = none := by
  unfold PMap.find
  rw [Option.map_eq_none_iff, List.find?_eq_none]
  intro e he hb
  unfold seaMap at he
  rw [← List.map_take] at he
  obtain ⟨c, hc, rfl⟩ := List.mem_map.1 he
  simp only [Bool.and_eq_true, beq_iff_eq] at hb
  have hcc := place_inj hb.1 hb.2
  obtain ⟨j, hj, hje⟩ := List.getElem_of_mem hc
  rw [List.getElem_take] at hje
  simp at hj
  have : (opens land (S.wide * S.high).toNat)[i] = (opens land (S.wide * S.high).toNat)[j]'(by omega) := by rw [hje]; omega
  have hn := List.pairwise_iff_getElem.1 (opens_nodup land (S.wide * S.high).toNat) j i (by omega) h (by omega)
  exact hn this.symm
theorem seaMap_take {S : SeaV} {land : List Int} {i : Nat} (h : i < (opens land (S.wide * S.high).toNat).length) :
    (seaMap S land).take (i + 1) = (seaMap S land).take i ++ [((col S ((opens land (S.wide * S.high).toNat)[i] : Int), row S ((opens land (S.wide * S.high).toNat)[i] : Int)), (((opens land (S.wide * S.high).toNat)[i] : Nat) : Int))] := by
  unfold seaMap
  rw [List.take_succ_eq_append_getElem (by simpa using h), List.getElem_map]
theorem keeps_put {B bm : Nat} (W : World) (o : Obj) (h : bm < B) : KeepsFrom B W (W.putObj bm o) := ⟨by simp, fun k o' hk ho _ => by rw [World.putObj_heap_other (by omega)]; exact ho⟩

theorem madeCells_nil (n : Nat) : madeCells #[.slice none 0 0] n = (List.replicate n (Value.slice none 0 0)).toArray := by
  apply Array.ext
  · simp [madeCells]
  · intro i h1 h2
    simp [madeCells, Nat.mod_one]
/-- What is known of the values of the statement that appends what a report asks. -/
def arRow (n5 : Nat) (z v : Value) (u : World) : Prop := ∃ g, v = .slice (some ⟨g, 0, none⟩) 1 1 ∧ u.heap[g]? = some (.cells #[z] 117 (0, 0)) ∧ n5 ≤ g
def arNew (n5 n : Nat) (ob : Option Nat) (xs : List Value) (v : Value) (u : World) : Prop := Row u 117 1 v n xs ∧ (v.ownBlock = ob ∨ ∃ k, v.ownBlock = some k ∧ n5 ≤ k)
def arPreds (n5 n : Nat) (ob : Option Nat) (z : Value) (xs : List Value) : Preds := [(17, arRow n5 z), (18, arNew n5 n ob xs)]
def arR (ob : Option Nat) (j : Nat) (u v : World) : Prop := if j = 18 then u.grownBy v ob else Ext u v
def arC (w5 : World) (ob : Option Nat) (i : Nat) (u : World) : Prop := if i = 18 then Ext w5 u else w5.grownBy u ob
theorem Ext.grown {u v : World} (h : Ext u v) (ob : Option Nat) : u.grownBy v ob := ⟨h.os, h.tape, h.output, h.size, fun k hk _ => Below.block h k hk⟩
theorem arC_ok {w5 : World} {ob : Option Nat} (i j : Nat) (u v : World) (hij : i ≠ j) (h : arC w5 ob i u) (k : arR ob j u v) : arC w5 ob i v := by
  unfold arC at h ⊢
  unfold arR at k
  by_cases hi : i = 18
  · rw [if_pos hi] at h ⊢
    rw [if_neg (by omega)] at k
    exact h.trans k
  · rw [if_neg hi] at h ⊢
    split at k
    · exact h.trans k
    · exact h.trans (k.grown ob)
theorem arE_ok {w5 : World} {ob : Option Nat} (j : Nat) (u v : World) (h : w5.grownBy u ob) (k : arR ob j u v) : w5.grownBy v ob := by
  unfold arR at k
  split at k
  · exact h.trans k
  · exact h.trans (k.grown ob)
theorem grownBy_block {u v : World} {ob : Option Nat} (h : u.grownBy v ob) {k : Nat} {o : Obj} (ho : u.heap[k]? = some o) (hne : some k ≠ ob) : v.heap[k]? = some o := by
  rw [h.block k (lt_of_block ho) hne]; exact ho
theorem ar_stab {n5 n : Nat} {ob : Option Nat} {z : Value} {xs : List Value} (hob : ∀ g, ob = some g → g < n5) (i j : Nat) (p : Value → World → Prop) (hij : i ≠ j) (hp : psAt (arPreds n5 n ob z xs) i = some p)
    (v : Value) (u u' : World) (hv : p v u) (hR : arR ob j u u') : p v u' := by
  unfold arPreds psAt at hp
  split at hp
  · cases hp
    obtain ⟨g, e, hg, hn⟩ := hv
    refine ⟨g, e, ?_, hn⟩
    unfold arR at hR
    split at hR
    · exact grownBy_block hR hg (fun e => by have := hob g e.symm; omega)
    · exact Ext.block hR hg
  unfold psAt at hp
  split at hp
  · rename_i hi
    cases hp
    subst hi
    unfold arR at hR
    rw [if_neg (Ne.symm hij)] at hR
    exact ⟨hv.1.mono hR, hv.2⟩
  cases hp
/-- One operation of this region whose value is a function of what it waits for. -/
theorem ar_fun {n5 n : Nat} {ob : Option Nat} {z : Value} {xs : List Value} {w5 : World} {ops : Array Oper} {tail : Act → World → Prop} {k : Nat} {o : Oper} {rest : List Oper} {af : (Nat → Value) → Act} {v : Value} (hk : k < 17)
    (h1 : ∀ x w', w5.grownBy w' ob → if Region.wanted o (yielded ops (af x).tmps) then gives Fence.wide 0 Try.prog Ext o (af x) w' (fun u _ => u = v) else undef = v)
    (h2 : lexOk Fence.wide 0 Try.prog ops (arR ob) (arC w5 ob) (fun u => w5.grownBy u ob) (arPreds n5 n ob z xs) tail (k + 1) rest (fun x => (af x).put o.dst v)) :
    lexOk Fence.wide 0 Try.prog ops (arR ob) (arC w5 ob) (fun u => w5.grownBy u ob) (arPreds n5 n ob z xs) tail k (o :: rest) af := by
  have e1 : psAt (arPreds n5 n ob z xs) k = none := by
    unfold arPreds psAt; rw [if_neg (by omega)]; unfold psAt; rw [if_neg (by omega)]; rfl
  have e2 : arR ob k = Ext := by funext u v; unfold arR; rw [if_neg (by omega)]
  have e3 : arC w5 ob k = fun u => w5.grownBy u ob := by funext u; unfold arC; rw [if_neg (by omega)]
  refine lex_fun e1 (fun x w' hC _ => ?_) h2
  rw [e2]; rw [e3] at hC
  exact h1 x w' hC

theorem Row.lt {w : World} {T : TypeId} {sz : Nat} {v : Value} {n : Nat} {xs : List Value} (h : Row w T sz v n xs) {g : Nat} (hg : v.ownBlock = some g) : g < w.heap.size := by
  obtain ⟨_, h⟩ := h
  rcases h with ⟨rfl, _⟩ | ⟨g', cap, cur, rfl, hb, _⟩
  · simp [Value.ownBlock] at hg
  · simp [Value.ownBlock] at hg; subst hg; exact lt_of_block hb

/-- The next row, and what is appended to the old one. -/
theorem ar_row {n5 n : Nat} {ob : Option Nat} {z : Value} {xs : List Value} {w5 : World} {ops : Array Oper} {tail : Act → World → Prop} {o : Oper} {rest : List Oper} {af : (Nat → Value) → Act}
    (h1 : ∀ x w', w5.grownBy w' ob → if Region.wanted o (yielded ops (af x).tmps) then gives Fence.wide 0 Try.prog Ext o (af x) w' (arRow n5 z) else arRow n5 z undef w')
    (h2 : lexOk Fence.wide 0 Try.prog ops (arR ob) (arC w5 ob) (fun u => w5.grownBy u ob) (arPreds n5 n ob z xs) tail 18 rest (fun x => (af x).put o.dst (x 17))) :
    lexOk Fence.wide 0 Try.prog ops (arR ob) (arC w5 ob) (fun u => w5.grownBy u ob) (arPreds n5 n ob z xs) tail 17 (o :: rest) af := by
  have e2 : arR ob 17 = Ext := by funext u v; unfold arR; rw [if_neg (by omega)]
  have e3 : arC w5 ob 17 = fun u => w5.grownBy u ob := by funext u; unfold arC; rw [if_neg (by omega)]
  refine lex_pred (p := arRow n5 z) rfl (fun x w' hC _ => ?_) h2
  rw [e2]; rw [e3] at hC
  exact h1 x w' hC
theorem ar_new {n5 n : Nat} {ob : Option Nat} {z : Value} {xs : List Value} {w5 : World} {ops : Array Oper} {tail : Act → World → Prop} {o : Oper} {rest : List Oper} {af : (Nat → Value) → Act}
    (h1 : ∀ x w', Ext w5 w' → factsL (arPreds n5 n ob z xs) x w' o.after.toList → if Region.wanted o (yielded ops (af x).tmps) then gives Fence.wide 0 Try.prog (fun u v => u.grownBy v ob) o (af x) w' (arNew n5 n ob xs) else arNew n5 n ob xs undef w')
    (h2 : lexOk Fence.wide 0 Try.prog ops (arR ob) (arC w5 ob) (fun u => w5.grownBy u ob) (arPreds n5 n ob z xs) tail 19 rest (fun x => (af x).put o.dst (x 18))) :
    lexOk Fence.wide 0 Try.prog ops (arR ob) (arC w5 ob) (fun u => w5.grownBy u ob) (arPreds n5 n ob z xs) tail 18 (o :: rest) af := by
  have e2 : arR ob 18 = fun u v => u.grownBy v ob := by funext u v; unfold arR; rw [if_pos rfl]
  have e3 : arC w5 ob 18 = Ext w5 := by funext u; unfold arC; rw [if_pos rfl]
  refine lex_pred (p := arNew n5 n ob xs) rfl (fun x w' hC hf => ?_) h2
  rw [e2]; rw [e3] at hC
  exact h1 x w' hC hf
theorem gives_append {F : Fence} {n : Nat} {P : Program} {R : World → World → Prop} {o : Oper} {a : Act} {w w' : World} {V : Value → World → Prop} {v xv v' : Value} (s x : Operand) (t : TypeId)
    (ho : o.op = .call { callee := .builtin .append, args := #[s, x], argTypes := #[t, t] }) (hs : a.eval s = v) (hx : a.eval x = xv)
    (hr : (Builtin.append_ #[t, t] o.type #[v, xv]).run P w = .ok v' w') (h : V v' w' ∧ R w w') : gives F n P R o a w V := by
  unfold gives
  rw [Oper.semAt_eq _ _ _ (by rw [ho]; intro c h; cases h)]
  unfold execOp
  simp only [ho, resolve, invoke, builtin, Sem.run_bind, Sem.run_pure, Result.andThen_ok, List.map_toArray, List.map_cons, List.map_nil, hs, hx, hr]
  exact h
theorem ofHour_snoc (rs : List Rep) (r : Rep) (h : Nat) : ofHour (rs ++ [r]) h = ofHour rs h ++ (if r.hour == (h : Int) then [r] else []) := by
  unfold ofHour; rw [List.filter_append]; congr 1; simp [List.filter_cons]
theorem AskedPart.step {wr u : World} {n0 ba hrs h : Nat} {S : SeaV} {rs : List Rep} {r : Rep} {vs : List Value} (hvl : vs.length = hrs) (hvb : wr.heap[ba]? = some (.cells vs.toArray 116 (0, 0)))
    (hvr : ∀ h (hh : h < vs.length), Row wr 117 1 vs[h] (ofHour rs h).length ((ofHour rs h).map (askVal S)))
    (hvo : ∀ h (hh : h < vs.length) k, vs[h].ownBlock = some k → n0 ≤ k)
    (hvd : ∀ h h' (hh : h < vs.length) (hh' : h' < vs.length) k, h ≠ h' → vs[h].ownBlock = some k → vs[h'].ownBlock ≠ some k)
    (hh : h < vs.length) (hba : ba < n0) (hn0 : n0 ≤ wr.heap.size) (hg : wr.grownBy u vs[h].ownBlock) {v' : Value}
    (hrow : Row u 117 1 v' ((ofHour rs h).length + 1) ((ofHour rs h).map (askVal S) ++ [askVal S r])) (hown : v'.ownBlock = vs[h].ownBlock ∨ ∃ k, v'.ownBlock = some k ∧ wr.heap.size ≤ k) (hr : r.hour = h) :
    AskedPart (u.setCell ⟨ba, h, none⟩ v') n0 ba hrs S (rs ++ [r]) := by
  have hrl : ∀ h' (hh' : h' < vs.length) k, vs[h'].ownBlock = some k → k < wr.heap.size := fun h' hh' k hk => (hvr h' hh').lt hk
  have hset : ∀ {v : Value} {n : Nat} {xs : List Value}, Row u 117 1 v n xs → (∀ k, v.ownBlock = some k → n0 ≤ k) → Row (u.setCell ⟨ba, h, none⟩ v') 117 1 v n xs := fun hR hk =>
    hR.kept fun k o hk' ho => by rw [Below.heap_setCell _ _ _ _ (show k ≠ ba by have := hk k hk'; omega)]; exact ho
  have hown' : ∀ k, v'.ownBlock = some k → n0 ≤ k := fun k hk => by
    rcases hown with e | ⟨k', e, hk'⟩
    · exact hvo h hh k (by rw [← e]; exact hk)
    · rw [hk] at e; cases e; omega
  refine ⟨vs.set h v', by simpa using hvl, ?_, ?_, ?_, ?_⟩
  · rw [heap_setCell_same _ _ _ _ _ _ (grownBy_block hg hvb (fun e => by have := hvo h hh ba e.symm; omega))]
    simp
  · intro h' hh'
    have hh2 : h' < vs.length := by simpa using hh'
    rw [ofHour_snoc]
    by_cases he : h = h'
    · subst he
      have hb : (r.hour == (h : Int)) = true := by simp [hr]
      rw [hb]
      simp only [List.getElem_set_self, if_true, List.length_append, List.map_append, List.length_cons, List.length_nil, List.map_cons, List.map_nil, Nat.zero_add]
      exact hset hrow hown'
    · have hb : (r.hour == (h' : Int)) = false := by rw [hr]; exact beq_eq_false_iff_ne.2 (by omega)
      rw [hb]
      simp only [List.getElem_set_ne he, Bool.false_eq_true, if_false, List.append_nil]
      refine hset ((hvr h' hh2).kept fun k o hk ho => grownBy_block hg ho fun e => ?_) (hvo h' hh2)
      exact hvd h' h hh2 hh k (Ne.symm he) hk e.symm
  · intro h' hh' k hk
    have hh2 : h' < vs.length := by simpa using hh'
    by_cases he : h = h'
    · subst he; rw [List.getElem_set_self] at hk; exact hown' k hk
    · rw [List.getElem_set_ne he] at hk; exact hvo h' hh2 k hk
  · have key : ∀ h' (hh' : h' < vs.length) k, h ≠ h' → v'.ownBlock = some k → vs[h'].ownBlock ≠ some k := fun h' hh' k hne hk hk' => by
      rcases hown with e | ⟨k', e, hge⟩
      · exact hvd h h' hh hh' k hne (by rw [← e]; exact hk) hk'
      · rw [hk] at e; cases e; have := hrl h' hh' k hk'; omega
    intro h1 h2 hh1 hh2 k hne hk
    have l1 : h1 < vs.length := by simpa using hh1
    have l2 : h2 < vs.length := by simpa using hh2
    by_cases he : h = h1
    · subst he; rw [List.getElem_set_self] at hk
      rw [List.getElem_set_ne hne]; exact key h2 l2 k hne hk
    · rw [List.getElem_set_ne he] at hk
      by_cases he2 : h = h2
      · subst he2; rw [List.getElem_set_self]; exact fun hk' => key h1 l1 k he hk' hk
      · rw [List.getElem_set_ne he2]; exact hvd h1 h2 l1 l2 k hne hk
theorem Row.slice {w : World} {T : TypeId} {sz : Nat} {v : Value} {n : Nat} {xs : List Value} (h : Row w T sz v n xs) : ∃ sb sl sc, v = .slice sb sl sc := by
  obtain ⟨_, h⟩ := h
  rcases h with ⟨rfl, _⟩ | ⟨g', cap, cur, rfl, _⟩
  · exact ⟨_, _, _, rfl⟩
  · exact ⟨_, _, _, rfl⟩
theorem below_put {n bm : Nat} {w W : World} (h : Below n w W) (hb : n ≤ bm) (o : Obj) : Below n w (W.putObj bm o) :=
  ⟨h.os, h.tape, h.output, by simpa using h.size, fun k hk => by rw [World.putObj_heap_other (by omega)]; exact h.block k hk⟩

set_option maxRecDepth 100000 in
set_option maxHeartbeats 2000000 in
theorem newSea_any (D : SeaD) (lv dv rv : Value) (rs : List Rep) (w : World) (hl : IntsAt w lv D.land) (hd : StepsAt w dv D.drift) (hr : RepsAt w rv rs) (hb : seaB D = true) :
    Cal 47 #[seaVal D lv dv, rv] w fun e w' => Ext w w' ∧ NewSea D lv dv rs e w' := by
  refine callsIn_of_wp_marks Try.func47 rfl trivial ?_
  simp only [seaVal, Try.ntmps47, List.size_toArray, List.length_cons, List.length_nil, Nat.reduceAdd, Nat.reduceSub, Array.replicate_succ, Array.replicate_zero, List.push_toArray, List.append_toArray, List.nil_append, List.cons_append]
  have hx := (Ext.refl w).alloc (.cells #[.int .i64 D.wide, .int .i64 D.high, lv, .int .i64 D.hours, dv, .int .i64 D.speed] 25)
  have HA := hid (isSea_any D lv dv _ (hl.mono hx) (hd.mono hx))
  rw [hb, seaVal] at HA
  have HH : 1 ≤ D.hours ∧ D.hours ≤ 12 := by
    unfold seaB at hb; simp only [Bool.and_eq_true] at hb; exact inB_spec hb.1.1.2
  have HOK : Hid (∀ cm asked, (nsSea D lv dv cm asked).Ok) := fun cm asked => by
    unfold seaB at hb; simp only [Bool.and_eq_true] at hb
    exact ⟨inB_spec hb.1.1.1.1.1, inB_spec hb.1.1.1.1.2, inB_spec hb.1.1.2, inB_spec hb.1.1.1.2⟩
  have HL := hid hl
  have HD := hid hd
  have HR := hid hr
  clear hl hd hx hb hr
  obtain ⟨hrs, hhrs⟩ : ∃ hrs : Nat, Hid (D.hours = hrs) := ⟨D.hours.toNat, by show D.hours = _; omega⟩
  gi_wp2_with (gi_at_call 55; refine HA.out.mono ?_; rintro e w1 ⟨rfl, hx1⟩)
  clear HA
  have hb1 := Ext.new hx1
  have hbel := Ext.after hx1
  refine lex_wide 8 (nsPreds D lv dv w.heap.size hrs) (by kernel_rfl) (by kernel_rfl) (nsPreds_stab _ _ _ _ _) ?_
  simp only [List.take_succ_cons, List.take_zero, List.drop_succ_cons, List.drop_zero]
  -- 0: load
  apply lex_fun rfl
  · intro x w' hR hf
    have hc := cell_of (hR.block hb1)
    go_simp
    exact ⟨rfl, Ext.refl _⟩
  -- 1: makeMap
  refine lex_pred rfl ?_ ?_
  · intro x w' hR hf
    simp only [Act.put, List.setIfInBounds_toArray, List.set_cons_succ, List.set_cons_zero]
    have hmm := @run_makeMap Try.prog
    go_simp
    exact ⟨⟨_, rfl, ⟨_, _, Ext.new (Ext.refl _), rfl⟩, Nat.le_trans hbel.size hR.size⟩, (Ext.refl _).alloc _⟩
  -- 2: fieldAddr
  apply lex_fun rfl
  · intro x w' hR hf
    simp only [Act.put, List.setIfInBounds_toArray, List.set_cons_succ, List.set_cons_zero]
    go_simp
    exact ⟨rfl, Ext.refl _⟩
  -- 3: load
  apply lex_fun rfl
  · intro x w' hR hf
    have hc := cell_of (hR.block hb1)
    simp only [Act.put, List.setIfInBounds_toArray, List.set_cons_succ, List.set_cons_zero]
    go_simp
    exact ⟨rfl, Ext.refl _⟩
  -- 4: makeSlice
  refine lex_pred rfl ?_ ?_
  · intro x w' hR hf
    have hms := make_rows w' D.hours hrs hhrs.out (by have := hhrs.out; omega)
    simp only [Act.put, List.setIfInBounds_toArray, List.set_cons_succ, List.set_cons_zero]
    go_simp
    exact ⟨⟨_, rfl, Ext.new (Ext.refl _), Nat.le_trans hbel.size hR.size⟩, (Ext.refl _).alloc _⟩
  -- 5: build
  refine lex_pred rfl ?_ ?_
  · intro x w' hR hf
    have h1 : nsMap w.heap.size (x 1) w' := hf.2.1 rfl
    have h4 : nsRow w.heap.size hrs (x 4) w' := hf.2.2.1 rfl
    clear hf
    obtain ⟨bm, e1, h1⟩ := h1
    obtain ⟨ba, e4, h4⟩ := h4
    have H1 := hid h1
    have H4 := hid h4
    clear h1 h4
    simp only [Act.put, List.setIfInBounds_toArray, List.set_cons_succ, List.set_cons_zero, e1, e4]
    clear e1 e4
    go_simp
    exact ⟨⟨_, _, ⟨bm, rfl, H1.out⟩, ⟨ba, rfl, H4.out⟩, rfl⟩, Ext.refl _⟩
  -- 6: box
  refine lex_pred rfl ?_ ?_
  · intro x w' hR hf
    have h5 : nsAgg D lv dv w.heap.size hrs (x 5) w' := hf.1 rfl
    clear hf
    obtain ⟨cm, asked, h1, h4, e5⟩ := h5
    have H1 := hid h1
    have H4 := hid h4
    clear h1 h4
    simp only [Act.put, List.setIfInBounds_toArray, List.set_cons_succ, List.set_cons_zero, e5]
    clear e5
    go_simp
    have hxx : Ext w' (w'.alloc (.cells #[.int .i64 D.wide, .int .i64 D.high, lv, .int .i64 D.hours, dv, .int .i64 D.speed, cm, asked] 113)) := (Ext.refl _).alloc _
    exact ⟨⟨_, cm, asked, H1.out.mono hxx, H4.out.mono hxx, rfl, Ext.new (Ext.refl _), Nat.le_trans hbel.size hR.size⟩, hxx⟩
  -- 7: alloc
  refine lex_pred rfl ?_ ?_
  · intro x w' hR hf
    simp only [Act.put, List.setIfInBounds_toArray, List.set_cons_succ, List.set_cons_zero]
    go_simp
    exact ⟨⟨_, rfl, Ext.new (Ext.refl _), Nat.le_trans hbel.size hR.size⟩, (Ext.refl _).alloc _⟩
  refine lex_nil fun x w2 hR hfacts => ?_
  have h6 : nsPtr D lv dv w.heap.size hrs (x 6) w2 := hfacts 6 _ (by omega) rfl
  have h7 : nsVar w.heap.size (x 7) w2 := hfacts 7 _ (by omega) rfl
  clear hfacts
  obtain ⟨b, cm, asked, hcm, hasked, e6, hs, hnb⟩ := h6
  obtain ⟨bw, e7, hbw, hnw⟩ := h7
  simp only [Act.put, List.setIfInBounds_toArray, List.set_cons_succ, List.set_cons_zero, e6, e7]
  generalize x 1 = v1
  generalize x 4 = v4
  generalize x 5 = v5
  clear e6 e7
  have hne : b ≠ bw := fun e => by subst e; unfold SeaAt at hs; rw [hbw] at hs; simp at hs
  have hs2 : SeaAt (w2.setCell ⟨bw, 0, none⟩ (.pointer (some ⟨b, 0, none⟩))) b (nsSea D lv dv cm asked) := by
    unfold SeaAt; rw [Below.heap_setCell _ _ _ _ hne]; exact hs
  have hb2 : Below w.heap.size w (w2.setCell ⟨bw, 0, none⟩ (.pointer (some ⟨b, 0, none⟩))) := (hbel.trans hR).set hnw _ _
  have hbw2 := one_setCell (u := .pointer (some ⟨b, 0, none⟩)) hbw
  have hc := cell_of hbw
  have hc2 := cell_of hbw2
  have hf := free_of hbw
  have hok : (nsSea D lv dv cm asked).Ok := HOK.out cm asked
  have HAR := hid (areReports_any b (nsSea D lv dv cm asked) hok rv rs _ hs2 (HR.out.mono hb2))
  simp only [nsSea] at HAR
  have HF := hid (And.intro hcm (And.intro hasked (And.intro hs hb2)))
  cases hrb : repsB D.hours (D.wide * D.high) rs with
  | false =>
    rw [hrb] at HAR
    have HRB := hid hrb
    clear hs hs2 hbw hbw2 hb2 hR hx1 hb1 hbel hcm hasked hok hrb
    gi_wp2_with (gi_at_call 75; refine HAR.out.mono ?_; rintro e w3 ⟨rfl, hx3⟩)
    refine ⟨_, results_tmp2 rfl _ _ _, HF.out.2.2.2.trans (hx3.mono (by have := HF.out.2.2.2.size; exact this)), ?_⟩
    exact NewSea.reps HRB.out
  | true =>
    rw [hrb] at HAR
    have HRB := hid hrb
    obtain ⟨bm, rfl, hm3, hnm⟩ := hcm
    obtain ⟨ba, rfl, hr3, hna⟩ := hasked
    have hmw : bm ≠ bw := fun e => by subst e; obtain ⟨es, c, h1, _⟩ := hm3; rw [hbw] at h1; cases h1
    have haw : ba ≠ bw := fun e => by subst e; rw [hbw] at hr3; simp at hr3
    have hm4 : MapBlk (w2.setCell ⟨bw, 0, none⟩ (.pointer (some ⟨b, 0, none⟩))) bm [] := hm3.kept fun o ho => by rw [Below.heap_setCell _ _ _ _ hmw]; exact ho
    have hr4 : (w2.setCell ⟨bw, 0, none⟩ (.pointer (some ⟨b, 0, none⟩))).heap[ba]? = some (.cells (madeCells #[.slice none 0 0] hrs) 116 (0, 0)) := by rw [Below.heap_setCell _ _ _ _ haw]; exact hr3
    have hmb : bm ≠ b := fun e => by subst e; obtain ⟨es, c, h1, _⟩ := hm3; unfold SeaAt at hs; rw [hs] at h1; cases h1
    have hab : ba ≠ b := fun e => by subst e; unfold SeaAt at hs; rw [hs] at hr3; simp at hr3
    have ham : ba ≠ bm := fun e => by subst e; obtain ⟨es, c, h1, _⟩ := hm3; rw [hr3] at h1; cases h1
    obtain ⟨S, hSe⟩ : ∃ S, S = nsSea D lv dv (.map (some bm)) (.slice (some ⟨ba, 0, none⟩) hrs hrs) := ⟨_, rfl⟩
    have hG := hid (And.intro hm4 (And.intro hr4 (And.intro hs2 (And.intro hb2 hbw2))))
    have HOS : Hid S.Ok := by rw [hSe]; exact hok
    rw [← hSe] at hG
    have HSE := hid hSe
    have HD1 := hid (And.intro hmw (And.intro haw (And.intro hmb (And.intro hab (And.intro ham hne)))))
    clear hs hs2 hbw hbw2 hb2 hR hx1 hb1 hbel hok hrb hm3 hr3 hm4 hr4 hSe hmw haw hmb hab ham hne HF
    gi_wp2_with (gi_at_call 75; refine HAR.out.mono ?_; rintro e w3 ⟨rfl, hx3⟩; have hc3 := cell_of (hx3.block hG.out.2.2.2.2))
    obtain ⟨hm, hrw, hs, hb, hbw⟩ := hG.out
    replace hm := hm.kept fun o ho => hx3.block ho
    replace hrw := hx3.block hrw
    replace hs := hs.mono hx3
    replace hb := hb.trans (hx3.mono hb.size)
    replace hbw := hx3.block hbw
    clear hG hx3 HAR hc2 hf
    have hlm := lt_of_block hm.choose_spec.choose_spec.1
    have hla := lt_of_block hrw
    have hlb := lt_of_block hs
    have hlw := lt_of_block hbw
    refine range_boxed rfl (enters_of Try.func76 (by kernel_rfl) rfl) (open_iter b S HOS.out D.land)
      (fun i W => Below w.heap.size w W ∧ SeaAt W b S ∧ W.heap[bw]? = some (.cells #[.pointer (some ⟨b, 0, none⟩)] 75 (0, 0)) ∧ W.heap[ba]? = some (.cells (madeCells #[.slice none 0 0] hrs) 116 (0, 0)) ∧ MapBlk W bm ((seaMap S D.land).take i))
      (fun _ _ _ => False)
      (fun i W W' h hp => ⟨hp.below h.1 hb.size (Nat.le_refl _), hp.block _ _ hlb h.2.1, hp.block _ _ hlw h.2.2.1, hp.block _ _ hla h.2.2.2.1, h.2.2.2.2.kept fun o ho => hp.block _ _ hlm ho⟩)
      (fun c i W W' h hp => h) (fun i W h => ⟨h.2.1, by have := HL.out.mono h.1; rw [HSE.out]; exact this⟩) (fun i h => by simp [openElems, cellElem]) ⟨hb, hs, hbw, hrw, by simpa using hm⟩
      (fun i Bx => { tmps := #[.agg #[.int .i64 D.wide, .int .i64 D.high, lv, .int .i64 D.hours, dv, .int .i64 D.speed], rv, .pointer (some ⟨w.heap.size, 0, none⟩), undef, .pointer none, .int .i64 0, .pointer (some ⟨bw, 0, none⟩), .int .i64 ((opens D.land (S.wide * S.high).toNat).getD i 0 : Nat), .pointer (some ⟨Bx, 0, none⟩), undef, undef,
        .agg #[.int .i64 D.wide, .int .i64 D.high, lv, .int .i64 D.hours, dv, .int .i64 D.speed], .bool true, .bool false,
        .agg #[.int .i64 D.wide, .int .i64 D.high, lv, .int .i64 D.hours, dv, .int .i64 D.speed], v1, .pointer (some ⟨w.heap.size, 3, none⟩), .int .i64 D.hours, v4, v5, .pointer (some ⟨b, 0, none⟩), .pointer (some ⟨b, 0, none⟩), rv, .bool true, .bool false, .pointer (some ⟨b, 0, none⟩),
        .func (.func 76) #[.pointer (some ⟨b, 0, none⟩)] #[], .int .i64 ((opens D.land (S.wide * S.high).toNat).getD i 0 : Nat), .agg #[.int .i64 (col S ((opens D.land (S.wide * S.high).toNat).getD i 0 : Nat)), .int .i64 (row S ((opens D.land (S.wide * S.high).toNat).getD i 0 : Nat))],
        undef, undef, undef, undef, undef, undef, undef, undef, undef, undef, undef, undef, undef, undef, undef, undef, undef, undef, undef, undef, undef, undef, undef, undef, undef, undef, undef, undef, undef, undef, undef, undef, undef, undef], defers := [] })
      (fun i => #[.int .i64 (col S ((opens D.land (S.wide * S.high).toNat).getD i 0 : Nat)), .int .i64 (row S ((opens D.land (S.wide * S.high).toNat).getD i 0 : Nat))]) 81 ?assign ?body ?done ?stop
    case assign =>
      intro l i h W K' hK
      have he : (openElems S D.land)[i] = #[.int .i64 ((opens D.land (S.wide * S.high).toNat).getD i 0 : Nat), .agg #[.int .i64 (col S ((opens D.land (S.wide * S.high).toNat).getD i 0 : Nat)), .int .i64 (row S ((opens D.land (S.wide * S.high).toNat).getD i 0 : Nat))]] := by
        have h' : i < (opens D.land (S.wide * S.high).toNat).length := by simpa [openElems] using h
        simp only [openElems, List.getElem_map, getD_of h']; rfl
      rw [he]
      generalize (opens D.land (S.wide * S.high).toNat).getD i 0 = p at *
      clear he hc3 hc hm hrw hs hb hbw hlm
      gi_wp2
      exact hK
    case body =>
      rintro l i Bx W hi hl hr ⟨hbW, hsW, hwW, haW, hmW⟩ hBx hbx
      have hi' : i < (opens D.land (S.wide * S.high).toNat).length := by simpa [openElems] using hi
      have hno := seaMap_new hi'
      have htk := seaMap_take hi'
      rw [← getD_of (d := 0) hi'] at hno htk
      dsimp only
      generalize (opens D.land (S.wide * S.high).toNat).getD i 0 = c at *
      have HT := hid (And.intro hno htk)
      have hcm : S.cm = .map (some bm) := by rw [HSE.out]; rfl
      have HC := hid fun e : Later W => And.intro (cell_of (Ext.block e.grown hwW)) (cell_of (Ext.block e.grown hbx))
      have HS := hid fun e : Later W => (hsW.mono e.grown).cells.2.2.2.2.2.2.1
      have HF := hid (And.intro hbW (And.intro hsW (And.intro hwW (And.intro haW hmW))))
      clear hno htk hbW hsW hwW haW hmW hc3 hc hm hrw hs hbw
      gi_wp2_with fail
      refine quiet_round 6 (by kernel_rfl) (by kernel_rfl) ?_
      simp only [List.take_succ_cons, List.take_zero, List.drop_succ_cons, List.drop_zero]
      have h1 := HC.out
      have h2 := HS.out
      rw [hcm] at h2
      repeat (any_goals (first | go_big_quiet_step (fail) | quiet_step (fail)))
      refine wpQuiet_nil ?_
      rintro w4 ⟨⟨_, hx4⟩, rfl⟩
      obtain ⟨o, hrun, hm2⟩ := run_update_place (HF.out.2.2.2.2.kept fun o ho => Ext.block hx4 ho) (col S c, row S c) c HT.out.1
      have HM := hid hm2
      have HHr := hid hbx
      unfold plcV at hrun
      clear h1 h2 HC HS hm2 hbx hr hcm
      gi_wp2
      have hbW4 : Below w.heap.size w w4 := HF.out.1.trans (Below.mono hx4 HF.out.1.size)
      refine ⟨(KeepsFrom.mk hx4.size fun k o' _ ho _ => Ext.block hx4 ho).trans (keeps_put _ _ hlm), below_put hbW4 hnm _, ?_, ?_, ?_, ?_⟩
      · unfold SeaAt; rw [World.putObj_heap_other (Ne.symm HD1.out.2.2.1)]; exact Ext.block hx4 HF.out.2.1
      · rw [World.putObj_heap_other (Ne.symm HD1.out.1)]; exact Ext.block hx4 HF.out.2.2.1
      · rw [World.putObj_heap_other HD1.out.2.2.2.2.1]; exact Ext.block hx4 HF.out.2.2.2.1
      · rw [HT.out.2]; exact HM.out
    case done =>
      rintro K W hK ⟨hbW, hsW, hwW, haW, hmW⟩ hKb
      have hfull : (seaMap S D.land).take (openElems S D.land).length = seaMap S D.land := List.take_of_length_le (by simp [seaMap, openElems])
      rw [hfull] at hmW
      have HF := hid (And.intro hbW (And.intro hsW (And.intro hwW (And.intro haW (And.intro hmW hKb)))))
      clear hbW hsW hwW haW hmW hKb hc3 hc hm hrw hs hbw hfull
      obtain ⟨ra, rcap, rfl, hrl, hrg⟩ := HR.out
      clear hrg
      gi_wp2_with fail
      have hA0 : AskedPart W W.heap.size ba hrs S (rs.take 0) := by
        refine ⟨List.replicate hrs (.slice none 0 0), by simp, ?_, ?_, ?_, ?_⟩
        · rw [HF.out.2.2.2.1]; congr 2; exact madeCells_nil hrs
        · intro h hh; rw [List.getElem_replicate]; simpa [ofHour] using Row.nil W 117 1
        · intro h hh k hk; rw [List.getElem_replicate] at hk; simp [Value.ownBlock] at hk
        · intro h h' hh hh' k _ hk; rw [List.getElem_replicate] at hk; simp [Value.ownBlock] at hk
      gi_loopw [37] (fun i wr => ∃ k : Nat, k ≤ rs.length ∧ i = .int .i64 k ∧ W.heap.size ≤ wr.heap.size ∧ Hid (Below w.heap.size w wr ∧ SeaAt wr b S ∧ wr.heap[bw]? = some (.cells #[.pointer (some ⟨b, 0, none⟩)] 75 (0, 0)) ∧
        AskedPart wr W.heap.size ba hrs S (rs.take k) ∧ MapBlk wr bm (seaMap S D.land) ∧ wr.heap[K]? = some (.deferred (some [])))) (fun i _ => rs.length - (intOf i).toNat)
      case atStart => exact ⟨0, Nat.zero_le _, rfl, Nat.le_refl _, HF.out.1, HF.out.2.1, HF.out.2.2.1, hA0, HF.out.2.2.2.2.1, HF.out.2.2.2.2.2⟩
      case round =>
        have hlK := lt_of_block HF.out.2.2.2.2.2
        have hlb' := lt_of_block HF.out.2.1
        have hlw' := lt_of_block HF.out.2.2.1
        have hlm' := lt_of_block HF.out.2.2.2.2.1.choose_spec.choose_spec.1
        have hla' := lt_of_block HF.out.2.2.2.1
        clear HF hA0
        obtain ⟨k, hk, rfl, hwr, hI⟩ := hrel
        by_cases hlt : k < rs.length
        · have hRw := HR.out.mono hI.out.1
          obtain ⟨a', cap', hv, _, hcc⟩ := hRw
          cases hv
          obtain ⟨br, roff, rfl, hbr, hc0, hc1, hc2, hc3⟩ := hcc k hlt
          clear hcc hbr
          have hgood : repGood D.hours (D.wide * D.high) rs k = true := by
            have := HRB.out; unfold repsB at this; rw [Bool.and_eq_true] at this
            exact List.all_eq_true.1 this.2 k (List.mem_range.2 hlt)
          have h24 : rs.length ≤ 24 := by
            have := HRB.out; unfold repsB at this; rw [Bool.and_eq_true] at this; exact of_decide_eq_true this.1
          have htk : rs.take (k + 1) = rs.take k ++ [rs[k]] := List.take_succ_eq_append_getElem hlt
          rw [repGood_eq hlt] at hgood
          generalize rs[k] = r at *
          obtain ⟨hour, cell, far, there⟩ := r
          simp only [Bool.and_eq_true] at hgood hc0 hc1 hc2 hc3
          have g1 := inB_spec hgood.1.1
          have g2 := inB_spec hgood.1.2
          obtain ⟨h, rfl⟩ : ∃ h : Nat, hour = h := ⟨hour.toNat, by omega⟩
          have hhr : h < hrs := by have := hhrs.out; omega
          have HT := hid (And.intro htk (And.intro g1 g2))
          clear hgood g1 g2 htk
          gi_wp2_with fail
          have hx5 : Ext wr (wr.alloc (.cells #[.int .i64 h, .int .i64 cell, .int .i64 far, .bool there] 52)) := (Ext.refl _).alloc _
          have hnew : (wr.alloc (.cells #[.int .i64 h, .int .i64 cell, .int .i64 far, .bool there] 52)).heap[wr.heap.size]? = some (.cells #[.int .i64 h, .int .i64 cell, .int .i64 far, .bool there] 52 (0, 0)) := Ext.new (Ext.refl _)
          generalize wr.alloc (.cells #[.int .i64 h, .int .i64 cell, .int .i64 far, .bool there] 52) = w5 at hx5 hnew ⊢
          obtain ⟨hbI, hsI, hwI, ⟨vs, hvl, hvb, hvr, hvo, hvd⟩, hmI, hKI⟩ := hI.out
          have hh : h < vs.length := by omega
          have hrow := hvr h hh
          have hown := hvo h hh
          obtain ⟨v, hve⟩ : ∃ v, vs[h] = v := ⟨_, rfl⟩
          rw [hve] at hrow hown
          have hobl : ∀ g, v.ownBlock = some g → g < wr.heap.size := fun g hg => hrow.lt hg
          have HG : Hid (∀ u, w5.grownBy u v.ownBlock → SeaAt u b S ∧ u.heap[bw]? = some (.cells #[.pointer (some ⟨b, 0, none⟩)] 75 (0, 0)) ∧ u.cell? ⟨ba, h, none⟩ = some v ∧
              u.heap[wr.heap.size]? = some (.cells #[.int .i64 h, .int .i64 cell, .int .i64 far, .bool there] 52 (0, 0))) := fun u hu => by
            have old : ∀ k o, k < W.heap.size → wr.heap[k]? = some o → u.heap[k]? = some o := fun k o hk ho =>
              grownBy_block hu (hx5.block ho) (fun e => by have := hown k e.symm; omega)
            refine ⟨old b _ hlb' hsI, old bw _ hlw' hwI, ?_, grownBy_block hu hnew (fun e => by have := hobl _ e.symm; omega)⟩
            rw [cell_of (old ba _ hla' hvb)]
            simp [hve, hh]
          have HI2 := hid (And.intro hrow (And.intro hown (And.intro hobl hve)))
          have hsz := lt_of_block hnew
          have hask : S.asked = .slice (some ⟨ba, 0, none⟩) hrs hrs := by rw [HSE.out]; rfl
          have HA := hid hask
          have HRR : Hid ((ofHour rs h).length = (ofHour rs h).length) := rfl
          have HV := hid (And.intro hbI (And.intro hsI (And.intro hwI (And.intro hvb (And.intro hvr (And.intro hvo (And.intro hvd (And.intro hmI hKI))))))))
          clear hnew hbI hsI hwI hvb hvr hvo hvd hmI hKI hrow hown hobl hve hI
          refine lex_own 19 (arPreds w5.heap.size ((ofHour (rs.take k) h).length + 1) v.ownBlock (askVal S ⟨h, cell, far, there⟩) ((ofHour (rs.take k) h).map (askVal S) ++ [askVal S ⟨h, cell, far, there⟩])) (arR v.ownBlock) (arC w5 v.ownBlock) (fun u => w5.grownBy u v.ownBlock) (by kernel_rfl) (by kernel_rfl)
            (fun i => ?_) ((Ext.drawn w5).grown _) arC_ok arE_ok (ar_stab fun g hg => by have := HI2.out.2.2.1 g hg; omega) ?_
          · unfold arC
            split
            · exact Ext.drawn w5
            · exact (Ext.drawn w5).grown _
          simp only [List.take_succ_cons, List.take_zero, List.drop_succ_cons, List.drop_zero]
          -- 0
          apply ar_fun (by omega)
          · intro x u hR
            obtain ⟨q1, q2, q3, q4⟩ := HG.out u hR
            have c2 := cell_of q2
            have c4 := cell_of q4
            clear hR q2 q4
            go_simp
            exact ⟨rfl, Ext.refl _⟩
          simp only [Act.put, List.setIfInBounds_toArray, List.set_cons_succ, List.set_cons_zero]
          -- 1
          apply ar_fun (by omega)
          · intro x u hR
            obtain ⟨q1, q2, q3, q4⟩ := HG.out u hR
            have c2 := cell_of q2
            have c4 := cell_of q4
            clear hR q2 q4
            go_simp
            exact ⟨rfl, Ext.refl _⟩
          simp only [Act.put, List.setIfInBounds_toArray, List.set_cons_succ, List.set_cons_zero]
          -- 2
          apply ar_fun (by omega)
          · intro x u hR
            obtain ⟨q1, q2, q3, q4⟩ := HG.out u hR
            have c2 := cell_of q2
            have c4 := cell_of q4
            clear hR q2 q4
            go_simp
            exact ⟨rfl, Ext.refl _⟩
          simp only [Act.put, List.setIfInBounds_toArray, List.set_cons_succ, List.set_cons_zero]
          -- 3
          apply ar_fun (by omega)
          · intro x u hR
            obtain ⟨q1, q2, q3, q4⟩ := HG.out u hR
            have c1 := q1.cells
            rw [HA.out] at c1
            have c2 := cell_of q2
            have c4 := cell_of q4
            clear hR q2 q4
            go_simp
            exact ⟨rfl, Ext.refl _⟩
          simp only [Act.put, List.setIfInBounds_toArray, List.set_cons_succ, List.set_cons_zero]
          -- 4
          apply ar_fun (by omega)
          · intro x u hR
            obtain ⟨q1, q2, q3, q4⟩ := HG.out u hR
            have c2 := cell_of q2
            have c4 := cell_of q4
            clear hR q2 q4
            go_simp
            exact ⟨rfl, Ext.refl _⟩
          simp only [Act.put, List.setIfInBounds_toArray, List.set_cons_succ, List.set_cons_zero]
          -- 5
          apply ar_fun (by omega)
          · intro x u hR
            obtain ⟨q1, q2, q3, q4⟩ := HG.out u hR
            have c2 := cell_of q2
            have c4 := cell_of q4
            clear hR q2 q4
            go_simp
            exact ⟨rfl, Ext.refl _⟩
          simp only [Act.put, List.setIfInBounds_toArray, List.set_cons_succ, List.set_cons_zero]
          -- 6
          apply ar_fun (by omega)
          · intro x u hR
            obtain ⟨q1, q2, q3, q4⟩ := HG.out u hR
            have c2 := cell_of q2
            have c4 := cell_of q4
            clear hR q2 q4
            go_simp
            exact ⟨rfl, Ext.refl _⟩
          simp only [Act.put, List.setIfInBounds_toArray, List.set_cons_succ, List.set_cons_zero]
          -- 7
          apply ar_fun (by omega)
          · intro x u hR
            obtain ⟨q1, q2, q3, q4⟩ := HG.out u hR
            have c2 := cell_of q2
            have c4 := cell_of q4
            clear hR q2 q4
            go_simp
            exact ⟨rfl, Ext.refl _⟩
          simp only [Act.put, List.setIfInBounds_toArray, List.set_cons_succ, List.set_cons_zero]
          -- 8
          apply ar_fun (by omega)
          · intro x u hR
            obtain ⟨q1, q2, q3, q4⟩ := HG.out u hR
            have c2 := cell_of q2
            have c4 := cell_of q4
            clear hR q2 q4
            go_simp
            exact ⟨rfl, Ext.refl _⟩
          simp only [Act.put, List.setIfInBounds_toArray, List.set_cons_succ, List.set_cons_zero]
          -- 9
          apply ar_fun (by omega)
          · intro x u hR
            obtain ⟨q1, q2, q3, q4⟩ := HG.out u hR
            have c1 := q1.cells
            rw [HA.out] at c1
            have c2 := cell_of q2
            have c4 := cell_of q4
            clear hR q2 q4
            go_simp
            exact ⟨rfl, Ext.refl _⟩
          simp only [Act.put, List.setIfInBounds_toArray, List.set_cons_succ, List.set_cons_zero]
          -- 10
          apply ar_fun (by omega)
          · intro x u hR
            obtain ⟨q1, q2, q3, q4⟩ := HG.out u hR
            have c2 := cell_of q2
            have c4 := cell_of q4
            clear hR q2 q4
            go_simp
            exact ⟨rfl, Ext.refl _⟩
          simp only [Act.put, List.setIfInBounds_toArray, List.set_cons_succ, List.set_cons_zero]
          -- 11
          apply ar_fun (by omega)
          · intro x u hR
            obtain ⟨q1, q2, q3, q4⟩ := HG.out u hR
            have c2 := cell_of q2
            have c4 := cell_of q4
            clear hR q2 q4
            go_simp
            exact ⟨rfl, Ext.refl _⟩
          simp only [Act.put, List.setIfInBounds_toArray, List.set_cons_succ, List.set_cons_zero]
          -- 12
          apply ar_fun (by omega)
          · intro x u hR
            obtain ⟨q1, q2, q3, q4⟩ := HG.out u hR
            have c2 := cell_of q2
            have c4 := cell_of q4
            clear hR q2 q4
            go_simp
            exact ⟨rfl, Ext.refl _⟩
          simp only [Act.put, List.setIfInBounds_toArray, List.set_cons_succ, List.set_cons_zero]
          -- 13
          apply ar_fun (by omega)
          · intro x u hR
            obtain ⟨q1, q2, q3, q4⟩ := HG.out u hR
            have c2 := cell_of q2
            have c4 := cell_of q4
            clear hR q2 q4
            go_simp
            exact ⟨rfl, Ext.refl _⟩
          simp only [Act.put, List.setIfInBounds_toArray, List.set_cons_succ, List.set_cons_zero]
          -- 14
          apply ar_fun (by omega)
          · intro x u hR
            obtain ⟨q1, q2, q3, q4⟩ := HG.out u hR
            have c2 := cell_of q2
            have c4 := cell_of q4
            clear hR q2 q4
            go_simp
            exact ⟨rfl, Ext.refl _⟩
          simp only [Act.put, List.setIfInBounds_toArray, List.set_cons_succ, List.set_cons_zero]
          -- 15
          apply ar_fun (by omega)
          · intro x u hR
            obtain ⟨q1, q2, q3, q4⟩ := HG.out u hR
            have c2 := cell_of q2
            have c4 := cell_of q4
            clear hR q2 q4
            go_simp
            exact ⟨rfl, Ext.refl _⟩
          simp only [Act.put, List.setIfInBounds_toArray, List.set_cons_succ, List.set_cons_zero]
          -- 16
          refine ar_fun (v := askVal S ⟨h, cell, far, there⟩) (by omega) ?_ ?_
          · intro x u hR
            obtain ⟨q1, q2, q3, q4⟩ := HG.out u hR
            have hcal := hid (asks_any b S HOS.out ⟨h, cell, far, there⟩ HT.out.2.2.1 (by have := HT.out.2.2.2; have := (mul_bounds (HOK.out .nilFunc .nilFunc).wide (HOK.out .nilFunc .nilFunc).high).2; simp only [nsSea] at this; simp only; omega) u q1)
            clear hR q2 q4 q1 q3
            go_simp
            exact hcal.out.mono fun e w'' he => ⟨_, he.1, rfl, he.2⟩
          simp only [Act.put, List.setIfInBounds_toArray, List.set_cons_succ, List.set_cons_zero]
          -- 17
          refine ar_row ?_ ?_
          · intro x u hR
            have hn := hR.size
            clear hR
            simp only [askVal]
            go_simp
            exact ⟨⟨_, rfl, Ext.new (Ext.refl _), hn⟩, (Ext.refl _).alloc _⟩
          simp only [Act.put, List.setIfInBounds_toArray, List.set_cons_succ, List.set_cons_zero]
          -- 18
          refine ar_new ?_ ?_
          · intro x u hR hf
            have h17 : arRow w5.heap.size (askVal S ⟨h, cell, far, there⟩) (x 17) u := hf.2.1 rfl
            clear hf
            obtain ⟨g, e17, hg, hgn⟩ := h17
            obtain ⟨i0, hi0, hz0, hz1, hz2⟩ := info_parts info117
            obtain ⟨v', w', hrun, hrow', hgr, how, hown⟩ := append_row (sz := 1) (bytes := 8) (t := 116) (ty := 116) Try.underlying116 hi0 hz0 hz1 hz2 (by simp [Value.cells]) (by omega) ((HI2.out.1.mono hx5).mono hR) ⟨g, 0, none⟩ 1 [askVal S ⟨h, cell, far, there⟩] rfl
              (fun j z hj => by rw [show (⟨g, 0, none⟩ : Addr).add j = ⟨g, j, none⟩ from (by simp [Addr.add]; omega), cell_of hg]; simpa using hj) (fun z hz => by simp at hz; subst hz; rfl) (by have := List.length_filter_le (fun r : Rep => r.hour == (h : Int)) (rs.take k); unfold ofHour; simp at this ⊢; omega) (by omega)
            have HRW := hid (And.intro hrow' (And.intro hgr how))
            have hun := hR.size
            clear hR hg hrow' hgr how hown hi0 hz0 hz1 hz2
            rw [if_pos (show Region.wanted _ _ = true from rfl)]
            exact gives_append (.tmp 54) (.tmp 58) 116 rfl rfl e17 hrun ⟨⟨HRW.out.1, HRW.out.2.2.imp id fun e => ⟨_, e, hun⟩⟩, HRW.out.2.1⟩
          simp only [Act.put, List.setIfInBounds_toArray, List.set_cons_succ, List.set_cons_zero]
          refine lex_nil fun x u hE hfacts => ?_
          have h17 : arRow w5.heap.size (askVal S ⟨h, cell, far, there⟩) (x 17) u := hfacts 17 _ (by omega) rfl
          have h18 : arNew w5.heap.size _ v.ownBlock _ (x 18) u := hfacts 18 _ (by omega) rfl
          clear hfacts h17
          generalize x 17 = x17 at *
          generalize x 18 = x18 at *
          obtain ⟨sb, sl, sc, hxe⟩ := Row.slice h18.1
          subst hxe
          obtain ⟨hbI, hsI, hwI, hvb, hvr, hvo, hvd, hmI, hKI⟩ := HV.out
          have hve := HI2.out.2.2.2
          have hgu : wr.grownBy u v.ownBlock := (hx5.grown _).trans hE
          have hstep := AskedPart.step (r := ⟨h, cell, far, there⟩) hvl hvb hvr hvo hvd hh hla' hwr (by rw [hve]; exact hgu) h18.1 (by rw [hve]; exact h18.2.imp id fun ⟨k, e, hk⟩ => ⟨k, e, Nat.le_trans hx5.size hk⟩) rfl
          have old : ∀ k o, k < W.heap.size → k ≠ ba → wr.heap[k]? = some o → (u.setCell ⟨ba, h, none⟩ (.slice sb sl sc)).heap[k]? = some o := fun k o hk hkb ho => by
            rw [Below.heap_setCell _ _ _ _ hkb]; exact grownBy_block hgu ho (fun e => by have := HI2.out.2.1 k e.symm; omega)
          have hbu : Below w.heap.size w u := hbI.trans ⟨hgu.os, hgu.tape, hgu.output, hgu.size, fun k hk => hgu.block k (by omega) (fun e => by have := HI2.out.2.1 k e.symm; omega)⟩
          have HF := hid (And.intro (hbu.setCell (p := ⟨ba, h, none⟩) hna (.slice sb sl sc)) (And.intro (old b _ hlb' (Ne.symm HD1.out.2.2.2.1) hsI) (And.intro (old bw _ hlw' (Ne.symm HD1.out.2.1) hwI) (And.intro hstep (And.intro (hmI.kept fun o ho => old bm o hlm' (Ne.symm HD1.out.2.2.2.2.1) ho) (old K _ hlK (by omega) hKI))))))
          have hbau : u.heap[ba]? = some (.cells vs.toArray 116 (0, 0)) := grownBy_block hgu hvb (fun e => by have := HI2.out.2.1 ba e.symm; omega)
          have hcu : u.cell? ⟨ba, h, none⟩ = some v := by rw [cell_of hbau]; simp [hve, hh]
          have hfu := free_of hbau
          have hus : W.heap.size ≤ (u.setCell ⟨ba, h, none⟩ (.slice sb sl sc)).heap.size := by simp; exact Nat.le_trans hwr hgu.size
          clear hbI hsI hwI hvb hvr hvo hvd hmI hKI hve hgu hstep old hbu hbau HV HI2 HG hE h18 hx5 hask HA HRR hc0 hc1 hc2 hc3
          gi_wp2
          go_roundw
          case rel => exact ⟨k + 1, by omega, by go_num, hus, by rw [HT.out.1]; exact HF.out⟩
          case measure => simp [intOf]; omega
        · obtain rfl : k = rs.length := by omega
          have hI2 := hI.out
          rw [List.take_length] at hI2
          have HF := hid hI2
          have hwI := hI2.2.2.1
          have hcw := cell_of hwI
          clear hI hI2 hwI
          gi_wp2
          obtain ⟨hbI, hsI, hwI, ⟨vs, hvl, hvb, hvr, hvo, hvd⟩, hmI, hKI⟩ := HF.out
          refine leave_mark hKI (results_tmp2 rfl _ _ _) ⟨below_put hbI (by omega) _, NewSea.ok (S := S) HRB.out ?_⟩
          have old : ∀ k o, k < W.heap.size → k ≠ K → wr.heap[k]? = some o → (wr.putObj K (.deferred none)).heap[k]? = some o := fun k o hk hkb ho => by
            rw [World.putObj_heap_other hkb]; exact ho
          have hbK := below_put (o := .deferred none) hbI (show w.heap.size ≤ K by omega)
          have hS := HSE.out
          refine ⟨old b _ hlb' (by omega) hsI, HOS.out, by rw [hS]; rfl, by rw [hS]; rfl, by rw [hS]; rfl, by rw [hS]; rfl, ?_, ?_, ⟨bm, by rw [hS]; rfl, hmI.kept fun o ho => old bm o hlm' (by omega) ho⟩, ?_⟩
          · rw [hS]; exact HL.out.mono hbK
          · rw [hS]; exact HD.out.mono hbK
          · have hhn : D.hours.toNat = hrs := by rw [hhrs.out]; rfl
            rw [hhn]
            refine ⟨ba, vs, by rw [hS]; rfl, hvl, old ba _ hla' (by omega) hvb, fun h hh => (hvr h hh).kept fun k o hk ho => ?_⟩
            rw [World.putObj_heap_other (by have := hvo h hh k hk; omega)]; exact ho
    case stop => exact fun D i c W _ _ h _ => h.elim
end Go.Proofs.Ytiklblbjnblkfaa
