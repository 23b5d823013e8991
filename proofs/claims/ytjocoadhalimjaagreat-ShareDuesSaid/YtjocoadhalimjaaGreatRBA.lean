/- Groups are found: the closure. -/
import Derived.Test.YtjocoadhalimjaaGreatRAV
import Derived.Test.YtjocoadhalimjaaGreatRAZ
import Derived.Laws.EntriesVeiled
set_option linter.unusedSimpArgs false
set_option linter.unusedVariables false
namespace Go.Proofs.YtjocoadhalimjaaGreat
section
open Go Go.RowKit Go.Shelf

def entG (m : GMap) (a g t : Nat) : Prop := ((.int .i64 (a : Int), .agg #[.int .i64 (g : Int), .int .i64 (t : Int)]) : Value × Value) ∈ m
section
variable {n : Nat} {b : Nat → Int}
/-- What is known of a set that is together 0. -/
structure Good (n : Nat) (b : Nat → Int) (m : GMap) (a g t : Nat) : Prop where
  lt : a < 2 ^ n
  zero : Sv.tal n b (bitN a) = 0
  best : Sv.Best n b (bitN a) g
  sub : Sv.Sub (bitN t) (bitN a)
  some : ∃ i, i < n ∧ bitN t i = true
  tz : Sv.tal n b (bitN t) = 0
  rest : ∃ g' t', g = g' + 1 ∧ Sv.Best n b (Sv.dif (bitN a) (bitN t)) g' ∧ entG m (anN a t) g' t'
structure SpOk (n : Nat) (b : Nat → Int) (m : GMap) : Prop where
  zero : entG m 0 0 0
  all : ∀ p ∈ m, ∃ a g t : Nat, p = (.int .i64 (a : Int), .agg #[.int .i64 (g : Int), .int .i64 (t : Int)]) ∧ (a = 0 ∧ g = 0 ∧ t = 0 ∨ 0 < a ∧ Good n b m a g t)
theorem Good.mono {m m' : GMap} {a g t : Nat} (h : Good n b m a g t) (hs : ∀ p ∈ m, p ∈ m') : Good n b m' a g t := by
  obtain ⟨g', t', h1, h2, h3⟩ := h.rest
  exact ⟨h.lt, h.zero, h.best, h.sub, h.some, h.tz, g', t', h1, h2, hs _ h3⟩
theorem SpOk.add {m : GMap} {a g t : Nat} (h : SpOk n b m) (ha : 0 < a) (hg : Good n b m a g t) : SpOk n b (m ++ [(.int .i64 (a : Int), .agg #[.int .i64 (g : Int), .int .i64 (t : Int)])]) := by
  refine ⟨List.mem_append_left _ h.zero, fun p hp => ?_⟩
  rcases List.mem_append.1 hp with hp | hp
  · obtain ⟨a', g', t', h1, h2⟩ := h.all p hp
    refine ⟨a', g', t', h1, ?_⟩
    rcases h2 with h2 | ⟨h2, h3⟩
    · exact .inl h2
    · exact .inr ⟨h2, h3.mono fun q hq => List.mem_append_left _ hq⟩
  · simp at hp
    exact ⟨a, g, t, hp, .inr ⟨ha, hg.mono fun q hq => List.mem_append_left _ hq⟩⟩
theorem SpOk.key {m : GMap} (h : SpOk n b m) {a : Nat} {v : Value} (hv : ((.int .i64 (a : Int), v) : Value × Value) ∈ m) : ∃ g t : Nat, v = .agg #[.int .i64 (g : Int), .int .i64 (t : Int)] ∧ (a = 0 ∧ g = 0 ∧ t = 0 ∨ 0 < a ∧ Good n b m a g t) := by
  obtain ⟨a', g, t, h1, h2⟩ := h.all _ hv
  have e1 := congrArg Prod.fst h1
  simp at e1
  have e2 := congrArg Prod.snd h1
  have : a = a' := by omega
  subst this
  exact ⟨g, t, e2, h2⟩
def qualS (n : Nat) (b : Nat → Int) (a i s : Nat) : Prop := Sv.Sub (bitN s) (bitN a) ∧ bitN s i = true ∧ Sv.tal n b (bitN s) = 0
/-- The best of the first sets. -/
def BestI (n : Nat) (b : Nat → Int) (a i : Nat) (m : GMap) (s bg bt : Nat) : Prop :=
  (bg = 0 ∧ bt = 0 ∧ ∀ s', s' < s → ¬ qualS n b a i s') ∨
  (∃ g', bg = g' + 1 ∧ bt < s ∧ qualS n b a i bt ∧ Sv.Best n b (Sv.dif (bitN a) (bitN bt)) g' ∧ (∃ t', entG m (anN a bt) g' t') ∧ ∀ s', s' < s → qualS n b a i s' → ∃ g, Sv.Best n b (Sv.dif (bitN a) (bitN s')) g ∧ g ≤ g')
theorem BestI.mono {a i : Nat} {m m' : GMap} {s bg bt : Nat} (h : BestI n b a i m s bg bt) (hs : ∀ p ∈ m, p ∈ m') : BestI n b a i m' s bg bt := by
  rcases h with h | ⟨g', h1, h2, h3, h4, ⟨t', h5⟩, h6⟩
  · exact .inl h
  · exact .inr ⟨g', h1, h2, h3, h4, ⟨t', hs _ h5⟩, h6⟩
theorem BestI.skip {a i : Nat} {m : GMap} {s bg bt : Nat} (h : BestI n b a i m s bg bt) (hq : ¬ qualS n b a i s) : BestI n b a i m (s + 1) bg bt := by
  rcases h with ⟨h1, h2, h3⟩ | ⟨g', h1, h2, h3, h4, h5, h6⟩
  · refine .inl ⟨h1, h2, fun s' hs => ?_⟩
    rcases Nat.lt_or_ge s' s with h | h
    · exact h3 s' h
    · obtain rfl : s' = s := by omega
      exact hq
  · refine .inr ⟨g', h1, by omega, h3, h4, h5, fun s' hs hq' => ?_⟩
    rcases Nat.lt_or_ge s' s with h | h
    · exact h6 s' h hq'
    · obtain rfl : s' = s := by omega
      exact absurd hq' hq
theorem BestI.take {a i : Nat} {m : GMap} {s bg bt g t : Nat} (h : BestI n b a i m s bg bt) (hq : qualS n b a i s) (hb : Sv.Best n b (Sv.dif (bitN a) (bitN s)) g) (he : entG m (anN a s) g t) (hge : bg ≤ g) : BestI n b a i m (s + 1) (g + 1) s := by
  refine .inr ⟨g, rfl, by omega, hq, hb, ⟨t, he⟩, fun s' hs hq' => ?_⟩
  rcases Nat.lt_or_ge s' s with hlt | hlt
  · rcases h with ⟨h1, h2, h3⟩ | ⟨g', h1, h2, h3, h4, h5, h6⟩
    · exact absurd hq' (h3 s' hlt)
    · obtain ⟨g2, h7, h8⟩ := h6 s' hlt hq'
      exact ⟨g2, h7, by omega⟩
  · obtain rfl : s' = s := by omega
    exact ⟨g, hb, Nat.le_refl _⟩
theorem BestI.leave {a i : Nat} {m : GMap} {s bg bt g : Nat} (h : BestI n b a i m s bg bt) (hb : Sv.Best n b (Sv.dif (bitN a) (bitN s)) g) (hlt : g < bg) : BestI n b a i m (s + 1) bg bt := by
  rcases h with ⟨h1, h2, h3⟩ | ⟨g', h1, h2, h3, h4, h5, h6⟩
  · omega
  · refine .inr ⟨g', h1, by omega, h3, h4, h5, fun s' hs hq' => ?_⟩
    rcases Nat.lt_or_ge s' s with hl | hl
    · exact h6 s' hl hq'
    · obtain rfl : s' = s := by omega
      exact ⟨g, hb, by omega⟩
theorem BestI.done {a i : Nat} {m : GMap} {bg bt : Nat} (h : BestI n b a i m (a + 1) bg bt) (ha : a < 2 ^ n) (h0 : Sv.tal n b (bitN a) = 0) (hi : i < n) (hai : bitN a i = true) : Good n b m a bg bt := by
  rcases h with ⟨h1, h2, h3⟩ | ⟨g', h1, h2, h3, h4, ⟨t', h5⟩, h6⟩
  · exact absurd ⟨Sv.Sub.refl _, hai, h0⟩ (h3 a (by omega))
  · subst h1
    refine ⟨ha, h0, best_all ha h0 hi hai (fun s hs h7 h8 h9 => h6 s (by omega) ⟨h7, h8, h9⟩) h3.1 h3.2.1 h3.2.2 h4, h3.1, ⟨i, hi, h3.2.1⟩, h3.2.2, g', t', rfl, h4, h5⟩
theorem countP_less {p q : Nat → Bool} {i : Nat} : ∀ l : List Nat, (∀ j, p j = true → q j = true) → i ∈ l → q i = true → p i = false → l.countP p + 1 ≤ l.countP q
  | [], _, h, _, _ => by cases h
  | x :: l, hs, h, hq, hp => by
    rw [List.countP_cons, List.countP_cons]
    have hle : l.countP p ≤ l.countP q := List.countP_mono_left fun j _ hj => hs j hj
    rcases List.mem_cons.1 h with rfl | h
    · rw [hq, hp]; simp; omega
    · have := countP_less l hs h hq hp
      by_cases hx : p x = true
      · rw [hx, hs x hx]; simp; omega
      · have h0 : (if p x = true then 1 else 0) = 0 := if_neg hx
        rw [h0]; omega
theorem pack_le {S : Sv.St} {k : Nat} (h : Sv.Pack n b S k) : k ≤ (List.range n).countP S := by
  induction h with
  | none => exact Nat.zero_le _
  | @add S T k h1 h2 h3 h4 ih =>
    obtain ⟨i, hi, hT⟩ := h2
    have := countP_less (p := Sv.dif S T) (q := S) (List.range n) (fun j hj => Sv.sub_dif S T j hj) (List.mem_range.2 hi) (h1 i hT) (by simp [Sv.dif, hT])
    omega
theorem best_le {S : Sv.St} {g : Nat} (h : Sv.Best n b S g) : g ≤ n := by
  have h1 := pack_le h.1
  have h2 := List.countP_le_length (p := S) (l := List.range n)
  simp at h2; omega
theorem SpOk.best {m : GMap} (h : SpOk n b m) {c g t : Nat} (he : entG m c g t) : Sv.Best n b (bitN c) g := by
  obtain ⟨g', t', hv, h2⟩ := h.key he
  simp at hv
  have : g = g' := by omega
  subst this
  rcases h2 with ⟨h3, h4, _⟩ | ⟨_, h3⟩
  · subst h3; subst h4
    refine Sv.best_zero b ?_
    rintro ⟨i, _, hi⟩
    simp [bitN] at hi
  · exact h3.best
theorem tal_bound {xs : List Int} (hx : ∀ x ∈ xs, -1000000 ≤ x ∧ x ≤ 1000000) (S : Sv.St) : ∀ k : Nat, -(1000000 * (k : Int)) ≤ Sv.tal k (balF xs) S ∧ Sv.tal k (balF xs) S ≤ 1000000 * (k : Int)
  | 0 => by simp [Sv.tal]
  | k + 1 => by
    have ih := tal_bound hx S k
    rw [tal_succ]
    have hb : -1000000 ≤ balF xs k ∧ balF xs k ≤ 1000000 := by
      unfold balF
      rcases Nat.lt_or_ge k xs.length with h | h
      · rw [getD_of h]; exact hx _ (List.getElem_mem h)
      · rw [List.getD_eq_getElem?_getD, List.getElem?_eq_none h]; simp
    push_cast
    split <;> omega
end
/-- Where the closure's boxes lie. -/
structure FindAt (n0 : World) (dv : Value) (d : List Int) (bm B1 B2 B3 : Nat) (w : World) (m : GMap) : Prop where
  ext : Ext n0 w
  b1 : w.heap[B1]? = some (.cells #[.map (some bm)] 132 (0, 0))
  b2 : w.heap[B2]? = some (.cells #[dv] 94 (0, 0))
  b3 : w.heap[B3]? = some (.cells #[.func (.func 102) #[] #[.pointer (some ⟨B1, 0, none⟩), .pointer (some ⟨B2, 0, none⟩), .pointer (some ⟨B3, 0, none⟩)]] 151 (0, 0))
  map : GMapAt (.int .i64) w bm m
  ok : SpOk d.length (balF d) m
theorem FindAt.km {n0 : World} {dv : Value} {d : List Int} {bm B1 B2 B3 : Nat} {w w' : World} {m m' : GMap} (h : FindAt n0 dv d bm B1 B2 B3 w m) (hx : Ext n0 w') (hk : KM bm w w') (hm : GMapAt (.int .i64) w' bm m') (ho : SpOk d.length (balF d) m') : FindAt n0 dv d bm B1 B2 B3 w' m' :=
  ⟨hx, hk.cell h.b1 (h.map.notCells h.b1), hk.cell h.b2 (h.map.notCells h.b2), hk.cell h.b3 (h.map.notCells h.b3), hm, ho⟩
theorem FindAt.mono {n0 : World} {dv : Value} {d : List Int} {bm B1 B2 B3 : Nat} {w w' : World} {m : GMap} (h : FindAt n0 dv d bm B1 B2 B3 w m) (hx : Ext w w') : FindAt n0 dv d bm B1 B2 B3 w' m := h.km (h.ext.trans hx) (KM.of_ext hx) (h.map.mono hx) h.ok
theorem zero137 (w : World) : (zeroValue 137).run Tryz.prog w = .ok (.agg #[.int .i64 0, .int .i64 0]) w := by simp [zeroValue, go_sem, show Tryz.t137.zero = some (.agg #[.int .i64 0, .int .i64 0]) from by kernel_rfl]
theorem size137 : (Tryz.prog.info? 137).map (·.size) = some 2 := by kernel_rfl
set_option maxRecDepth 100000 in
set_option maxHeartbeats 16000000 in
theorem find_any (n0 : World) (dv : Value) (d : List Int) (bm B1 B2 B3 : Nat) (hdv : IntsAt n0 dv d) (hd : d.length ≤ 10) (hx : ∀ x ∈ d, -1000000 ≤ x ∧ x ≤ 1000000) (hbm : n0.heap.size ≤ bm) :
    ∀ (f a : Nat) (m : GMap) (w : World), a < f → a < 2 ^ d.length → Sv.tal d.length (balF d) (bitN a) = 0 → FindAt n0 dv d bm B1 B2 B3 w m →
      Cal 102 #[.int .i64 a, .pointer (some ⟨B1, 0, none⟩), .pointer (some ⟨B2, 0, none⟩), .pointer (some ⟨B3, 0, none⟩)] w fun e w' => ∃ (g t : Nat) (m' : GMap), e = .returned (.agg #[.int .i64 g, .int .i64 t]) ∧ FindAt n0 dv d bm B1 B2 B3 w' m' ∧ entG m' a g t ∧ (∀ p ∈ m, p ∈ m') ∧ (∀ p ∈ m', p ∈ m ∨ ∃ c : Nat, c ≤ a ∧ p.1 = .int .i64 c) ∧ KM bm w w' := by
  intro f
  induction f with
  | zero => intro a m w h; omega
  | succ f ih =>
  intro a m w haf ha h0 hF
  have HIH := hid ih
  have HF := hid hF
  have h1024 : a < 1024 := Nat.lt_of_lt_of_le ha (Nat.pow_le_pow_right (n := 2) (by omega) hd)
  have HA := hid (And.intro haf (And.intro ha (And.intro h0 h1024)))
  have HDV := hid hdv
  have HDX := hid hx
  have HBM := hid hbm
  clear ih haf ha h0 hF hdv hx hbm h1024
  have hx0 : Ext w (w.alloc (.cells #[.int .i64 0, .int .i64 0] 137)) := (Ext.refl _).alloc _
  have hr0 : (w.alloc (.cells #[.int .i64 0, .int .i64 0] 137)).heap[w.heap.size]? = some (.cells #[.int .i64 0, .int .i64 0] 137 (0, 0)) := Ext.new (Ext.refl _)
  gi_enter Tryz.func102, Tryz.ntmps102
  gi_wp2_with fail
  rw [wpIn_wide]
  refine wp_scope_straight ?_
  rw [← wpIn_wide (n := 0)]
  have HX0 := hid hx0
  have HR0 := hid hr0
  have HF0 := hid (HF.out.mono hx0)
  clear hx0 hr0
  generalize w.alloc (.cells #[.int .i64 0, .int .i64 0] 137) = W at *
  have cb1 := cell_of HF0.out.b1
  by_cases hex : ∃ v, ((.int .i64 (a : Int), v) : Value × Value) ∈ m
  · obtain ⟨v, hv⟩ := hex
    obtain ⟨g, t, rfl, hgt⟩ := HF.out.ok.key hv
    have hlk := glookup_some HF0.out.map (show MapKept.IsKey (.int .i64) (.int .i64 (a : Int)) from rfl) hv true Tryz.underlying132 Tryz.underlying134
    simp only [if_true] at hlk
    have HV := hid hv
    clear hv hgt
    have hxa : Ext W (W.alloc (.cells #[.int .i64 g, .int .i64 t] 137)) := (Ext.refl _).alloc _
    have hna : (W.alloc (.cells #[.int .i64 g, .int .i64 t] 137)).heap[W.heap.size]? = some (.cells #[.int .i64 g, .int .i64 t] 137 (0, 0)) := Ext.new (Ext.refl _)
    gi_upto_region 2 with fail
    clear hlk cb1
    have HF1 := hid (HF0.out.mono hxa)
    have HX1 := hid (HX0.out.trans hxa)
    have hr1 := hxa.block HR0.out
    clear hxa HX0 HR0 HF0
    generalize W.alloc (.cells #[.int .i64 g, .int .i64 t] 137) = W1 at *
    generalize W.heap.size = nb at *
    have cn := cell_of hna
    have cr := cell_of hr1
    have fr := free_of hr1
    have lr := lt_of_block hr1
    gi_wp2_with fail
    have hs := set_same (set_same hr1 0 (.int .i64 g)) 1 (.int .i64 t)
    have hk : KM bm w ((W1.setCell ⟨w.heap.size, 0, none⟩ (.int .i64 g)).setCell ⟨w.heap.size, 1, none⟩ (.int .i64 t)) := ((KM.of_ext HX1.out).set (Nat.le_refl _) 0 _).set (Nat.le_refl _) 1 _
    have hxx : Ext w ((W1.setCell ⟨w.heap.size, 0, none⟩ (.int .i64 g)).setCell ⟨w.heap.size, 1, none⟩ (.int .i64 t)) := (HX1.out.set (Nat.le_refl _) 0 _).set (Nat.le_refl _) 1 _
    have HFE := hid (HF.out.mono hxx)
    clear cn cr fr lr hna
    generalize (W1.setCell ⟨w.heap.size, 0, none⟩ (.int .i64 g)).setCell ⟨w.heap.size, 1, none⟩ (.int .i64 t) = W2 at *
    have hc := cell_of hs
    refine noGoto_ret ?_
    exact bodyPost_ret (v := .agg #[.int .i64 g, .int .i64 t]) (by simp [results, Tryz.results102, go_sem, hc]) rfl ⟨g, t, m, rfl, HFE.out, HV.out, fun p hp => hp, fun p hp => .inl hp, hk⟩
  · have hne : ∀ p ∈ m, p.1 ≠ .int .i64 (a : Int) := fun p hp he => hex ⟨p.2, by rw [← he]; exact hp⟩
    have ha0 : 0 < a := by
      rcases Nat.eq_zero_or_pos a with h | h
      · subst h; exact absurd ⟨_, HF.out.ok.zero⟩ hex
      · exact h
    have hlk := glookup_none HF0.out.map (show MapKept.IsKey (.int .i64) (.int .i64 (a : Int)) from rfl) hne true Tryz.underlying132 Tryz.underlying134 (zero137 W)
    simp only [if_true] at hlk
    have HNE := hid hne
    obtain ⟨i0, hi10, hlow, hai⟩ := low_bit ha0 HA.out.2.2.2
    have hin : i0 < d.length := by
      rcases Nat.lt_or_ge i0 d.length with h | h
      · exact h
      · have := bitN_high HA.out.2.1 h
        unfold bitN at this
        rw [hai] at this; cases this
    have HLOW := hid (And.intro hi10 (And.intro hai hin))
    have HLW := hid hlow
    have HA0 := hid ha0
    clear hex hne hi10 hai hin ha0 hlow
    have hxa : Ext W ((W.alloc (.cells #[.int .i64 0, .int .i64 0] 137)).alloc (.cells #[.int .i64 0, .int .i64 0] 137)) := ((Ext.refl _).alloc _).alloc _
    have hna : ((W.alloc (.cells #[.int .i64 0, .int .i64 0] 137)).alloc (.cells #[.int .i64 0, .int .i64 0] 137)).heap[W.heap.size + 1]? = some (.cells #[.int .i64 0, .int .i64 0] 137 (0, 0)) := by
      have := Ext.new (w := W.alloc (.cells #[.int .i64 0, .int .i64 0] 137)) (o := .cells #[.int .i64 0, .int .i64 0] 137) (Ext.refl _); rwa [World.size_alloc] at this
    gi_wp2_with fail
    clear hlk cb1
    rw [wpIn_wide]
    refine wp_label ?_
    have HF1 := hid (HF0.out.mono hxa)
    have HX1 := hid (HX0.out.trans hxa)
    have HR1 := hid (hxa.block HR0.out)
    have HQL : Hid (w.heap.size < W.heap.size) := hid (lt_of_block HR0.out)
    have HBB := hid hna
    clear hxa HX0 HR0 HF0 hna
    generalize (W.alloc (.cells #[.int .i64 0, .int .i64 0] 137)).alloc (.cells #[.int .i64 0, .int .i64 0] 137) = W1 at *
    have HQ1 : Hid (w.heap.size < W.heap.size + 1) := hid (by have := HQL.out; omega)
    generalize W.heap.size + 1 = q at *
    clear HQL
    have hwa : wrap64 ((a : Int) + 1) = (a : Int) + 1 := by have := HA.out.2.2.2; unfold wrap64; omega
    gi_wp2_with fail
    try rw [hwa]
    clear hwa
    have HJ : Hid (∃ (m' : GMap) (bg bt : Nat), FindAt n0 dv d bm B1 B2 B3 W1 m' ∧ KM bm w W1 ∧ W1.heap[w.heap.size]? = some (.cells #[.int .i64 0, .int .i64 0] 137 (0, 0)) ∧ W1.heap[q]? = some (.cells #[.int .i64 bg, .int .i64 bt] 137 (0, 0)) ∧ BestI d.length (balF d) a i0 m' 0 bg bt ∧ (∀ p ∈ m, p ∈ m') ∧ (∀ p ∈ m', p ∈ m ∨ ∃ c : Nat, c < a ∧ p.1 = .int .i64 c)) := hid ⟨m, 0, 0, HF1.out, KM.of_ext HX1.out, HR1.out, HBB.out, .inl ⟨rfl, rfl, fun s h => absurd h (by omega)⟩, fun p hp => hp, fun p hp => .inl hp⟩
    clear HF1 HX1 HR1 HBB
    gi_loopw [9, 10, 11, 12, 13, 14, 25] (fun u9 u10 u11 u12 u13 u14 i wr => ∃ s : Nat, s ≤ a + 1 ∧ i = .int .i64 s ∧ Hid (∃ (m' : GMap) (bg bt : Nat), FindAt n0 dv d bm B1 B2 B3 wr m' ∧ KM bm w wr ∧ wr.heap[w.heap.size]? = some (.cells #[.int .i64 0, .int .i64 0] 137 (0, 0)) ∧ wr.heap[q]? = some (.cells #[.int .i64 bg, .int .i64 bt] 137 (0, 0)) ∧ BestI d.length (balF d) a i0 m' s bg bt ∧ (∀ p ∈ m, p ∈ m') ∧ (∀ p ∈ m', p ∈ m ∨ ∃ c : Nat, c < a ∧ p.1 = .int .i64 c))) (fun _ _ _ _ _ _ i _ => a + 1 - (intOf i).toNat)
    case atStart => exact ⟨0, by omega, rfl, HJ⟩
    case round =>
      obtain ⟨s, hs, rfl, HQ⟩ := hrel
      clear HJ
      by_cases hlt : s < a + 1
      · have hli : (s : Int) < (a : Int) + 1 := by omega
        obtain ⟨m', bg, bt, hF', hk', hr', hb', hI', hsub', hnew'⟩ := HQ.out
        have HF' := hid hF'
        have HK' := hid hk'
        have HR' := hid hr'
        have HB' := hid hb'
        have HI' := hid hI'
        have HS' := hid (And.intro hsub' hnew')
        have cd := cell_of hF'.b2
        have hs1024 : s < 1024 := by have := HA.out.2.2.2; omega
        have HSL := hid hs1024
        obtain ⟨da, dc, rfl, ⟨hdc, hdl⟩, hdi⟩ := id HDV.out
        have HDI := hid hdi
        clear HQ hF' hk' hr' hb' hI' hsub' hnew' hdi
        gi_wp2_with fail
        clear cd
        obtain ⟨wo, rfl⟩ : ∃ wo, wo = wr := ⟨wr, rfl⟩
        have HSK : Hid (qualS d.length (balF d) a i0 s → True) := hid fun _ => trivial
        gi_loopw [10, 11, 12, 30] (fun tg u11 u12 j wr => wr = wo ∧ ∃ k : Nat, k ≤ d.length ∧ j = .int .i64 k ∧ tg = .int .i64 (Sv.tal k (balF d) (bitN s)) ∧ Hid (∀ i, i < k → bitN s i = true → bitN a i = true)) (fun _ _ _ j _ => d.length - (intOf j).toNat)
        case atStart => exact ⟨rfl, 0, Nat.zero_le _, rfl, rfl, hid fun i h => absurd h (by omega)⟩
        case round =>
          obtain ⟨rfl, k, hk, rfl, rfl, HG⟩ := hrel
          by_cases hlk : k < d.length
          · have hki : (k : Int) < (d.length : Int) := by omega
            obtain ⟨b, off, rfl, hbb, hck⟩ := HDI.out k hlk
            rw [← HF'.out.ext.cell (p := ⟨b, _, none⟩) hbb] at hck
            have hbk : balF d k = d[k] := by unfold balF; rw [getD_of hlk]
            have hts := tal_succ (balF d) (bitN s) k
            have htb := tal_bound HDX.out (bitN s) k
            have htb2 := tal_bound HDX.out (bitN s) (k + 1)
            have HSH := hid (has_any s k wr HSL.out (by omega))
            have HAH := hid (has_any a k wr HA.out.2.2.2 (by omega))
            rw [hbk] at hts
            generalize d[k] = x at *
            obtain ⟨T, hT⟩ : ∃ T, Sv.tal k (balF d) (bitN s) = T := ⟨_, rfl⟩
            rw [hT] at hts htb ⊢
            cases hsb : s.testBit k with
            | false =>
              have HTS : Hid (Sv.tal (k + 1) (balF d) (bitN s) = T) := hid (by rw [hts]; simp [bitN, hsb])
              have HU : Hid (∀ i, i < k + 1 → bitN s i = true → bitN a i = true) := hid fun i hi hb => by
                rcases Nat.lt_or_ge i k with h | h
                · exact HG.out i h hb
                · obtain rfl : i = k := by omega
                  unfold bitN at hb; rw [hsb] at hb; cases hb
              rw [hsb] at HSH
              clear hts htb htb2 hbk hT hsb HG HAH
              gi_wp2_with (gi_at_call 103; ((with_reducible refine (HSH.out).mono ?_); rintro e w9 ⟨rfl, rfl⟩))
              go_roundw
              case rel => exact ⟨by first | rfl | trivial, k + 1, by omega, by go_num, by rw [HTS.out], HU⟩
              case measure => simp [intOf]; omega
            | true =>
            cases hab : a.testBit k with
            | false =>
              have HNQ : Hid (¬ qualS d.length (balF d) a i0 s) := hid fun hq => by
                have := hq.1 k (by unfold bitN; exact hsb)
                unfold bitN at this; rw [hab] at this; cases this
              rw [hsb] at HSH
              rw [hab] at HAH
              clear hts htb htb2 hbk hT hsb hab HG
              gi_wp2_with (first | (gi_at_call 103; ((with_reducible refine (HSH.out).mono ?_); rintro e w9 ⟨rfl, rfl⟩)) | (gi_at_call 103; ((with_reducible refine (HAH.out).mono ?_); rintro e w9 ⟨rfl, rfl⟩)))
              go_roundw
              case rel => exact ⟨s + 1, by omega, by go_num, hid ⟨m', bg, bt, HF'.out, HK'.out, HR'.out, HB'.out, HI'.out.skip HNQ.out, HS'.out.1, HS'.out.2⟩⟩
              case measure => simp [intOf]; omega
            | true =>
              have HTS : Hid (Sv.tal (k + 1) (balF d) (bitN s) = T + x) := hid (by rw [hts]; simp [bitN, hsb])
              have HU : Hid (∀ i, i < k + 1 → bitN s i = true → bitN a i = true) := hid fun i hi hb => by
                rcases Nat.lt_or_ge i k with h | h
                · exact HG.out i h hb
                · obtain rfl : i = k := by omega
                  unfold bitN; exact hab
              have hwx : wrap64 (T + x) = T + x := by rw [← HTS.out]; unfold wrap64; omega
              rw [hsb] at HSH
              rw [hab] at HAH
              clear hts htb htb2 hbk hT hsb hab HG
              gi_wp2_with (first | (gi_at_call 103; ((with_reducible refine (HSH.out).mono ?_); rintro e w9 ⟨rfl, rfl⟩)) | (gi_at_call 103; ((with_reducible refine (HAH.out).mono ?_); rintro e w9 ⟨rfl, rfl⟩)))
              go_roundw
              case rel => exact ⟨by first | rfl | trivial, k + 1, by omega, by go_num, by first | rw [HTS.out, hwx] | rw [HTS.out], HU⟩
              case measure => simp [intOf]; omega
          · obtain rfl : k = d.length := by omega
            have hsub : Sv.Sub (bitN s) (bitN a) := fun i hi => by
              rcases Nat.lt_or_ge i d.length with h | h
              · exact HG.out i h hi
              · have h1 : s < 2 ^ d.length := by have := HA.out.2.1; omega
                rw [bitN_high h1 h] at hi; cases hi
            have HSUB := hid hsub
            obtain ⟨pw, hpw⟩ : ∃ pw : Nat, 2 ^ i0 = pw := ⟨_, rfl⟩
            have hlow := HLW.out
            have hit := low_hit (s := s) (i := i0) HSL.out HLOW.out.1
            rw [hpw] at hlow hit
            have hneg : wrap64 (-(a : Int)) = -(a : Int) := by have := HA.out.2.2.2; unfold wrap64; omega
            have htb := tal_bound HDX.out (bitN s) d.length
            obtain ⟨T, hT⟩ : ∃ T, Sv.tal d.length (balF d) (bitN s) = T := ⟨_, rfl⟩
            rw [hT]
            have HT := hid hT
            clear hT HG hsub hpw htb
            cases hT0 : (T == 0) with
            | false =>
              have HNQ : Hid (¬ qualS d.length (balF d) a i0 s) := hid fun hq => by
                have := hq.2.2; rw [HT.out] at this; rw [this] at hT0; simp at hT0
              have hT1 : ¬ T = 0 := by simpa using hT0
              have hT2 : (T != 0) = true := by simpa using hT0
              clear hit
              gi_wp2_with fail
              go_roundw
              case rel => exact ⟨s + 1, by omega, by go_num, hid ⟨m', bg, bt, HF'.out, HK'.out, HR'.out, HB'.out, HI'.out.skip HNQ.out, HS'.out.1, HS'.out.2⟩⟩
              case measure => simp [intOf]; omega
            | true =>
            obtain rfl : T = 0 := by simpa using hT0
            cases hbi : s.testBit i0 with
            | false =>
              have HNQ : Hid (¬ qualS d.length (balF d) a i0 s) := hid fun hq => by
                have := hq.2.1; unfold bitN at this; rw [hbi] at this; cases this
              rw [hbi] at hit
              simp only [Bool.not_false] at hit
              gi_wp2_with fail
              go_roundw
              case rel => exact ⟨s + 1, by omega, by go_num, hid ⟨m', bg, bt, HF'.out, HK'.out, HR'.out, HB'.out, HI'.out.skip HNQ.out, HS'.out.1, HS'.out.2⟩⟩
              case measure => simp [intOf]; omega
            | true =>
              rw [hbi] at hit
              simp only [Bool.not_true] at hit
              have HQL : Hid (qualS d.length (balF d) a i0 s) := hid ⟨HSUB.out, by unfold bitN; exact hbi, HT.out⟩
              have hcb := bitN_anN HA.out.2.2.2 HSL.out
              have hca : anN a s < a := by
                have h1 := anN_le a s
                rcases Nat.lt_or_ge (anN a s) a with h | h
                · exact h
                · have he : anN a s = a := by omega
                  rw [he] at hcb
                  have := congrFun hcb i0
                  unfold bitN Sv.dif at this
                  simp [HLOW.out.2.1, hbi] at this
              have hct : Sv.tal d.length (balF d) (bitN (anN a s)) = 0 := by
                have := Sv.tal_split d.length (balF d) HSUB.out
                rw [hcb]
                have h1 := HA.out.2.2.1
                have h2 := HT.out
                omega
              have HAN := hid (bits_andNot HA.out.2.2.2 HSL.out)
              have han := HAN.out
              have HCAL := hid (HIH.out (anN a s) m' wr (by have := HA.out.1; omega) (by have := HA.out.2.1; omega) hct HF'.out)
              have HCB := hid hcb
              have HCA := hid hca
              have c3 : wr.cell? ⟨B3, 0, none⟩ = some (.func (.func 102) #[] #[.pointer (some ⟨B1, 0, none⟩), .pointer (some ⟨B2, 0, none⟩), .pointer (some ⟨B3, 0, none⟩)]) := by rw [cell_of HF'.out.b3]; rfl
              clear hT0 hbi hcb hca hct
              generalize hcc : anN a s = c at *
              have HCC := hid hcc
              clear hcc
              gi_upto_region 19 with (gi_at_call 102; ((with_reducible refine HCAL.out.mono ?_); rintro e w5 ⟨g, t2, m2, rfl, hF2, he2, hs2, hn2, hk2⟩))
              have hg10 := best_le (hF2.ok.best he2)
              have hxa : Ext w5 (w5.alloc (.cells #[.int .i64 g, .int .i64 t2] 137)) := (Ext.refl _).alloc _
              have hna : (w5.alloc (.cells #[.int .i64 g, .int .i64 t2] 137)).heap[w5.heap.size]? = some (.cells #[.int .i64 g, .int .i64 t2] 137 (0, 0)) := Ext.new (Ext.refl _)
              have HF3 := hid (hF2.mono hxa)
              have HBST : Hid (Sv.Best d.length (balF d) (Sv.dif (bitN a) (bitN s)) g) := hid (by rw [← HCB.out]; exact hF2.ok.best he2)
              have HE3 : Hid (entG m2 (anN a s) g t2) := hid (by rw [HCC.out]; exact he2)
              have HK3 := hid ((HK'.out.trans hk2).trans (KM.of_ext (bm := bm) hxa))
              have HB3 := hid (hxa.block (hk2.cell HB'.out (HF'.out.map.notCells HB'.out)))
              have HR3 := hid (hxa.block (hk2.cell HR'.out (HF'.out.map.notCells HR'.out)))
              have HS3 : Hid ((∀ p ∈ m, p ∈ m2) ∧ (∀ p ∈ m2, p ∈ m ∨ ∃ c : Nat, c < a ∧ p.1 = .int .i64 c)) := hid ⟨fun p hp => hs2 p (HS'.out.1 p hp), fun p hp => by
                rcases hn2 p hp with h | ⟨c', h1, h2⟩
                · exact HS'.out.2 p h
                · exact .inr ⟨c', by have := HCA.out; omega, h2⟩⟩
              have HI3 := hid (HI'.out.mono hs2)
              clear hxa hF2 he2 hs2 hn2 hk2 HF' HB' HR' HK' HS' HI' c3 han hit hlow hneg HCAL
              generalize w5.alloc (.cells #[.int .i64 g, .int .i64 t2] 137) = W6 at *
              generalize w5.heap.size = nb at *
              have cn := cell_of hna
              have cq := cell_of HB3.out
              have fq := free_of HB3.out
              have lq := lt_of_block HB3.out
              by_cases hge : bg ≤ g
              · have hgi : (bg : Int) ≤ (g : Int) := by omega
                have hwg : wrap64 ((g : Int) + 1) = (g : Int) + 1 := by unfold wrap64; omega
                have HGE := hid hge
                clear hge hg10 hna
                gi_wp2_with fail
                have hs6 := set_same (set_same HB3.out 0 (.int .i64 ((g : Int) + 1))) 1 (.int .i64 s)
                have hkk : KM bm w ((W6.setCell ⟨q, 0, none⟩ (.int .i64 ((g : Int) + 1))).setCell ⟨q, 1, none⟩ (.int .i64 s)) := (HK3.out.set (Nat.le_of_lt HQ1.out) 0 _).set (Nat.le_of_lt HQ1.out) 1 _
                have hnq : n0.heap.size ≤ q := by have := HF.out.ext.size; have := HQ1.out; omega
                have hxx : Ext n0 ((W6.setCell ⟨q, 0, none⟩ (.int .i64 ((g : Int) + 1))).setCell ⟨q, 1, none⟩ (.int .i64 s)) := (HF3.out.ext.set hnq 0 _).set hnq 1 _
                have hqb : bm ≠ q := fun e => HF3.out.map.notCells HB3.out e.symm
                have hmm : GMapAt (.int .i64) ((W6.setCell ⟨q, 0, none⟩ (.int .i64 ((g : Int) + 1))).setCell ⟨q, 1, none⟩ (.int .i64 s)) bm m2 := HF3.out.map.kept fun o ho => by rw [set_other hqb, set_other hqb]; exact ho
                have hrr : ((W6.setCell ⟨q, 0, none⟩ (.int .i64 ((g : Int) + 1))).setCell ⟨q, 1, none⟩ (.int .i64 s)).heap[w.heap.size]? = _ := (set_other (by have := HQ1.out; omega) 1 _).trans ((set_other (by have := HQ1.out; omega) 0 _).trans HR3.out)
                go_roundw
                case rel => exact ⟨s + 1, by omega, by go_num, hid ⟨m2, g + 1, s, HF.out.km hxx hkk hmm HF3.out.ok, hkk, hrr, hs6, HI3.out.take HQL.out HBST.out HE3.out HGE.out, HS3.out.1, HS3.out.2⟩⟩
                case measure => simp [intOf]; omega
              · have hgi : ¬ (bg : Int) ≤ (g : Int) := by omega
                have HGE : Hid (g < bg) := hid (by omega)
                clear hge hg10 hna
                gi_wp2_with fail
                go_roundw
                case rel => exact ⟨s + 1, by omega, by go_num, hid ⟨m2, bg, bt, HF3.out, HK3.out, HR3.out, HB3.out, HI3.out.leave HBST.out HGE.out, HS3.out.1, HS3.out.2⟩⟩
                case measure => simp [intOf]; omega
      · obtain rfl : s = a + 1 := by omega
        have hli : ¬ (((a + 1 : Nat) : Int)) < (a : Int) + 1 := by omega
        obtain ⟨m', bg, bt, hF', hk', hr', hb', hI', hsub', hnew'⟩ := HQ.out
        have hdone := hI'.done HA.out.2.1 HA.out.2.2.1 HLOW.out.2.2 (by unfold bitN; exact HLOW.out.2.1)
        have hno : ∀ p ∈ m', p.1 ≠ .int .i64 (a : Int) := fun p hp he => by
          rcases hnew' p hp with h | ⟨c, h1, h2⟩
          · exact HNE.out p h he
          · rw [h2] at he; simp at he; omega
        have cq0 := cell_of hb'
        have c1 : wr.cell? ⟨B1, 0, none⟩ = some (.map (some bm)) := by rw [cell_of hF'.b1]; rfl
        obtain ⟨o, hup, hmu⟩ := gupdate_new hF'.map (show MapKept.IsKey (.int .i64) (.int .i64 (a : Int)) from rfl) hno (.agg #[.int .i64 bg, .int .i64 bt]) Tryz.underlying132 Tryz.underlying134
        have hq' : (wr.putObj bm o).heap[q]? = _ := (World.putObj_heap_other (hF'.map.notCells hb')).trans hb'
        have hr0' : (wr.putObj bm o).heap[w.heap.size]? = _ := (World.putObj_heap_other (hF'.map.notCells hr')).trans hr'
        have cq := cell_of hq'
        have cr := cell_of hr0'
        have fr := free_of hr0'
        have lr := lt_of_block hr0'
        have HKU := hid (hk'.trans (KM.put bm wr o))
        have HRU := hid hr0'
        have HMU := hid hmu
        have HXU := hid (below_put hF'.ext HBM.out o)
        have HOK := hid (hF'.ok.add HA0.out hdone)
        have HSB := hid (And.intro hsub' hnew')
        clear HQ hF' hk' hr' hb' hI' hsub' hnew' hno hdone hq' hr0' hmu
        gi_wp2_with fail
        have hs7 := set_same (set_same HRU.out 0 (.int .i64 bg)) 1 (.int .i64 bt)
        have hnr : n0.heap.size ≤ w.heap.size := HF.out.ext.size
        have hmne : bm ≠ w.heap.size := by rintro rfl; have h1 := HMU.out; obtain ⟨es, ck, h1, _⟩ := h1; rw [HRU.out] at h1; cases h1
        have hk7 : KM bm w (((wr.putObj bm o).setCell ⟨w.heap.size, 0, none⟩ (.int .i64 bg)).setCell ⟨w.heap.size, 1, none⟩ (.int .i64 bt)) := (HKU.out.set (Nat.le_refl _) 0 _).set (Nat.le_refl _) 1 _
        have hx7 : Ext n0 (((wr.putObj bm o).setCell ⟨w.heap.size, 0, none⟩ (.int .i64 bg)).setCell ⟨w.heap.size, 1, none⟩ (.int .i64 bt)) := Ext.set (Ext.set HXU.out hnr 0 _) hnr 1 _
        have hm7 : GMapAt (.int .i64) (((wr.putObj bm o).setCell ⟨w.heap.size, 0, none⟩ (.int .i64 bg)).setCell ⟨w.heap.size, 1, none⟩ (.int .i64 bt)) bm _ := HMU.out.kept fun o ho => by rw [set_other hmne, set_other hmne]; exact ho
        have hFF := hid (HF.out.km hx7 hk7 hm7 HOK.out)
        have HK7 := hid hk7
        clear hk7 hx7 hm7
        generalize ((wr.putObj bm o).setCell ⟨w.heap.size, 0, none⟩ (.int .i64 bg)).setCell ⟨w.heap.size, 1, none⟩ (.int .i64 bt) = W7 at *
        have hc := cell_of hs7
        exact bodyPost_ret (v := .agg #[.int .i64 bg, .int .i64 bt]) (by simp [results, Tryz.results102, go_sem, hc]) rfl ⟨bg, bt, _, rfl, hFF.out, List.mem_append_right _ (List.mem_singleton.2 rfl), fun p hp => List.mem_append_left _ (HSB.out.1 p hp), fun p hp => by
          rcases List.mem_append.1 hp with h | h
          · rcases HSB.out.2 p h with h | ⟨c, h1, h2⟩
            · exact .inl h
            · exact .inr ⟨c, Nat.le_of_lt h1, h2⟩
          · rw [List.mem_singleton] at h
            exact .inr ⟨a, Nat.le_refl _, by rw [h]⟩, HK7.out⟩
end
section
open Go Go.RowKit Go.Shelf

theorem zeroSpOk (xs : List Int) : SpOk xs.length (balF xs) [(.int .i64 0, .agg #[.int .i64 0, .int .i64 0])] := by
  refine ⟨List.mem_singleton.2 rfl, fun p hp => ?_⟩
  rw [List.mem_singleton] at hp
  exact ⟨0, 0, 0, hp, .inl ⟨rfl, rfl, rfl⟩⟩
set_option maxRecDepth 100000 in
set_option maxHeartbeats 16000000 in
theorem splits_any (v : Value) (xs : List Int) (w : World) (hv : IntsAt w v xs) (hl : xs.length ≤ 10) (hx : ∀ x ∈ xs, -1000000 ≤ x ∧ x ≤ 1000000) (hs : xs.sum = 0) :
    Cal 86 #[v] w fun e w' => ∃ (bm : Nat) (m : GMap) (g t : Nat), e = .returned (.map (some bm)) ∧ Ext w w' ∧ Hid (w.heap.size ≤ bm ∧ GMapAt (.int .i64) w' bm m ∧ SpOk xs.length (balF xs) m ∧ entG m (openTo xs xs.length) g t) := by
  obtain ⟨da, dc, rfl, _⟩ := id hv
  have HV := hid hv
  have HL := hid hl
  have HXB := hid hx
  have HSM := hid hs
  have hmm := @run_makeMap Tryz.prog
  have hx1 : Ext w ((w.alloc (.cells #[.slice da xs.length dc] 94)).alloc (.map #[] 0)) := ((Ext.refl _).alloc _).alloc _
  have hm1 : GMapAt (.int .i64) ((w.alloc (.cells #[.slice da xs.length dc] 94)).alloc (.map #[] 0)) (w.heap.size + 1) [] := by
    have := GMapAt.made (.int .i64) (w.alloc (.cells #[.slice da xs.length dc] 94)); rwa [World.size_alloc] at this
  obtain ⟨o, hup, hm2⟩ := gupdate_new hm1 (show MapKept.IsKey (.int .i64) (.int .i64 0) from rfl) (by simp) (.agg #[.int .i64 0, .int .i64 0]) Tryz.underlying132 Tryz.underlying134
  have hx2 : Ext w (((w.alloc (.cells #[.slice da xs.length dc] 94)).alloc (.map #[] 0)).putObj (w.heap.size + 1) o) := below_put hx1 (by omega) o
  have hb2 : (((w.alloc (.cells #[.slice da xs.length dc] 94)).alloc (.map #[] 0)).putObj (w.heap.size + 1) o).heap[w.heap.size]? = some (.cells #[.slice da xs.length dc] 94 (0, 0)) := by
    rw [World.putObj_heap_other (by omega)]
    exact ((Ext.refl _).alloc _).block (Ext.new (Ext.refl _))
  have hsz : (((w.alloc (.cells #[.slice da xs.length dc] 94)).alloc (.map #[] 0)).putObj (w.heap.size + 1) o).heap.size = w.heap.size + 2 := by simp
  have HX2 := hid hx2
  have HM2 := hid hm2
  have HB2 := hid hb2
  have HSZ := hid hsz
  clear hv hl hx hs hx1 hm1 hm2 hx2 hb2 hsz
  gi_enter Tryz.func86, Tryz.ntmps86
  gi_upto_region 2 with fail
  have hx3 : Ext w (((((w.alloc (.cells #[.slice da xs.length dc] 94)).alloc (.map #[] 0)).putObj (w.heap.size + 1) o)).alloc (.cells #[.map (some (w.heap.size + 1))] 132)) := HX2.out.alloc _
  have hy3 := (Ext.refl ((((w.alloc (.cells #[.slice da xs.length dc] 94)).alloc (.map #[] 0)).putObj (w.heap.size + 1) o))).alloc (.cells #[.map (some (w.heap.size + 1))] 132)
  have hb1 : (((((w.alloc (.cells #[.slice da xs.length dc] 94)).alloc (.map #[] 0)).putObj (w.heap.size + 1) o)).alloc (.cells #[.map (some (w.heap.size + 1))] 132)).heap[w.heap.size + 1 + 1]? = some (.cells #[.map (some (w.heap.size + 1))] 132 (0, 0)) := by
    have := Ext.new (w := (((w.alloc (.cells #[.slice da xs.length dc] 94)).alloc (.map #[] 0)).putObj (w.heap.size + 1) o)) (o := .cells #[.map (some (w.heap.size + 1))] 132) (Ext.refl _); rwa [HSZ.out] at this
  have HX3 := hid hx3
  have HB1 := hid hb1
  have HB23 := hid (hy3.block HB2.out)
  have HM3 := hid (HM2.out.mono hy3)
  have HS3 : Hid (w.heap.size + 1 < w.heap.size + 1 + 1) := hid (by omega)
  have HS4 : Hid (w.heap.size < w.heap.size + 1) := hid (by omega)
  clear hx3 hy3 hb1 HX2 HM2 HB2 HSZ hup hmm
  generalize ((((w.alloc (.cells #[.slice da xs.length dc] 94)).alloc (.map #[] 0)).putObj (w.heap.size + 1) o)).alloc (.cells #[.map (some (w.heap.size + 1))] 132) = W3 at *
  generalize w.heap.size + 1 + 1 = B1 at *
  generalize w.heap.size + 1 = bm at *
  have hx4 : Ext W3 (W3.alloc (.cells #[.nilFunc] 151)) := (Ext.refl _).alloc _
  have hb3 : (W3.alloc (.cells #[.nilFunc] 151)).heap[W3.heap.size]? = some (.cells #[.nilFunc] 151 (0, 0)) := Ext.new (Ext.refl _)
  have hs5 : B1 < W3.heap.size := lt_of_block HB1.out
  gi_upto_region 3 with fail
  have HX4 := hid (HX3.out.trans hx4)
  have HB14 := hid (hx4.block HB1.out)
  have HB24 := hid (hx4.block HB23.out)
  have HM4 := hid (HM3.out.mono hx4)
  have HS5 := hid hs5
  clear hx4 hs5 HX3 HB1 HB23 HM3
  generalize W3.alloc (.cells #[.nilFunc] 151) = W4 at *
  generalize W3.heap.size = B3 at *
  have c3 := cell_of hb3
  have f3 := free_of hb3
  have l3 := lt_of_block hb3
  gi_upto_region 4 with fail
  have hx5 : Ext w (W4.setCell ⟨B3, 0, none⟩ (.func (.func 102) #[] #[.pointer (some ⟨B1, 0, none⟩), .pointer (some ⟨w.heap.size, 0, none⟩), .pointer (some ⟨B3, 0, none⟩)])) := Ext.set HX4.out (by have := HS5.out; have := HS4.out; have := HS3.out; omega) 0 _
  have h3' := set_same hb3 0 (.func (.func 102) #[] #[.pointer (some ⟨B1, 0, none⟩), .pointer (some ⟨w.heap.size, 0, none⟩), .pointer (some ⟨B3, 0, none⟩)])
  have h1' : (W4.setCell ⟨B3, 0, none⟩ (.func (.func 102) #[] #[.pointer (some ⟨B1, 0, none⟩), .pointer (some ⟨w.heap.size, 0, none⟩), .pointer (some ⟨B3, 0, none⟩)])).heap[B1]? = _ := (set_other (by have := HS5.out; omega) 0 _).trans HB14.out
  have h2' : (W4.setCell ⟨B3, 0, none⟩ (.func (.func 102) #[] #[.pointer (some ⟨B1, 0, none⟩), .pointer (some ⟨w.heap.size, 0, none⟩), .pointer (some ⟨B3, 0, none⟩)])).heap[w.heap.size]? = _ := (set_other (by have := HS5.out; have := HS4.out; have := HS3.out; omega) 0 _).trans HB24.out
  have hm' : GMapAt (.int .i64) (W4.setCell ⟨B3, 0, none⟩ (.func (.func 102) #[] #[.pointer (some ⟨B1, 0, none⟩), .pointer (some ⟨w.heap.size, 0, none⟩), .pointer (some ⟨B3, 0, none⟩)])) bm _ := HM4.out.kept fun o ho => by rw [set_other (by have := HS5.out; have := HS3.out; omega)]; exact ho
  clear hb3 c3 f3 l3
  have HFA := hid (FindAt.mk (dv := .slice da xs.length dc) (d := xs) hx5 h1' h2' h3' hm' (zeroSpOk xs))
  have HB0 := hid (And.intro h1' h2')
  have HBS : Hid (w.heap.size < bm) := HS4
  clear hx5 h1' h2' h3' hm' HX4 HB14 HB24 HM4
  generalize W4.setCell ⟨B3, 0, none⟩ (.func (.func 102) #[] #[.pointer (some ⟨B1, 0, none⟩), .pointer (some ⟨w.heap.size, 0, none⟩), .pointer (some ⟨B3, 0, none⟩)]) = W5 at *
  have HOP := hid (fun (u : World) (hu : Ext W5 u) => open_any (.slice da xs.length dc) xs u (HV.out.mono (HFA.out.ext.trans hu)) HL.out)
  have HFI := hid (fun (u : World) (hu : Ext W5 u) => find_any w (.slice da xs.length dc) xs bm B1 w.heap.size B3 HV.out HL.out HXB.out (Nat.le_of_lt HBS.out) (openTo xs xs.length + 1) (openTo xs xs.length) _ u (by omega) (openTo_lt xs xs.length) (by rw [tal_open]; exact HSM.out) (HFA.out.mono hu))
  have c1 : ∀ e : Later W5, e.1.cell? ⟨w.heap.size, 0, none⟩ = some (.slice da xs.length dc) := fun e => by rw [cell_of (Ext.block e.grown HFA.out.b2)]; rfl
  have c3 : ∀ e : Later W5, e.1.cell? ⟨B3, 0, none⟩ = some (.func (.func 102) #[] #[.pointer (some ⟨B1, 0, none⟩), .pointer (some ⟨w.heap.size, 0, none⟩), .pointer (some ⟨B3, 0, none⟩)]) := fun e => by rw [cell_of (Ext.block e.grown HFA.out.b3)]; rfl
  refine quiet_wide 3 (by kernel_rfl) (by kernel_rfl) ?_
  simp only [List.take_succ_cons, List.take_zero, List.drop_succ_cons, List.drop_zero]
  have HC := hid (fun e : Later W5 => HOP.out e.1 e.grown)
  repeat (any_goals (first | go_big_quiet_step ((go_at_call 87; with_reducible exact Cal.quiet_same (HC.out _))) | quiet_step ((go_at_call 87; with_reducible exact Cal.quiet_same (HC.out _)))))
  refine wpQuiet_nil ?_
  rintro w6 ⟨⟨w6q, hx6⟩, hew6⟩
  obtain rfl : w6 = w6q := hew6
  have hx6 : Ext W5 w6 := hx6
  clear c1 c3
  have HCF := hid (HFI.out w6 hx6)
  clear HFI HOP HC
  gi_wp2_with (gi_at_call 102; ((with_reducible refine (HCF.out).mono ?_); rintro e w7 ⟨g, t, m2, rfl, hF2, he2, hs2, hn2, hk2⟩; have c1 := cell_of hF2.b1; have HF2 := hid hF2; have HE2 := hid he2; clear hF2 he2 hs2 hn2 hk2))
  go_ret
  exact ⟨bm, m2, g, t, rfl, HF2.out.ext, hid ⟨Nat.le_of_lt HBS.out, HF2.out.map, HF2.out.ok, HE2.out⟩⟩
end
end Go.Proofs.YtjocoadhalimjaaGreat
