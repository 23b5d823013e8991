/- The chapter's examples, reckoned. -/
import Derived.Test.YtfkehbhlagpmcaaMt
import Derived.Test.YtfkehbhlagpmcaaMl
import Derived.Test.YtfkehbhlagpmcaaBase
set_option linter.unusedSimpArgs false
set_option linter.unusedVariables false
namespace Go.Proofs.Ytfkehbhlagpmcaa
open Go Go.RowKit Go.Shelf
open Au
def exS (c : Int) : Sal := ⟨c, 4, [[20, 12, 5], [15, 14], [10, 3]]⟩
def exB : List Spn := [⟨10, 20⟩, ⟨15, 30⟩, ⟨18, 19⟩, ⟨25, 40⟩, ⟨5, 26⟩]
theorem wn_by {s : Sal} (m : List Bd) (h : m.isPerm (bids s) = true) (hs : (m.zip (m.drop 1)).all (fun p => bLt p.1 p.2) = true) : wn s = m.take s.crans.toNat := by
  have hp := List.isPerm_iff.1 h
  have hch : ∀ m : List Bd, (m.zip (m.drop 1)).all (fun p => bLt p.1 p.2) = true → sorted m := by
    intro m
    induction m with
    | nil => intro _; exact .nil
    | cons a l ih =>
      intro h
      cases l with
      | nil => exact List.pairwise_singleton _ _
      | cons b l =>
        simp only [List.drop_succ_cons, List.drop_zero, List.zip_cons_cons, List.all_cons, Bool.and_eq_true] at h
        have ih := ih (by simpa using h.2)
        refine List.pairwise_cons.2 ⟨fun x hx => ?_, ih⟩
        rcases List.mem_cons.1 hx with rfl | hx
        · exact bLt_asym h.1
        · have h2 := (List.pairwise_cons.1 ih).1 x hx
          cases hc : bLt x a with
          | false => rfl
          | true => rw [bLt_tr hc h.1] at h2; cases h2
  rw [show wn s = (sortB (bids s)).take s.crans.toNat from rfl, ← sortB_eq hp (hch m hs)]
def exM : List Bd := [⟨0, 0, 20⟩, ⟨1, 0, 15⟩, ⟨1, 1, 14⟩, ⟨0, 1, 12⟩, ⟨2, 0, 10⟩, ⟨0, 2, 5⟩]
theorem ex_wn (c : Int) : wn (exS c) = exM.take c.toNat := wn_by exM (by rfl) (by rfl)
theorem ex_wn0 (c : Int) : wn (without (exS c) 0) = ([⟨1, 0, 15⟩, ⟨1, 1, 14⟩, ⟨2, 0, 10⟩] : List Bd).take c.toNat := wn_by [⟨1, 0, 15⟩, ⟨1, 1, 14⟩, ⟨2, 0, 10⟩] (by rfl) (by rfl)
theorem ex_wn1 (c : Int) : wn (without (exS c) 1) = ([⟨0, 0, 20⟩, ⟨0, 1, 12⟩, ⟨2, 0, 10⟩, ⟨0, 2, 5⟩] : List Bd).take c.toNat := wn_by [⟨0, 0, 20⟩, ⟨0, 1, 12⟩, ⟨2, 0, 10⟩, ⟨0, 2, 5⟩] (by rfl) (by rfl)
theorem ex_wn2 (c : Int) : wn (without (exS c) 2) = ([⟨0, 0, 20⟩, ⟨1, 0, 15⟩, ⟨1, 1, 14⟩, ⟨0, 1, 12⟩, ⟨0, 2, 5⟩] : List Bd).take c.toNat := wn_by [⟨0, 0, 20⟩, ⟨1, 0, 15⟩, ⟨1, 1, 14⟩, ⟨0, 1, 12⟩, ⟨0, 2, 5⟩] (by rfl) (by rfl)
theorem ex_gets (c : Int) (i : Nat) : gets (exS c) i = (exM.take c.toNat).countP fun b => b.buyer == i := by unfold gets; rw [ex_wn]
theorem ex_pays0 (c : Int) : pays (exS c) 0 = sumO (((([⟨1, 0, 15⟩, ⟨1, 1, 14⟩, ⟨2, 0, 10⟩] : List Bd).take c.toNat).filter fun b => !decide (b ∈ exM.take c.toNat))) + 4 * (((exM.take c.toNat).countP fun b => b.buyer == 0 : Nat) - ((((([⟨1, 0, 15⟩, ⟨1, 1, 14⟩, ⟨2, 0, 10⟩] : List Bd).take c.toNat).filter fun b => !decide (b ∈ exM.take c.toNat)).length : Nat) : Int)) := by
  unfold pays lost; rw [ex_gets, ex_wn0, ex_wn]; rfl
theorem ex_pays1 (c : Int) : pays (exS c) 1 = sumO (((([⟨0, 0, 20⟩, ⟨0, 1, 12⟩, ⟨2, 0, 10⟩, ⟨0, 2, 5⟩] : List Bd).take c.toNat).filter fun b => !decide (b ∈ exM.take c.toNat))) + 4 * (((exM.take c.toNat).countP fun b => b.buyer == 1 : Nat) - ((((([⟨0, 0, 20⟩, ⟨0, 1, 12⟩, ⟨2, 0, 10⟩, ⟨0, 2, 5⟩] : List Bd).take c.toNat).filter fun b => !decide (b ∈ exM.take c.toNat)).length : Nat) : Int)) := by
  unfold pays lost; rw [ex_gets, ex_wn1, ex_wn]; rfl
theorem ex_pays2 (c : Int) : pays (exS c) 2 = sumO (((([⟨0, 0, 20⟩, ⟨1, 0, 15⟩, ⟨1, 1, 14⟩, ⟨0, 1, 12⟩, ⟨0, 2, 5⟩] : List Bd).take c.toNat).filter fun b => !decide (b ∈ exM.take c.toNat))) + 4 * (((exM.take c.toNat).countP fun b => b.buyer == 2 : Nat) - ((((([⟨0, 0, 20⟩, ⟨1, 0, 15⟩, ⟨1, 1, 14⟩, ⟨0, 1, 12⟩, ⟨0, 2, 5⟩] : List Bd).take c.toNat).filter fun b => !decide (b ∈ exM.take c.toNat)).length : Nat) : Int)) := by
  unfold pays lost; rw [ex_gets, ex_wn2, ex_wn]; rfl
theorem ex_worth (c : Int) : worth (exS c) = sumO (exM.take c.toNat) + 4 * (c - (exM.take c.toNat).length) := by unfold worth; rw [ex_wn]; rfl
theorem ex_lots : lotsF exB = [0, 3] := by decide
theorem fall_dec {l : List Int} (h1 : l.length ≤ 40) (h2 : ∀ i, i < l.length → 0 ≤ l.getD i 0 ∧ l.getD i 0 ≤ 10000) (h3 : ∀ i j, i ≤ j → j < l.length → l.getD j 0 ≤ l.getD i 0) : Fall l := ⟨h1, h2, h3⟩
example : (gets (exS 3) 0, gets (exS 3) 1, gets (exS 3) 2) = (1, 2, 0) := by rw [ex_gets, ex_gets, ex_gets]; rfl
example : (pays (exS 3) 0, pays (exS 3) 1, pays (exS 3) 2) = (10, 22, 0) := by rw [ex_pays0, ex_pays1, ex_pays2]; decide
example : worth (exS 7) = 80 := by rw [ex_worth]; decide

end Go.Proofs.Ytfkehbhlagpmcaa
