/- FewestCoins and GreedyCoins, in the model. -/
import Derived.Test.YtbkndncdhombeaaCoinF
namespace Go.Proofs.Ytbkndncdhombeaa
open Go.RowKit

/-- Is there an answer of FewestCoins? -/
def cFew (cs : List Int) (a : Int) : Bool := vCoins cs && inR a 0 120 && decide (0 ≤ fwV cs a)
/-- The list that FewestCoins answers. -/
def fewL (cs : List Int) (a : Int) : List Int := if cFew cs a = true then fcL cs a else []
/-- The number that FewestCoins answers. -/
def fewN (cs : List Int) (a : Int) : Int := if cFew cs a = true then fwV cs a else 0

theorem cntR_app (cs : List Int) {i : Nat} (h : i < cs.length) (x : Int) (Q : List Int) :
    cntR cs (cs.take (i + 1)).reverse x ++ Q = cntR cs (cs.take i).reverse (x - takeC cs (cs.getD i 0) x * cs.getD i 0) ++ ((takeC cs (cs.getD i 0) x : Nat) : Int) :: Q := by
  rw [take_snoc cs h, List.reverse_append]
  show cntR cs (cs.getD i 0 :: (cs.take i).reverse) x ++ Q = _
  rw [cntR, List.append_assoc]
  rfl

theorem rep_set (i : Nat) (k : Int) (Q : List Int) (u : Int) : (List.replicate i (0 : Int) ++ u :: Q).set i k = List.replicate i (0 : Int) ++ k :: Q := by
  rw [List.set_append_right _ _ (by simp)]
  simp

theorem rep_get (i : Nat) (u : Int) (Q : List Int) : (List.replicate i (0 : Int) ++ u :: Q).getD i 0 = u := by
  rw [List.getD_eq_getElem?_getD, List.getElem?_append_right (by simp)]
  simp

theorem rep_succ (i : Nat) (Q : List Int) : List.replicate (i + 1) (0 : Int) ++ Q = List.replicate i (0 : Int) ++ 0 :: Q := by
  rw [List.replicate_succ', List.append_assoc]
  rfl

theorem take_less {cs : List Int} (hp : Pos cs) {c x : Int} (hc : c ∈ cs) (h0 : 0 ≤ x) (k : Nat) (hk : k ≤ takeC cs c x) : (k : Int) * c ≤ x := by
  have : ∀ (n : Nat) (x : Int), x.toNat ≤ n → 0 ≤ x → ((takeC cs c x : Nat) : Int) * c ≤ x := by
    intro n
    induction n with
    | zero =>
      intro x hn h0
      have := hp c hc
      rw [takeC_end (hp c hc) (by omega)]
      simpa using h0
    | succ n ih =>
      intro x hn h0
      have := hp c hc
      by_cases h : c ≤ x ∧ fwV cs (x - c) = fwV cs x - 1
      · rw [takeC_more (hp c hc) h.1 h.2]
        have := ih (x - c) (by omega) (by omega)
        rw [Int.natCast_add, Int.add_mul]
        omega
      · rw [takeC_end (hp c hc) h]
        simpa using h0
  have h1 := this _ x (Nat.le_refl _) h0
  have h2 := Int.mul_le_mul_of_nonneg_right (show (k : Int) ≤ (takeC cs c x : Nat) by omega) (show 0 ≤ c by have := hp c hc; omega)
  omega

theorem cFew_no1 {cs : List Int} {a : Int} (h : vCoins cs = false) : cFew cs a = false := by unfold cFew; rw [h]; rfl
theorem cFew_no2 {cs : List Int} {a : Int} (h : inR a 0 120 = false) : cFew cs a = false := by unfold cFew; rw [h]; simp
theorem cFew_no3 {cs : List Int} {a : Int} (h : fwV cs a < 0) : cFew cs a = false := by unfold cFew; rw [decide_eq_false (show ¬ 0 ≤ fwV cs a by omega)]; simp
theorem cFew_yes {cs : List Int} {a : Int} (h1 : vCoins cs = true) (h2 : inR a 0 120 = true) (h3 : 0 ≤ fwV cs a) : cFew cs a = true := by unfold cFew; rw [h1, h2, decide_eq_true h3]; rfl
theorem cFew_facts {cs : List Int} {a : Int} (h : cFew cs a = true) : vCoins cs = true ∧ (0 ≤ a ∧ a ≤ 120) ∧ 0 ≤ fwV cs a := by
  unfold cFew at h
  rw [Bool.and_eq_true, Bool.and_eq_true, decide_eq_true_iff] at h
  exact ⟨h.1.1, inR_true h.1.2, h.2⟩

theorem ret_few {a a' : Int} {v : Value} {r r' : Bool} (h1 : a = a') (h2 : r = r') : Ending.returned (.tuple #[.int .i64 a, v, .bool r]) = .returned (.tuple #[.int .i64 a', v, .bool r']) := by rw [h1, h2]

end Go.Proofs.Ytbkndncdhombeaa
