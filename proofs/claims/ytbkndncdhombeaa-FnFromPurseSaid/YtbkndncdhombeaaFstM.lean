/- The fewest coins taken from the last one to the first: the state behind any numbers of them. -/
import Derived.Test.YtbkndncdhombeaaGstM
namespace Go.Proofs.Ytbkndncdhombeaa
open Go.RowKit

/-- What is taken and what is left, by the fewest. -/
def fst' (cs : List Int) (a : Int) (pre : List (Fin cs.length)) : List Int × Int := pre.foldl (fun s x => (s.1.set x.val (s.1.getD x.val 0 + takeC cs (nth cs x) s.2), s.2 - takeC cs (nth cs x) s.2 * nth cs x)) (List.replicate cs.length 0, a)

theorem fst_nil (cs : List Int) (a : Int) : fst' cs a [] = (List.replicate cs.length 0, a) := rfl
theorem fst_snoc (cs : List Int) (a : Int) (pre : List (Fin cs.length)) (x : Fin cs.length) : fst' cs a (pre ++ [x]) = ((fst' cs a pre).1.set x.val ((fst' cs a pre).1.getD x.val 0 + takeC cs (nth cs x) (fst' cs a pre).2), (fst' cs a pre).2 - takeC cs (nth cs x) (fst' cs a pre).2 * nth cs x) := by
  unfold fst'
  rw [List.foldl_append]
  rfl

theorem fst_facts {cs : List Int} (h : vCoins cs = true) {a : Int} (h0 : 0 ≤ a) (ha : a ≤ 120) (hf : 0 ≤ fwV cs a) (pre : List (Fin cs.length)) : (fst' cs a pre).1.length = cs.length ∧ 0 ≤ (fst' cs a pre).2 ∧ (fst' cs a pre).2 ≤ a ∧ 0 ≤ fwV cs (fst' cs a pre).2 ∧ ∀ i, 0 ≤ (fst' cs a pre).1.getD i 0 ∧ (fst' cs a pre).1.getD i 0 ≤ 120 * pre.length := by
  have hp := vc_pos h
  have key : ∀ (r : List (Fin cs.length)), (fst' cs a r.reverse).1.length = cs.length ∧ 0 ≤ (fst' cs a r.reverse).2 ∧ (fst' cs a r.reverse).2 ≤ a ∧ 0 ≤ fwV cs (fst' cs a r.reverse).2 ∧ ∀ i, 0 ≤ (fst' cs a r.reverse).1.getD i 0 ∧ (fst' cs a r.reverse).1.getD i 0 ≤ 120 * r.length := by
    intro r
    induction r with
    | nil =>
      refine ⟨by simp [fst_nil], by simpa [fst_nil] using h0, by simp [fst_nil], by simpa [fst_nil] using hf, fun i => ?_⟩
      have : (fst' cs a [].reverse).1.getD i 0 = 0 := by
        show (List.replicate cs.length (0 : Int)).getD i 0 = 0
        rw [List.getD_eq_getElem?_getD, List.getElem?_replicate]
        split <;> rfl
      rw [this]
      simp
    | cons x r ih =>
      obtain ⟨i1, i2, i3, i4, i5⟩ := ih
      rw [List.reverse_cons, fst_snoc]
      have hc := getD_mem x.isLt
      have hx := hp _ hc
      have hx' : 1 ≤ nth cs x := hx
      have ht := take_facts hp hc _ _ (Nat.le_refl _) i4
      have hl := take_less hp hc i2 (takeC cs (nth cs x) (fst' cs a r.reverse).2) (Nat.le_refl _)
      have hk := Int.mul_le_mul_of_nonneg_left hx' (show 0 ≤ (takeC cs (nth cs x) (fst' cs a r.reverse).2 : Int) by omega)
      have hl' : (takeC cs (nth cs x) (fst' cs a r.reverse).2 : Int) * nth cs x ≤ (fst' cs a r.reverse).2 := hl
      refine ⟨by simpa using i1, by simp only []; omega, by simp only []; omega, ht.2.1, fun i => ?_⟩
      simp only []
      by_cases hi : i < (fst' cs a r.reverse).1.length
      · rw [getD_setI _ _ _ _ hi]
        have h5 := i5 i
        have h6 := i5 x.val
        have hlen : ((x :: r).length : Int) = r.length + 1 := by simp
        rw [hlen]
        split <;> omega
      · have e : ((fst' cs a r.reverse).1.set x.val ((fst' cs a r.reverse).1.getD x.val 0 + takeC cs (nth cs x) (fst' cs a r.reverse).2)).getD i 0 = 0 := by
          rw [List.getD_eq_getElem?_getD, List.getElem?_eq_none (by simp; omega)]; rfl
        rw [e]
        have hlen : ((x :: r).length : Int) = r.length + 1 := by simp
        omega
  have := key pre.reverse
  rw [List.reverse_reverse, List.length_reverse] at this
  exact this

theorem fst_end {cs : List Int} (h : vCoins cs = true) (a : Int) {ys : List (Fin cs.length)} (hy : (ys.map (nth cs)).reverse = cs) : (fst' cs a ys).1 = fcL cs a := by
  obtain ⟨hlen, hat⟩ := back_at h hy
  have key : ∀ k : Nat, k ≤ ys.length → ∃ Q : List Int, (fst' cs a (ys.take k)).1 = List.replicate (cs.length - k) 0 ++ Q ∧ fcL cs a = cntR cs (cs.take (cs.length - k)).reverse (fst' cs a (ys.take k)).2 ++ Q := by
    intro k
    induction k with
    | zero => intro _; exact ⟨[], by simp [fst_nil], by simp [fst_nil, fcL]⟩
    | succ k ih =>
      intro hk
      obtain ⟨Q, h1, h2⟩ := ih (by omega)
      have hk' : k < ys.length := by omega
      have hi : (ys[k]).val = cs.length - (k + 1) := by have := hat k hk'; omega
      have hn : nth cs ys[k] = cs.getD (cs.length - (k + 1)) 0 := by rw [← hi]; rfl
      rw [List.take_succ_eq_append_getElem hk', fst_snoc, hn, hi]
      rw [show cs.length - k = (cs.length - (k + 1)) + 1 by omega] at h1 h2
      rw [rep_succ] at h1
      refine ⟨((takeC cs (cs.getD (cs.length - (k + 1)) 0) (fst' cs a (ys.take k)).2 : Nat) : Int) :: Q, ?_, ?_⟩
      · simp only []
        rw [h1, rep_get, Int.zero_add, rep_set]
      · simp only []
        rw [h2, cntR_app cs (by omega)]
  obtain ⟨Q, h1, h2⟩ := key ys.length (Nat.le_refl _)
  rw [List.take_length, hlen, Nat.sub_self] at h1 h2
  rw [h1, h2, List.take_zero]
  simp [cntR]

end Go.Proofs.Ytbkndncdhombeaa
