/- LastUnpaid beside WaysOf: the facts that the law asks; contracts beside leavers. -/
import Derived.Test.YtkhmooemgjichaaKa
import Derived.Test.YtkhmooemgjichaaLastI
import Derived.Test.YtkhmooemgjichaaCoinR
namespace Go.Proofs.Ytkhmooemgjichaa
open Go Go.Conc Go.RowKit

theorem last_facts {cs : List Int} (h : cLast cs = true) : vCoins cs = true ∧ (0 ≤ (lastP cs).1 ∧ (lastP cs).1 ≤ 900) ∧ (0 ≤ (lastP cs).2 ∧ (lastP cs).2 ≤ 900) ∧
    (∀ a : Int, (lastP cs).1 < a → a ≤ 120 → waysV cs a ≠ 0) ∧ ((lastP cs).1 = 0 ↔ cs.getD 0 0 = 1) ∧ ((lastP cs).1 ≠ 0 → (lastP cs).1 ≤ 120 → waysV cs (lastP cs).1 = 0) ∧
    (cs.length = 2 → (lastP cs).1 = max (cs.getD 0 0 * cs.getD 1 0 - cs.getD 0 0 - cs.getD 1 0) 0 ∧ (lastP cs).2 = (cs.getD 0 0 - 1) * (cs.getD 1 0 - 1) / 2) := by
  have hvc : vCoins cs = true ∧ gcdL cs = 1 := by
    unfold cLast at h
    simpa using h
  obtain ⟨hvc, hg⟩ := hvc
  have hp := vc_pos hvc
  have hlen := vc_len hvc
  have hl : lastP cs = lastU (fun x => pyB cs x) 900 := if_pos h
  rw [hl]
  obtain ⟨f1, f2, f3, f4, f5, f6⟩ := lastU_facts (fun x => pyB cs x) 900
  have c0 := vc_at hvc (i := 0) (by omega)
  generalize hm : (lastU (fun x => pyB cs x) 900).1 = m at *
  have hpy : ∀ x : Int, pyB cs x = true ↔ 0 ≤ fwV cs x := fun x => by unfold pyB; rw [decide_eq_true_iff]
  have hone : cs.getD 0 0 = 1 → ∀ x : Nat, pyB cs (x : Int) = true := by
    intro e x
    rw [hpy]
    have hm : (1 : Int) ∈ cs := by rw [← e]; exact getD_mem (by omega)
    have : Pays cs x (x : Int) := by
      have := Pays.times hm x
      simpa using this
    exact (fw_le hp this).1
  refine ⟨hvc, ⟨f1, by omega⟩, ⟨f3, by omega⟩, fun a h1 h2 => ?_, ⟨fun e => ?_, fun e => ?_⟩, fun h1 h2 => ?_, fun h2 => ?_⟩
  · have := f5 a.toNat (by omega) (by omega)
    rw [show ((a.toNat : Nat) : Int) = a by omega, hpy] at this
    rw [ways_at hvc (by omega) h2]
    have := (wy_pos_iff hp).2 this
    omega
  · have := f5 1 (by omega) (by omega)
    rw [hpy] at this
    have hpay := fw_pays hp this
    have hb := fw_bound hp this
    have hge := fw_ge hp ((1 : Nat) : Int)
    generalize hk : (fwV cs ((1 : Nat) : Int)).toNat = k at hpay
    cases k with
    | zero => rw [pays_zero] at hpay; simp at hpay
    | succ k =>
      rw [pays_succ] at hpay
      obtain ⟨c, hc, hr⟩ := hpay
      have h3 := hr.nonneg hp
      have h4 := hp c hc
      have h5 : c = 1 := by omega
      obtain ⟨i, hi, e2⟩ := mem_getD hc
      rcases Nat.eq_zero_or_pos i with rfl | h0
      · omega
      · have := vc_lt hvc i 0 h0 hi
        omega
  · rcases f6 with h | h
    · exact h
    · have := hone e m.toNat
      rw [h] at this
      exact absurd this (by decide)
  · rcases f6 with h | h
    · exact absurd h h1
    · rw [show ((m.toNat : Nat) : Int) = m by omega] at h
      rw [ways_at hvc f1 h2]
      have h3 : ¬ 0 < wyV cs m := fun h4 => by
        rw [wy_pos_iff hp, ← hpy, h] at h4
        exact absurd h4 (by decide)
      have := wy_nonneg cs m
      omega
  · obtain ⟨x, y, rfl⟩ : ∃ x y, cs = [x, y] := by
      match cs, h2 with
      | [x, y], _ => exact ⟨x, y, rfl⟩
    have c1 := vc_at hvc (i := 1) (by simp)
    have clt := vc_lt hvc 1 0 (by omega) (by simp)
    have e0 : [x, y].getD 0 0 = x := rfl
    have e1 : [x, y].getD 1 0 = y := rfl
    simp only [e0, e1] at c0 c1 clt hone ⊢
    have hle : x * y ≤ 30 * 30 := Int.mul_le_mul c0.2 c1.2 (by omega) (by omega)
    by_cases hx1 : x = 1
    · subst hx1
      have hall := hone rfl
      have hz : lastU (fun x => pyB [1, y] x) 900 = lastU (fun x => pyB [1, y] x) 0 := by
        have := lastU_ext (p := fun x => pyB [1, y] x) (t := 0) 900 (fun x _ _ => hall x)
        simpa using this
      rw [hz] at hm ⊢
      simp only [lastU] at hm ⊢
      refine ⟨by rw [← hm]; omega, by simp⟩
    · have h3 := two_last (a := x) (b := y) (by omega) (by omega) hg (t := 900) (by omega)
      rw [h3] at hm ⊢
      have hN : 0 ≤ x * y - x - y := by
        have := Int.mul_nonneg (show 0 ≤ x - 2 by omega) (show 0 ≤ y - 2 by omega)
        rw [Int.sub_mul, Int.mul_sub] at this
        omega
      exact ⟨by rw [← hm]; omega, rfl⟩

theorem drawLast_B (a : Option Addr) (n cap : Nat) (w : World) (h : IsBytes w a n) (hc : n ≤ cap) :
    CallsB Try.prog 13 #[.slice a n cap] w fun x w' => ∃ xs, Own w' w.heap.size x xs ∧ xs.length ≤ 6 ∧ BelX w.heap.size w w' :=
  CallsB.ofCalls plain_prog (fun v u τ d h => by obtain ⟨xs, h2, h3, h5⟩ := h; exact ⟨xs, own_on h2 τ d, h3, h5.on τ d⟩) fun τ => (DrawLastUnpaid_any a n cap (On w τ 0) h hc).mono fun e w' h => by
    obtain ⟨v', xs, rfl, h2, h3, h5⟩ := h
    exact ⟨_, rfl, xs, h2, h3, BelX.ofOn h5⟩
theorem last_B (v : Value) (cs : List Int) (w : World) (hv : IsInts w v cs) (hl : cs.length ≤ 9223372036854775807) :
    CallsB Try.prog 14 #[v] w fun x w' => x = .tuple #[.int .i64 (lastP cs).1, .int .i64 (lastP cs).2, .bool (cLast cs)] ∧ BelX w.heap.size w w' :=
  CallsB.ofCalls plain_prog (fun v u τ d h => ⟨h.1, h.2.on τ d⟩) fun τ => (LastUnpaid_impl v cs (On w τ 0) hv hl).mono fun e w' h => by
    obtain ⟨rfl, h2⟩ := h
    exact ⟨_, rfl, rfl, BelX.ofOn h2⟩
theorem lastSpec_B (v : Value) (cs : List Int) (w : World) (hv : IsInts w v cs) (hl : cs.length ≤ 9223372036854775807) :
    CallsB Try.prog 15 #[v] w fun x w' => x = .tuple #[.int .i64 (lastP cs).1, .int .i64 (lastP cs).2, .bool (cLast cs)] ∧ BelX w.heap.size w w' :=
  CallsB.ofCalls plain_prog (fun v u τ d h => ⟨h.1, h.2.on τ d⟩) fun τ => (LastUnpaid_spec v cs (On w τ 0) hv hl).mono fun e w' h => by
    obtain ⟨rfl, h2⟩ := h
    exact ⟨_, rfl, rfl, BelX.ofOn h2⟩
end Go.Proofs.Ytkhmooemgjichaa
