/- Contracts that the laws over WaysOf use, beside leavers. -/
import Derived.Test.YtkhmooemgjichaaHz
import Derived.Test.YtkhmooemgjichaaHw
import Derived.Test.YtkhmooemgjichaaFcI
namespace Go.Proofs.Ytkhmooemgjichaa
open Go Go.Conc Go.RowKit

theorem few_B (v : Value) (cs : List Int) (a : Int) (w : World) (hv : IsInts w v cs) (hl : cs.length ≤ 9223372036854775807) :
    CallsB Try.prog 10 #[v, .int .i64 a] w fun x w' => ∃ v', x = .tuple #[.int .i64 (fewN cs a), v', .bool (cFew cs a)] ∧ BelX w.heap.size w w' :=
  CallsB.ofCalls plain_prog (fun v u τ d h => by obtain ⟨v', h1, h2⟩ := h; exact ⟨v', h1, h2.on τ d⟩) fun τ => (FewestCoins_impl v cs a (On w τ 0) hv hl).mono fun e w' h => by
    obtain ⟨v', rfl, _, h2⟩ := h
    exact ⟨_, rfl, v', rfl, BelX.ofOn h2⟩
theorem ints_cell {w : World} {b off n cap : Nat} {xs : List Int} (h : IsInts w (.slice (some ⟨b, off, none⟩) n cap) xs) {j : Nat} (hj : j < xs.length) : w.cell? ⟨b, off + j, none⟩ = some (.int .i64 (xs.getD j 0)) := by
  obtain ⟨a, cap', e, hc⟩ := h
  simp only [Value.slice.injEq] at e
  obtain ⟨rfl, rfl, rfl⟩ := e
  obtain ⟨b', off', e', hcell⟩ := hc j hj
  simp only [Option.some.injEq, Addr.mk.injEq, and_true] at e'
  obtain ⟨rfl, rfl⟩ := e'
  exact hcell
theorem ints_take {w : World} {b off cap : Nat} {xs : List Int} {k : Nat} (hk : k ≤ xs.length) (hc : ∀ j, j < xs.length → w.cell? ⟨b, off + j, none⟩ = some (.int .i64 (xs.getD j 0))) : IsInts w (.slice (some ⟨b, off, none⟩) k cap) (xs.take k) := by
  have hl : (xs.take k).length = k := by rw [List.length_take]; omega
  refine ⟨_, cap, by rw [hl], fun j hj => ⟨b, off, rfl, ?_⟩⟩
  rw [hl] at hj
  rw [hc j (by omega), List.getD_eq_getElem?_getD, List.getD_eq_getElem?_getD, List.getElem?_take, if_pos hj]
/-- Where WaysOf is there. -/
theorem ways_in {cs : List Int} {a : Int} (h : ¬ waysV cs a < 0) : vCoins cs = true ∧ (0 ≤ a ∧ a ≤ 120) ∧ waysV cs a = wyV cs a := by
  unfold waysV at h ⊢
  split at h
  · rename_i hh
    refine ⟨hh.1, ?_, if_pos hh⟩
    have := hh.2
    unfold inR at this
    simpa using this
  · exact absurd (by omega) h
theorem ways_at {cs : List Int} {a : Int} (h : vCoins cs = true) (h0 : 0 ≤ a) (h1 : a ≤ 120) : waysV cs a = wyV cs a := by
  unfold waysV
  rw [if_pos ⟨h, by unfold inR; simp; omega⟩]
theorem vc_take {cs : List Int} (h : vCoins cs = true) (j : Nat) (h1 : 1 ≤ j) (h2 : j ≤ cs.length) : vCoins (cs.take j) = true := by
  obtain ⟨hl, hall⟩ := vCoins_iff.1 h
  have hlen : (cs.take j).length = j := by rw [List.length_take]; omega
  refine vCoins_iff.2 ⟨by rw [hlen]; omega, fun i hi => ?_⟩
  rw [hlen] at hi
  have hg : ∀ k, k < j → (cs.take j).getD k 0 = cs.getD k 0 := fun k hk => by rw [List.getD_eq_getElem?_getD, List.getD_eq_getElem?_getD, List.getElem?_take, if_pos hk]
  have := hall i (by omega)
  unfold okC at this ⊢
  rw [hg i hi]
  rcases Nat.eq_zero_or_pos i with rfl | h0
  · exact this
  · rw [hg (i - 1) (by omega)]
    exact this
theorem all_ways (xs : List Int) (z : Int) (w : World) {b off cap : Nat} (hv : IsInts w (.slice (some ⟨b, off, none⟩) xs.length cap) xs) (hvc : vCoins xs = true) (hz : 0 ≤ z ∧ z ≤ 120) (hcap : xs.length ≤ cap) :
    CallsB Try.prog 8 #[.slice (some ⟨b, off, none⟩) xs.length cap, .int .i64 z] w fun x w' => x = .int .i64 (wyV xs z) ∧ BelX w.heap.size w w' := by
  have h := WaysOf_any _ xs z w hv (by have := (vc_len hvc).2; omega) (by
    intro x n c e
    simp only [Value.slice.injEq] at e
    omega)
  rw [ways_at hvc hz.1 hz.2] at h
  exact h
theorem sub_ways (xs : List Int) (z : Int) (k : Nat) (w : World) {b off cap : Nat} (hv : IsInts w (.slice (some ⟨b, off, none⟩) xs.length cap) xs) (hvc : vCoins (xs.take k) = true) (hz : 0 ≤ z ∧ z ≤ 120) (hk : k ≤ xs.length) (hcap : k ≤ cap) :
    CallsB Try.prog 8 #[.slice (some ⟨b, off, none⟩) k cap, .int .i64 z] w fun x w' => x = .int .i64 (wyV (xs.take k) z) ∧ BelX w.heap.size w w' := by
  have hl : (xs.take k).length = k := by rw [List.length_take]; omega
  have h := all_ways (xs.take k) z w (b := b) (off := off) (cap := cap) (by rw [hl]; exact ints_take hk fun j hj => ints_cell hv hj) hvc hz (by omega)
  rw [hl] at h
  exact h
end Go.Proofs.Ytkhmooemgjichaa
