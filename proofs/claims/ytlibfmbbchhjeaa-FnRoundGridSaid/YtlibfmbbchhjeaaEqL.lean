/- Equal tables are told equal by equalLists. -/
import Derived.Test.YtlibfmbbchhjeaaSS
import Derived.Test.YtlibfmbbchhjeaaEqQuiet
namespace Go.Proofs.Ytlibfmbbchhjeaa
open Go.RowKit

set_option maxRecDepth 100000 in
set_option maxHeartbeats 1600000 in
/-- Equal rows are told equal. -/
theorem equalLists_same (v z : Value) (g : List (List Int)) (w : World) (hv : IsGrid w v g) (hz : IsGrid w z g) (hl : g.length ≤ 9223372036854775807) (hr : ∀ i, i < g.length → (rowOf g i).length ≤ 9223372036854775807) :
    Calls Try.prog 40 #[v, z] w fun e w' => e = .returned (.bool true) ∧ Below w.heap.size w w' := by
  obtain ⟨a, cap, rfl, _⟩ := id hv
  obtain ⟨a2, cap2, rfl, _⟩ := id hz
  go_enter Try.func40, Try.ntmps40
  go_wp2
  go_loopw [5] (fun s wr => ∃ i : Nat, i ≤ g.length ∧ s = .int .i64 i ∧ Below w.heap.size w wr) (fun s _ => g.length - (intOf s).toNat)
  case atStart => exact ⟨0, Nat.zero_le _, rfl, Below.refl _ _⟩
  case round =>
    obtain ⟨i, hi, rfl, hbl⟩ := hrel
    by_cases hlt : i < g.length
    · obtain ⟨b, off, ar, cr, rfl, ci, cc⟩ := (hv.below hbl).row i hlt
      obtain ⟨b2, off2, ar2, cr2, rfl, c2, cc2⟩ := (hz.below hbl).row i hlt
      have r1 : IsInts wr (.slice ar (rowOf g i).length cr) (rowOf g i) := ⟨ar, cr, rfl, cc⟩
      have r2 : IsInts wr (.slice ar2 (rowOf g i).length cr2) (rowOf g i) := ⟨ar2, cr2, rfl, cc2⟩
      have i1 : (i : Int) < (g.length : Int) := by omega
      have hri := hr i hlt
      clear cc cc2
      have C1 : Hid (∀ q, Calls Try.prog 22 #[.slice ar (rowOf g i).length cr, .slice ar2 (rowOf g i).length cr2] (wr.drewN q) fun e w' => e = .returned (.bool true) ∧ ∃ m, w' = wr.drewN m) := by
        intro q
        have := equalInts_quiet _ _ _ _ (wr.drewN q) (r1.below (below_drewN (Below.refl _ _) q)) (r2.below (below_drewN (Below.refl _ _) q)) hri
        rw [decide_eq_true rfl] at this
        exact Calls.quiet_of this
      go_wp2
      go_quiet ((go_at_call 22; with_reducible exact C1.out _))
      go_wp2
      go_roundw
      case rel => exact ⟨i + 1, by omega, by go_num, below_drewN hbl _⟩
      case measure => simp [intOf]; omega
    · go_wp2
      go_ret
      exact ⟨rfl, hbl⟩

end Go.Proofs.Ytlibfmbbchhjeaa
