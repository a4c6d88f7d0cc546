/- The iterator over all incomes: its contract, for every body. -/
import Derived.RangeFuncNested
import Derived.RangeFuncBound
import Derived.RangeFuncCalls
import Derived.RangeFuncLeaves
import Derived.Shelf.Abstract
import Derived.Shelf.RegionOpen
import Derived.WalkKit
import Derived.OwnWalkIn
import Derived.TacticsInMore
import Derived.LoopNIn
import Derived.LoopIn
import Derived.Test.YtmeejaafbbabaaaJoinM
namespace Go.Proofs.Ytmeejaafbbabaaa
open Go.RowKit Go.Shelf
attribute [local go_sem] Oper.semAt_some

/-- An income that is handed over, as a number. -/
def fv (x : Fin 2001) : Int := (x.val : Int)

set_option maxHeartbeats 1000000 in
theorem incomes_stops (F : Fence) (n : Nat) (hf : F.fn 62) (hro : F.round = none) (hn : 1 ≤ n) (n₀ : Nat) (w : World) :
    SeqStopsK F n Try.prog 62 #[] (fun x : Fin 2001 => #[Value.int .i64 (fv x)]) (Below n₀) (fun xs => xs.map fv = incs 2001) (fun pre => ∃ k, k < 2001 ∧ pre.map fv = incs (k + 1)) 2001 w := fun l J Jx W _ _ _ hY h0 => by
  refine callsIn_of_wp Try.func62 rfl hf ?_ hro
  simp only [Try.ntmps62, List.size_toArray, List.length_cons, List.length_nil, Nat.reduceAdd, Nat.reduceSub, Array.replicate_succ, Array.replicate_zero, List.push_toArray, List.append_toArray, List.nil_append, List.cons_append]
  gi_wp2
  gi_loopw [3] (fun p wr => ∃ (k : Nat) (pre : List (Fin 2001)), k ≤ 2001 ∧ p = .int .i64 k ∧ pre.map fv = incs k ∧ J pre wr) (fun p _ => 2001 - (intOf p).toNat)
  case atStart => exact ⟨0, [], Nat.zero_le _, rfl, rfl, h0⟩
  case round =>
    obtain ⟨k, pre, hk, rfl, hpk, hJk⟩ := hrel
    have HP := Lib.hid hpk
    clear hpk
    by_cases hlt : (k : Int) < 2001
    · have hkl : k < 2001 := by omega
      have hpl : pre.length < 2001 := by
        have := congrArg List.length HP.out
        rw [List.length_map, incs_length] at this
        omega
      obtain ⟨fn, tmps, assign, body, hy, hR⟩ := hY pre ⟨k, hkl⟩ wr hJk hpl
      have HPP : Hid ((pre ++ [(⟨k, hkl⟩ : Fin 2001)]).map fv = incs (k + 1)) := by
        show (pre ++ [(⟨k, hkl⟩ : Fin 2001)]).map fv = incs (k + 1)
        rw [List.map_append, HP.out, ← incs_succ]
        rfl
      dsimp only [fv] at hy
      gi_wp2
      refine hR.mono ?_
      rintro e W3 (⟨rfl, hJ3, hk3⟩ | ⟨rfl, hJx3⟩)
      · gi_wp2
        go_roundw
        case rel => exact ⟨k + 1, _, by omega, by go_num, HPP.out, hJ3⟩
        case measure => simp [intOf]; omega
      · gi_wp2
        refine bodyPost_ret (results_none rfl _ _ _) rfl ?_
        exact ⟨⟨_, rfl⟩, .inr ⟨_, ⟨k, hkl, HPP.out⟩, hJx3⟩⟩
    · have hk2 : k = 2001 := by omega
      subst hk2
      gi_wp2
      go_end0
      exact ⟨⟨_, rfl⟩, .inl ⟨pre, HP.out, hJk⟩⟩

end Go.Proofs.Ytmeejaafbbabaaa
