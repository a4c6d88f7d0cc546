/- The fewest coins for all amounts, in the program. -/
import Derived.Test.YtbkndncdhombeaaCoinI
import Derived.Test.YtbkndncdhombeaaByC
namespace Go.Proofs.Ytbkndncdhombeaa
open Go.RowKit

set_option maxRecDepth 100000 in
theorem enter_fewer (args : Array Value) (w : World) : (callFunc 65 args).run Try.prog w = .ok (.enter 65 args) w := by rfl

set_option maxHeartbeats 800000 in
theorem fewer_impl (u y : Int) (w : World) (_hu : 0 ≤ u ∧ u ≤ 1921) (hy : 0 ≤ y ∧ y ≤ 1921) :
    Calls Try.prog 65 #[.int .i64 u, .int .i64 y] w fun e w' => e = .returned (.int .i64 (min u (y + 1))) ∧ w = w' := by
  by_cases h : u ≤ y + 1
  · have E : Hid (min u (y + 1) = u) := by show _ = _; omega
    go_enter Try.func65, Try.ntmps65
    go_wp2
    all_goals
      go_ret
      exact ⟨ret_int (by first | exact E.out.symm | (rw [E.out]; omega)), rfl⟩
  · have E : Hid (min u (y + 1) = y + 1) := by show _ = _; omega
    go_enter Try.func65, Try.ntmps65
    go_wp2
    all_goals
      go_ret
      exact ⟨ret_int (by first | exact E.out.symm | (rw [E.out]; omega)), rfl⟩

theorem fewer_at {u y z : Int} (w : World) (hu : 0 ≤ u ∧ u ≤ 1921) (hy : 0 ≤ y ∧ y ≤ 1921) (h : z = min u (y + 1)) :
    Calls Try.prog 65 #[.int .i64 u, .int .i64 y] w fun e w' => e = .returned (.int .i64 z) ∧ w = w' := by
  rw [h]; exact fewer_impl u y w hu hy

set_option maxRecDepth 100000 in
set_option maxHeartbeats 1600000 in
theorem fewestUpTo_impl (v : Value) (cs : List Int) (n : Nat) (w : World) (hv : IsInts w v cs) (hcs : vCoins cs = true) (hn : n ≤ 1020) :
    Calls Try.prog 48 #[v, .int .i64 (n : Int)] w fun e w' => ∃ g cap, e = .returned (sl g (n + 1) cap) ∧ w.heap.size ≤ g ∧ Own w' w.heap.size (sl g (n + 1) cap) (tabL (fuV cs) n) ∧ Below w.heap.size w w' := by
  have hp := vc_pos hcs
  have HW := Lib.hid (withoutCoins_int n 0 1921 w (by omega))
  have h0 : tabL (fun j => if j = 0 then 0 else 1921) n = tabL (fuV []) n := tabL_congr (fun j _ => (fu_nil _).symm)
  have HB : Hid (∀ (g cap : Nat) (w2 : World), Below w.heap.size w w2 → w.heap.size ≤ g → Own w2 w.heap.size (sl g (n + 1) cap) (tabL (fun j => if j = 0 then 0 else 1921) n) → Calls Try.prog 68 #[v, sl g (n + 1) cap, .func (.func 65) #[] #[]] w2 fun e w' => e = .returned (sl g (n + 1) cap) ∧ Own w' w.heap.size (sl g (n + 1) cap) (tabL (fuV cs) n) ∧ Below w.heap.size w w') := fun g cap w2 hb hg ho => by
    rw [h0] at ho
    refine byCoins_int _ enter_fewer fuV cs v n g cap w w2 hv (fun i hi => vc_at hcs hi) (vc_len hcs).2 hb hg ho (by omega) (fun i hi j h1 h2 => ?_) (fun i hi x h1 h2 wx => ?_)
    · have hp' : Pos (cs.take i ++ [cs.getD i 0]) := by rw [← take_snoc cs hi]; exact hp.take _
      rw [take_snoc cs hi]
      exact fu_snoc_less hp' h1
    · have hp' : Pos (cs.take i ++ [cs.getD i 0]) := by rw [← take_snoc cs hi]; exact hp.take _
      have hat := vc_at hcs hi
      refine fewer_at wx ?_ ?_ ?_
      · have := fu_bounds (hp.take i) (x := (x : Int)) (by omega) (by omega); omega
      · rw [take_snoc cs hi]
        have := fu_bounds hp' (x := (x : Int) - cs.getD i 0) (by omega) (by omega); omega
      · rw [take_snoc cs hi]
        exact fu_snoc hp' h1 (by omega)
  clear h0 hp
  obtain ⟨a, cp, rfl, _⟩ := id hv
  go_enter Try.func48, Try.ntmps48
  go_wp2_with (first
    | (go_at_call 62; refine HW.out.mono ?_; rintro e w2 ⟨g, cap, rfl, hg, hown, hbl⟩)
    | (go_at_call 68; refine (HB.out g cap w2 hbl hg hown).mono ?_; rintro e w3 ⟨rfl, hown3, hbl3⟩))
  go_ret
  exact ⟨g, cap, rfl, hg, hown3, hbl3⟩

end Go.Proofs.Ytbkndncdhombeaa
