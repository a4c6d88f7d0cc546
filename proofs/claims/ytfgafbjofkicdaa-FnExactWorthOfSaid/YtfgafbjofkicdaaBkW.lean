/- What is paid in a time: the two ways. -/
import Derived.Test.YtfgafbjofkicdaaBkI
import Derived.Test.YtfgafbjofkicdaaLoanL
import Derived.Laws.Rows
namespace Go.Proofs.Ytfgafbjofkicdaa
open Go.RowKit

/-- A way by the same pay. -/
abbrev wSame (x : Int) : Value := .iface 64 (.int .i64 x)
/-- A way by equal parts. -/
abbrev wEqual (A P B T : Int) : Value := .iface 67 (lv A P B T)

theorem perTimeS_impl (x : Int) (w : World) : Calls Try.prog 92 #[.int .i64 x] w fun e w' => e = .returned (.int .i64 x) ∧ w = w' := by
  go_enter Try.func92, Try.ntmps92
  go_wp2
  go_ret
  exact ⟨rfl, rfl⟩

set_option maxHeartbeats 800000 in
theorem perTimeE_impl (A P B T : Int) (w : World) (hA : 0 ≤ A ∧ A ≤ 1000) (hT : 1 ≤ T ∧ T ≤ 8) : Calls Try.prog 93 #[lv A P B T] w fun e w' => e = .returned (.int .i64 (A / T)) ∧ Below w.heap.size w w' := by
  have hb : Below w.heap.size w (w.alloc (.cells #[.int .i64 A, .int .i64 P, .int .i64 B, .int .i64 T] 67)) := (Below.refl _ _).alloc (Nat.le_refl _) _
  have hd0 := Int.ediv_nonneg hA.1 (show 0 ≤ T by omega)
  have hd1 := Int.ediv_le_self T hA.1
  have hT0 : T ≠ 0 := by omega
  go_enter Try.func93, Try.ntmps93
  go_wp2
  go_ret
  exact ⟨rfl, hb⟩

theorem asS_S (v : Value) (w : World) : (Instr.typeAssert (.iface 64 v) 75 64 true).run Try.prog w = .ok (.tuple #[v, .bool true]) w := by kernel_rfl
theorem asE_S (v : Value) (w : World) : (Instr.typeAssert (.iface 67 v) 75 64 true).run Try.prog w = .ok (.tuple #[.int .i64 0, .bool false]) w := by kernel_rfl
theorem asE_E (v : Value) (w : World) : (Instr.typeAssert (.iface 67 v) 75 67 true).run Try.prog w = .ok (.tuple #[v, .bool true]) w := by kernel_rfl

theorem methS (x : Int) (w : World) : (method 200 64 (.int .i64 x) "loop.example/sumsthatadd/impl.perTime").run Try.prog w = .ok (92, .int .i64 x) w := by kernel_rfl
theorem methE (cs : Array Value) (w : World) : (method 200 67 (.agg cs) "loop.example/sumsthatadd/impl.perTime").run Try.prog w = .ok (93, .agg cs) w := by kernel_rfl

set_option maxHeartbeats 800000 in
theorem payOfS_impl (x due : Int) (last : Bool) (w : World) :
    Calls Try.prog 76 #[wSame x, .int .i64 due, .bool last] w fun e w' => e = .returned (.int .i64 (min x due)) ∧ Below w.heap.size w w' := by
  have h1 := asS_S
  have h2 := methS
  by_cases hle : x ≤ due
  · have E2 : Hid (min x due = x) := by show min x due = _; omega
    have hm : ¬ due < x := by omega
    go_enter Try.func76, Try.ntmps76
    go_wp2_with (go_at_call 92; refine (perTimeS_impl _ _).mono ?_; rintro e w' ⟨rfl, rfl⟩)
    go_ret
    exact ⟨ret_int E2.out.symm, Below.refl _ _⟩
  · have E2 : Hid (min x due = due) := by show min x due = _; omega
    have hm : due < x := by omega
    go_enter Try.func76, Try.ntmps76
    go_wp2_with (go_at_call 92; refine (perTimeS_impl _ _).mono ?_; rintro e w' ⟨rfl, rfl⟩)
    go_ret
    exact ⟨ret_int E2.out.symm, Below.refl _ _⟩

set_option maxHeartbeats 800000 in
theorem payOfE_impl (A P B T due : Int) (last : Bool) (w : World) (hA : 0 ≤ A ∧ A ≤ 1000) (hT : 1 ≤ T ∧ T ≤ 8) :
    Calls Try.prog 76 #[wEqual A P B T, .int .i64 due, .bool last] w fun e w' => e = .returned (.int .i64 (if last = true then due else A / T)) ∧ Below w.heap.size w w' := by
  have h1 := asE_S
  have h2 := asE_E
  have h3 := methE
  cases last
  · go_enter Try.func76, Try.ntmps76
    go_wp2_with (go_at_call 93; refine (perTimeE_impl _ _ _ _ _ hA hT).mono ?_; rintro e w' ⟨rfl, hb⟩)
    go_ret
    exact ⟨rfl, hb⟩
  · go_enter Try.func76, Try.ntmps76
    go_wp2
    go_ret
    exact ⟨rfl, Below.refl _ _⟩

end Go.Proofs.Ytfgafbjofkicdaa
