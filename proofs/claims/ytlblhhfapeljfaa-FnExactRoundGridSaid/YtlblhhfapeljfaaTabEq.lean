/- Two tables compared by ==. -/
import Derived.Test.YtlblhhfapeljfaaNearT
import Derived.DeepKeys
import Derived.Laws.StructEq
namespace Go.Proofs.Ytlblhhfapeljfaa
open Go.RowKit

theorem tabList (A : Nat → Int) : (Value.agg (tabArr A)).cells.toList = [.int .i64 (A 0), .int .i64 (A 1), .int .i64 (A 2), .int .i64 (A 3), .int .i64 (A 4), .int .i64 (A 5), .int .i64 (A 6), .int .i64 (A 7), .int .i64 (A 8), .int .i64 (A 9), .int .i64 (A 10), .int .i64 (A 11), .int .i64 (A 12), .int .i64 (A 13), .int .i64 (A 14), .int .i64 (A 15)] := rfl

theorem wf_of_fits {n : Int} (h : -9223372036854775808 ≤ n ∧ n ≤ 9223372036854775807) : (Lit.int .i64 n).wf = true := WalkArith.wf_i64 (by omega)

theorem rowLits (D : Nat) (a b c d : Int) (ha : (Lit.int .i64 a).wf = true) (hb : (Lit.int .i64 b).wf = true) (hc : (Lit.int .i64 c).wf = true) (hd : (Lit.int .i64 d).wf = true) :
    Try.prog.keyLits (D + 2) 62 [.int .i64 a, .int .i64 b, .int .i64 c, .int .i64 d] = some [.int .i64 a, .int .i64 b, .int .i64 c, .int .i64 d] := by
  have c62 : Try.prog.cellsOf 62 = 4 := by kernel_rfl
  have c3 : Try.prog.cellsOf 3 = 1 := by kernel_rfl
  simp [Program.keyLits, Try.underlying62, Try.underlying3, c62, c3, List.range_succ, ha, hb, hc, hd]

theorem tabLits (A : Nat → Int) (h : ∀ k, k < 16 → (Lit.int .i64 (A k)).wf = true) :
    Try.prog.keyLits 3 64 (Value.agg (tabArr A)).cells.toList = some ((List.range 16).map fun k => Lit.int .i64 (A k)) := by
  have c64 : Try.prog.cellsOf 64 = 16 := by kernel_rfl
  have c62 : Try.prog.cellsOf 62 = 4 := by kernel_rfl
  have r0 := rowLits 0 _ _ _ _ (h 0 (by omega)) (h 1 (by omega)) (h 2 (by omega)) (h 3 (by omega))
  have r1 := rowLits 0 _ _ _ _ (h 4 (by omega)) (h 5 (by omega)) (h 6 (by omega)) (h 7 (by omega))
  have r2 := rowLits 0 _ _ _ _ (h 8 (by omega)) (h 9 (by omega)) (h 10 (by omega)) (h 11 (by omega))
  have r3 := rowLits 0 _ _ _ _ (h 12 (by omega)) (h 13 (by omega)) (h 14 (by omega)) (h 15 (by omega))
  rw [tabList]
  unfold Program.keyLits
  simp only [Try.underlying64, c64, c62]
  simp [List.range_succ, r0, r1, r2, r3]

/-- All numbers of two tables are the same. -/
def eqT (A B : Nat → Int) : Bool := (List.range 16).all fun k => decide (A k = B k)

theorem eqT_iff (A B : Nat → Int) : eqT A B = true ↔ ∀ k, k < 16 → A k = B k := by simp [eqT]

theorem tabFormed (A : Nat → Int) : (Value.agg (tabArr A)).formed Try.prog 64 = true := by
  have c64 : Try.prog.cellsOf 64 = 16 := by kernel_rfl
  simp [Value.formed, Try.underlying64, c64, tabArr]

theorem eqTab (A B : Nat → Int) (hA : ∀ k, k < 16 → -9223372036854775808 ≤ A k ∧ A k ≤ 9223372036854775807) (hB : ∀ k, k < 16 → -9223372036854775808 ≤ B k ∧ B k ≤ 9223372036854775807) :
    ∀ w, (binOp .eql 64 (.agg (tabArr A)) (.agg (tabArr B))).run Try.prog w = .ok (.bool (eqT A B)) w := by
  have hd : EqAt Try.prog (9997 + 3) 64 := run_equalIn_deep 9997 3 64 (by kernel_rfl)
  intro w
  obtain ⟨r, hr, hiff⟩ := hd w 3 3 (.agg (tabArr A)) (.agg (tabArr B)) _ _ (tabFormed A) (tabFormed B) (tabLits A (fun k hk => wf_of_fits (hA k hk))) (tabLits B (fun k hk => wf_of_fits (hB k hk)))
  have e : r = eqT A B := by
    rw [Bool.eq_iff_iff, hiff, eqT_iff]
    constructor
    · intro h k hk
      have := congrArg (fun l : List Lit => l[k]?) h
      simp [hk] at this
      exact this
    · intro h
      apply List.map_congr_left
      intro k hk
      rw [h k (by simpa using hk)]
  rw [run_eql_struct, show (10000 : Nat) = 9997 + 3 from rfl, hr, e]
  rfl

end Go.Proofs.Ytlblhhfapeljfaa
