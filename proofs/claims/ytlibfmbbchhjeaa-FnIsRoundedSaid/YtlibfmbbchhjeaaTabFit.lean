/- The numbers of a table with its sums: they fit, and those of a valid grid are small. -/
import Derived.Test.YtlibfmbbchhjeaaNearT
import Derived.DeepKeys
import Derived.Laws.StructEq
namespace Go.Proofs.Ytlibfmbbchhjeaa

section
open Go.RowKit

theorem tabList (A : Nat → Int) : (Value.agg (tabArr A)).cells.toList = [.int .i64 (A 0), .int .i64 (A 1), .int .i64 (A 2), .int .i64 (A 3), .int .i64 (A 4), .int .i64 (A 5), .int .i64 (A 6), .int .i64 (A 7), .int .i64 (A 8), .int .i64 (A 9), .int .i64 (A 10), .int .i64 (A 11), .int .i64 (A 12), .int .i64 (A 13), .int .i64 (A 14), .int .i64 (A 15)] := rfl

theorem wf_of_fits {n : Int} (h : -9223372036854775808 ≤ n ∧ n ≤ 9223372036854775807) : (Lit.int .i64 n).wf = true := WalkArith.wf_i64 (by omega)

theorem rowLits (D : Nat) (a b c d : Int) (ha : (Lit.int .i64 a).wf = true) (hb : (Lit.int .i64 b).wf = true) (hc : (Lit.int .i64 c).wf = true) (hd : (Lit.int .i64 d).wf = true) :
    Try.prog.keyLits (D + 2) 63 [.int .i64 a, .int .i64 b, .int .i64 c, .int .i64 d] = some [.int .i64 a, .int .i64 b, .int .i64 c, .int .i64 d] := by
  have c62 : Try.prog.cellsOf 63 = 4 := by kernel_rfl
  have c3 : Try.prog.cellsOf 3 = 1 := by kernel_rfl
  simp [Program.keyLits, Try.underlying63, Try.underlying3, c62, c3, List.range_succ, ha, hb, hc, hd]

theorem tabLits (A : Nat → Int) (h : ∀ k, k < 16 → (Lit.int .i64 (A k)).wf = true) :
    Try.prog.keyLits 3 65 (Value.agg (tabArr A)).cells.toList = some ((List.range 16).map fun k => Lit.int .i64 (A k)) := by
  have c64 : Try.prog.cellsOf 65 = 16 := by kernel_rfl
  have c62 : Try.prog.cellsOf 63 = 4 := by kernel_rfl
  have r0 := rowLits 0 _ _ _ _ (h 0 (by omega)) (h 1 (by omega)) (h 2 (by omega)) (h 3 (by omega))
  have r1 := rowLits 0 _ _ _ _ (h 4 (by omega)) (h 5 (by omega)) (h 6 (by omega)) (h 7 (by omega))
  have r2 := rowLits 0 _ _ _ _ (h 8 (by omega)) (h 9 (by omega)) (h 10 (by omega)) (h 11 (by omega))
  have r3 := rowLits 0 _ _ _ _ (h 12 (by omega)) (h 13 (by omega)) (h 14 (by omega)) (h 15 (by omega))
  rw [tabList]
  unfold Program.keyLits
  simp only [Try.underlying65, c64, c62]
  simp [List.range_succ, r0, r1, r2, r3]

/-- All numbers of two tables are the same. -/
def eqT (A B : Nat → Int) : Bool := (List.range 16).all fun k => decide (A k = B k)

theorem eqT_iff (A B : Nat → Int) : eqT A B = true ↔ ∀ k, k < 16 → A k = B k := by simp [eqT]

theorem tabFormed (A : Nat → Int) : (Value.agg (tabArr A)).formed Try.prog 65 = true := by
  have c64 : Try.prog.cellsOf 65 = 16 := by kernel_rfl
  simp [Value.formed, Try.underlying65, c64, tabArr]

theorem eqTab (A B : Nat → Int) (hA : ∀ k, k < 16 → -9223372036854775808 ≤ A k ∧ A k ≤ 9223372036854775807) (hB : ∀ k, k < 16 → -9223372036854775808 ≤ B k ∧ B k ≤ 9223372036854775807) :
    ∀ w, (binOp .eql 65 (.agg (tabArr A)) (.agg (tabArr B))).run Try.prog w = .ok (.bool (eqT A B)) w := by
  have hd : EqAt Try.prog (9997 + 3) 65 := run_equalIn_deep 9997 3 65 (by kernel_rfl)
  intro w
  obtain ⟨r, hr, hiff⟩ := hd w 3 3 (.agg (tabArr A)) (.agg (tabArr B)) _ _ (tabFormed A) (tabFormed B) (tabLits A (fun k hk => wf_of_fits (hA k hk))) (tabLits B (fun k hk => wf_of_fits (hB k hk)))
  have e : r = eqT A B := by
    rw [Bool.eq_iff_iff, hiff, eqT_iff]
    constructor
    · intro h k hk
      have := congrArg (fun l : List Lit => l[k]?) h
      simp [hk] at this
      exact this
    · intro h
      apply List.map_congr_left
      intro k hk
      rw [h k (by simpa using hk)]
  rw [run_eql_struct, show (10000 : Nat) = 9997 + 3 from rfl, hr, e]
  rfl

end

open Go.RowKit

/-- Every number of every row fits an int. -/
def FitsG (g : List (List Int)) : Prop := ∀ i k, i < g.length → k < (rowOf g i).length → -9223372036854775808 ≤ cellOf g i k ∧ cellOf g i k ≤ 9223372036854775807

def FitT (T : Nat → Int) : Prop := ∀ k, -9223372036854775808 ≤ T k ∧ T k ≤ 9223372036854775807

theorem addCell_fit {T : Nat → Int} (h : FitT T) (i j : Nat) {n : Int} (hn : -9223372036854775808 ≤ n ∧ n ≤ 9223372036854775807) : FitT (addCell T i j n) := by
  intro k
  unfold addCell
  by_cases h0 : k = i * 4 + j
  · rw [if_pos h0]; exact hn
  · rw [if_neg h0]
    by_cases h1 : k = i * 4 + 3 ∨ k = 12 + j ∨ k = 15
    · rw [if_pos h1]; unfold wrap64; omega
    · rw [if_neg h1]; exact h k

theorem rowFold_fit {T : Nat → Int} (h : FitT T) (g : List (List Int)) (i : Nat) : ∀ k, (∀ j, j < k → -9223372036854775808 ≤ cellOf g i j ∧ cellOf g i j ≤ 9223372036854775807) → FitT (rowFold T g i k)
  | 0, _ => h
  | k + 1, hn => addCell_fit (rowFold_fit h g i k fun j hj => hn j (by omega)) i k (hn k (by omega))

theorem tabFold_fit (g : List (List Int)) (hf : FitsG g) : ∀ i, i ≤ g.length → FitT (tabFold g i)
  | 0, _ => fun _ => ⟨show (-9223372036854775808 : Int) ≤ 0 by decide, show (0 : Int) ≤ 9223372036854775807 by decide⟩
  | i + 1, hi => rowFold_fit (tabFold_fit g hf i (by omega)) g i _ fun j hj => hf i j (by omega) hj

def SmallT (T : Nat → Int) (m : Int) : Prop := ∀ k, 0 ≤ T k ∧ T k ≤ m

theorem SmallT.mono {T : Nat → Int} {m n : Int} (h : SmallT T m) (hm : m ≤ n) : SmallT T n := fun k => ⟨(h k).1, Int.le_trans (h k).2 hm⟩

theorem addCell_small {T : Nat → Int} {m : Int} (h : SmallT T m) (hm : m ≤ 100000) (i j : Nat) {n : Int} (hn : 0 ≤ n ∧ n ≤ 50) : SmallT (addCell T i j n) (m + 50) := by
  intro k
  have hk := h k
  unfold addCell
  by_cases h0 : k = i * 4 + j
  · rw [if_pos h0]; omega
  · rw [if_neg h0]
    by_cases h1 : k = i * 4 + 3 ∨ k = 12 + j ∨ k = 15
    · rw [if_pos h1]; unfold wrap64; omega
    · rw [if_neg h1]; omega

theorem rowFold_small {T : Nat → Int} {m : Int} (h : SmallT T m) (hm : m ≤ 90000) (g : List (List Int)) (i : Nat) : ∀ k, k ≤ 3 → (∀ j, j < k → 0 ≤ cellOf g i j ∧ cellOf g i j ≤ 50) → SmallT (rowFold T g i k) (m + 50 * k)
  | 0, _, _ => h.mono (by omega)
  | k + 1, hk, hn => (addCell_small (rowFold_small h hm g i k (by omega) fun j hj => hn j (by omega)) (by omega) i k (hn k (by omega))).mono (by omega)

theorem tabFold_small (g : List (List Int)) (hr : ∀ i, i < g.length → (rowOf g i).length ≤ 3) (hn : ∀ i k, i < g.length → k < (rowOf g i).length → 0 ≤ cellOf g i k ∧ cellOf g i k ≤ 50) : ∀ i, i ≤ 3 → i ≤ g.length → SmallT (tabFold g i) (150 * i)
  | 0, _, _ => fun _ => ⟨by simp [tabFold], by simp [tabFold]⟩
  | i + 1, h3, hi => (rowFold_small (tabFold_small g hr hn i (by omega) (by omega)) (by omega) g i _ (hr i (by omega)) fun j hj => hn i j (by omega) hj).mono (by have := hr i (by omega); omega)

/-- What a valid grid is. -/
theorem vGrid_iff (g : List (List Int)) (u : Int) : vGrid g u = true ↔ (1 ≤ g.length ∧ g.length ≤ 3) ∧ (1 ≤ u ∧ u ≤ 12) ∧ ∀ i, i < g.length → (rowOf g i).length = (rowOf g 0).length ∧ (1 ≤ (rowOf g i).length ∧ (rowOf g i).length ≤ 3) ∧ ∀ k, k < (rowOf g i).length → 0 ≤ cellOf g i k ∧ cellOf g i k ≤ 50 := by
  constructor
  · intro h
    simp only [vGrid, Bool.and_eq_true, List.all_eq_true, List.mem_range] at h
    obtain ⟨⟨h1, h2⟩, h3⟩ := h
    have h1' := inR_true h1
    have h2' := inR_true h2
    refine ⟨by omega, by omega, fun i hi => ?_⟩
    have h4 := h3 i hi
    simp only [rowOK, Bool.and_eq_true, decide_eq_true_eq] at h4
    obtain ⟨⟨h5, h6⟩, h7⟩ := h4
    have h6' := inR_true h6
    refine ⟨h5, by omega, fun k hk => ?_⟩
    have hall : ∀ x ∈ rowOf g i, inR x 0 50 = true := by simpa [allR] using h7
    have hx := hall (cellOf g i k) (by unfold cellOf; simp [List.getD, hk])
    exact inR_true hx
  · rintro ⟨h1, h2, h3⟩
    refine vGrid_yes (by simp [inR]; omega) (by simp [inR]; omega) fun i hi => ?_
    obtain ⟨h4, h5, h6⟩ := h3 i hi
    have hall := allR_of_cells (g := g) (i := i) fun k hk => (by simpa [inR] using h6 k hk)
    unfold rowOK
    rw [hall, decide_eq_true h4]
    simp [inR]; omega

theorem nearI_fit {T E u : Int} (hE : 0 ≤ E ∧ E ≤ 1000000) (hu : 1 ≤ u ∧ u ≤ 12) : -9223372036854775808 ≤ nearI T E u ∧ nearI T E u ≤ 9223372036854775807 := by
  have h1 : 0 ≤ E / u := Int.ediv_nonneg hE.1 (by omega)
  have h2 : E / u ≤ E := Int.ediv_le_self _ hE.1
  have h3 : 0 ≤ (E + u - 1) / u := Int.ediv_nonneg (by omega) (by omega)
  have h4 : (E + u - 1) / u ≤ E + u - 1 := Int.ediv_le_self _ (by omega)
  unfold nearI
  omega

end Go.Proofs.Ytlibfmbbchhjeaa
