/- Tables of amounts that are filled from below. -/
import Derived.Test.YtbkndncdhombeaaCoinV
import Derived.Test.YtbkndncdhombeaaPush
namespace Go.Proofs.Ytbkndncdhombeaa
open Go.RowKit

/-- All values up to n. -/
def tabL (f : Int → Int) (n : Nat) : List Int := (List.range (n + 1)).map fun j : Nat => f (j : Int)
/-- Below x already the new ones. -/
def stL (f g : Int → Int) (x n : Nat) : List Int := (List.range (n + 1)).map fun j : Nat => if j < x then g (j : Int) else f (j : Int)

theorem tabL_len (f : Int → Int) (n : Nat) : (tabL f n).length = n + 1 := by simp [tabL]
theorem stL_len (f g : Int → Int) (x n : Nat) : (stL f g x n).length = n + 1 := by simp [stL]
theorem tabL_at (f : Int → Int) {n j : Nat} (h : j ≤ n) : (tabL f n).getD j 0 = f j := by
  have : j < n + 1 := by omega
  simp [tabL, List.getD, this]
theorem stL_at (f g : Int → Int) (x : Nat) {n j : Nat} (h : j ≤ n) : (stL f g x n).getD j 0 = if j < x then g j else f j := by
  have : j < n + 1 := by omega
  simp [stL, List.getD, this]
theorem stL_set (f g : Int → Int) {x n : Nat} (_h : x ≤ n) : (stL f g x n).set x (g x) = stL f g (x + 1) n := by
  apply List.ext_getElem
  · simp [stL]
  · intro i h1 h2
    rw [List.getElem_set]
    simp only [stL, List.getElem_map, List.getElem_range]
    split
    · rename_i e; subst e; rw [if_pos (by omega)]
    · rename_i e
      by_cases h3 : i < x
      · rw [if_pos h3, if_pos (by omega)]
      · rw [if_neg h3, if_neg (by omega)]
theorem stL_start (f g : Int → Int) {x n : Nat} (h : ∀ j : Nat, j < x → j ≤ n → g j = f j) : stL f g x n = tabL f n := by
  apply List.map_congr_left
  intro j hj
  have hj' : j < n + 1 := by simpa using hj
  split
  · rename_i h2; exact h j h2 (by omega)
  · rfl
theorem stL_end (f g : Int → Int) {x n : Nat} (h : n < x) : stL f g x n = tabL g n := by
  apply List.map_congr_left
  intro j hj
  have hj' : j < n + 1 := by simpa using hj
  rw [if_pos (by omega)]
theorem tabL_congr {f g : Int → Int} {n : Nat} (h : ∀ j : Nat, j ≤ n → f j = g j) : tabL f n = tabL g n := by
  apply List.map_congr_left
  intro j hj
  have hj' : j < n + 1 := by simpa using hj
  exact h j (by omega)

theorem getD_setI (xs : List Int) (i k : Nat) (u : Int) (h : k < xs.length) : (xs.set i u).getD k 0 = if i = k then u else xs.getD k 0 := by
  rw [List.getD_eq_getElem?_getD, List.getD_eq_getElem?_getD, List.getElem?_set]
  split
  · rename_i e; subst e; simp [h]
  · rfl

theorem first_set (n : Nat) (a b : Int) : (List.replicate (n + 1) b).set 0 a = tabL (fun x => if x = 0 then a else b) n := by
  apply List.ext_getElem
  · simp [tabL]
  · intro i h1 h2
    rw [List.getElem_set]
    simp only [tabL, List.getElem_map, List.getElem_range, List.getElem_replicate]
    by_cases h : 0 = i
    · subst h; simp
    · rw [if_neg h, if_neg (by omega)]

theorem take_snoc (cs : List Int) {i : Nat} (h : i < cs.length) : cs.take (i + 1) = cs.take i ++ [cs.getD i 0] := by
  rw [List.take_succ_eq_append_getElem h]
  simp [List.getD, h]

theorem take_mem {cs : List Int} {i : Nat} {c : Int} (h : c ∈ cs.take i) : c ∈ cs := List.mem_of_mem_take h

theorem Pos.take {cs : List Int} (h : Pos cs) (i : Nat) : Pos (cs.take i) := fun c hc => h c (take_mem hc)

/-- Its coin that can be read, wherever the slice lies. -/
theorem IsInts.at0 {w : World} {v : Value} {xs : List Int} (h : IsInts w v xs) (hn : 1 ≤ xs.length) : ∃ b off cap, v = .slice (some ⟨b, off, none⟩) xs.length cap ∧ b < w.heap.size ∧ ∀ j, j < xs.length → w.cell? ⟨b, off + j, none⟩ = some (.int .i64 (xs.getD j 0)) := by
  obtain ⟨a, cap, rfl, hc⟩ := h
  obtain ⟨b, off, rfl, c0⟩ := hc 0 (by omega)
  refine ⟨b, off, cap, rfl, World.block_lt_of_cell? w _ c0, fun j hj => ?_⟩
  obtain ⟨b', off', e, cj⟩ := hc j hj
  simp only [Option.some.injEq, Addr.mk.injEq, and_true] at e
  obtain ⟨rfl, rfl⟩ := e
  exact cj

theorem own_sl {w : World} {B n : Nat} {v : Value} {xs : List Int} (h : Own w B v xs) (hn : xs.length = n) (hp : 1 ≤ n) : ∃ g cap, v = sl g n cap ∧ B ≤ g ∧ g < w.heap.size := by
  rcases h.2 with ⟨_, h0⟩ | ⟨g, cap, cur, hv, _⟩
  · omega
  · subst hn
    exact ⟨g, cap, hv, h.lt g (by rw [hv]; rfl)⟩

theorem own_drewN {w : World} {B : Nat} {v : Value} {xs : List Int} (h : Own w B v xs) (m : Nat) : Own (w.drewN m) B v xs := h.below (Drawn.below ⟨m, rfl⟩)

theorem below_drewNC {w w' : World} {n : Nat} (h : Below n w w') (hn : n ≤ w'.heap.size) (m : Nat) : Below n w (w'.drewN m) :=
  h.trans ((Drawn.below (w := w') ⟨m, rfl⟩).mono hn)

end Go.Proofs.Ytbkndncdhombeaa
