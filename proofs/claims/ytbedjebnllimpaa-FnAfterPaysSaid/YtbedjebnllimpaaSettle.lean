/- Two balances changed through pointers. -/
import Derived.Test.YtbedjebnllimpaaDebtBS
namespace Go.Proofs.Ytbedjebnllimpaa
open Go.RowKit

/-- The balances where f has paid x to t. -/
def stl (ys : List Int) (f t : Nat) (x : Int) : List Int := (ys.set f (ys.getD f 0 + x)).set t ((ys.set f (ys.getD f 0 + x)).getD t 0 - x)

theorem stl_len (ys : List Int) (f t : Nat) (x : Int) : (stl ys f t x).length = ys.length := by simp [stl]

theorem stl_at (ys : List Int) (f t : Nat) (x : Int) (hf : f < ys.length) (ht : t < ys.length) (k : Nat) (hk : k < ys.length) : (stl ys f t x).getD k 0 = ys.getD k 0 + (if k = f then x else 0) - (if k = t then x else 0) := by
  unfold stl
  rw [getD_set_int _ t k _ (by simpa using hk), getD_set_int _ f t _ ht, getD_set_int _ f k _ hk]
  by_cases h1 : k = t
  · subst h1
    rw [if_pos rfl, if_pos rfl]
    by_cases h2 : k = f
    · subst h2; rw [if_pos rfl, if_pos rfl]
    · rw [if_neg h2, if_neg h2]; omega
  · rw [if_neg h1, if_neg h1]
    by_cases h2 : k = f
    · subst h2; rw [if_pos rfl, if_pos rfl]; omega
    · rw [if_neg h2, if_neg h2]; omega

theorem stl_balP (g : List (List Int)) (a b : Nat) (ha : a < g.length) (hb : b < g.length) : stl (balP g a b) b a (cellOf g a b) = balP g a (b + 1) := by
  rw [← balP_step g a b ha hb]
  have hl := balP_len g a b
  refine list_ext0 (by simp [stl]) fun k hk => ?_
  rw [stl_len, hl] at hk
  rw [stl_at _ _ _ _ (by omega) (by omega) k (by omega), getD_set_int _ b k _ (by rw [List.length_set]; omega), getD_set_int _ a b _ (by omega), getD_set_int _ a k _ (by omega)]
  by_cases h1 : k = b
  · subst h1
    rw [if_pos rfl, if_pos rfl]
    by_cases h2 : k = a
    · subst h2; rw [if_pos rfl, if_pos rfl]; omega
    · rw [if_neg h2, if_neg h2]; omega
  · rw [if_neg h1, if_neg h1]
    by_cases h2 : k = a
    · subst h2; rw [if_pos rfl, if_pos rfl]; omega
    · rw [if_neg h2, if_neg h2]; omega

set_option maxHeartbeats 1600000 in
theorem settle_impl (b n cap : Nat) (ys : List Int) (f t : Nat) (x : Int) (B : Nat) (w : World) (hown : Own w B (sl b n cap) ys) (hl : ys.length = n) (hf : f < n) (ht : t < n) (r1 : -4000000000000000000 ≤ ys.getD f 0 + x ∧ ys.getD f 0 + x ≤ 4000000000000000000) (r2 : -4000000000000000000 ≤ (ys.set f (ys.getD f 0 + x)).getD t 0 - x ∧ (ys.set f (ys.getD f 0 + x)).getD t 0 - x ≤ 4000000000000000000) :
    Calls Try.prog 69 #[.pointer (some ⟨b, f, none⟩), .pointer (some ⟨b, t, none⟩), .int .i64 x] w fun e w' => e = .returned (.tuple #[]) ∧ Own w' B (sl b n cap) (stl ys f t x) ∧ w.grownBy w' (some b) := by
  have c1 := hown.cell hl f hf
  have f1 := hown.frozen hl f
  have s1 := hown.set hl f (ys.getD f 0 + x)
  have l1 : (ys.set f (ys.getD f 0 + x)).length = n := by simp [hl]
  have c2 := s1.1.cell l1 t ht
  have f2 := s1.1.frozen l1 t
  have s2 := s1.1.set l1 t ((ys.set f (ys.getD f 0 + x)).getD t 0 - x)
  have S2 : Hid (Own ((w.setCell ⟨b, f, none⟩ (.int .i64 (ys.getD f 0 + x))).setCell ⟨b, t, none⟩ (.int .i64 ((ys.set f (ys.getD f 0 + x)).getD t 0 - x))) B (sl b n cap) (stl ys f t x) ∧ w.grownBy ((w.setCell ⟨b, f, none⟩ (.int .i64 (ys.getD f 0 + x))).setCell ⟨b, t, none⟩ (.int .i64 ((ys.set f (ys.getD f 0 + x)).getD t 0 - x))) (some b)) := ⟨s2.1, s1.2.trans s2.2⟩
  generalize (ys.set f (ys.getD f 0 + x)).getD t 0 = z at *
  generalize ys.getD f 0 = y at *
  clear hown s1 s2
  go_enter Try.func69, Try.ntmps69
  go_wp2
  go_end0
  exact ⟨rfl, S2.out⟩

end Go.Proofs.Ytbedjebnllimpaa
