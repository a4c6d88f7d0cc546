/- Functions of the library's slices at ints. -/
import Derived.Test.YtbedjebnllimpaaPlanM
import Derived.Test.YtbedjebnllimpaaSpread
import Derived.Test.YtbedjebnllimpaaWorld
import Derived.Lib.LazyBuf
namespace Go.Proofs.Ytbedjebnllimpaa
open Go.RowKit

theorem hiN_first (xs : List Int) : ∀ m, 1 ≤ m → ∀ j, j < hiN xs m → xs.getD j 0 < xs.getD (hiN xs m) 0
  | 0, h => absurd h (by omega)
  | 1, _ => by
    rw [hiN_one]
    intro j hj; exact absurd hj (Nat.not_lt_zero _)
  | m + 2, _ => by
    have h1 := hiN_spec xs (m + 1) (by omega)
    rw [hiN]
    by_cases e : xs.getD (hiN xs (m + 1)) 0 < xs.getD (m + 1) 0
    · rw [if_pos e]
      intro j hj
      have := h1.2 j hj
      omega
    · rw [if_neg e]
      exact hiN_first xs (m + 1) (by omega)

theorem loN_first (xs : List Int) : ∀ m, 1 ≤ m → ∀ j, j < loN xs m → xs.getD (loN xs m) 0 < xs.getD j 0
  | 0, h => absurd h (by omega)
  | 1, _ => by
    rw [loN_one]
    intro j hj; exact absurd hj (Nat.not_lt_zero _)
  | m + 2, _ => by
    have h1 := loN_spec xs (m + 1) (by omega)
    rw [loN]
    by_cases e : xs.getD (m + 1) 0 < xs.getD (loN xs (m + 1)) 0
    · rw [if_pos e]
      intro j hj
      have := h1.2 j hj
      omega
    · rw [if_neg e]
      exact loN_first xs (m + 1) (by omega)

/-- r is the first place of x in xs, or -1. -/
def IsIdx (xs : List Int) (x r : Int) : Prop := (r = -1 ∧ ∀ j, j < xs.length → xs.getD j 0 ≠ x) ∨ (∃ k : Nat, r = k ∧ k < xs.length ∧ xs.getD k 0 = x ∧ ∀ j, j < k → xs.getD j 0 ≠ x)

theorem idx_hi {xs : List Int} {r : Int} (hl : 1 ≤ xs.length) (h : IsIdx xs (xs.getD (hiN xs xs.length) 0) r) : r = (hiN xs xs.length : Nat) := by
  have h1 := hiN_spec xs xs.length hl
  have h2 := hiN_first xs xs.length hl
  rcases h with ⟨_, h⟩ | ⟨k, rfl, hk, he, hf⟩
  · exact absurd rfl (h _ h1.1)
  · congr 1
    by_cases e1 : k < hiN xs xs.length
    · have := h2 k e1; omega
    · by_cases e2 : hiN xs xs.length < k
      · exact absurd rfl (hf _ e2)
      · omega

theorem idx_contains {xs : List Int} {x r : Int} (h : IsIdx xs x r) : decide (0 ≤ r) = xs.contains x := by
  rcases h with ⟨rfl, h⟩ | ⟨k, rfl, hk, he, _⟩
  · symm
    rw [decide_eq_false (by decide)]
    cases hc : xs.contains x
    · rfl
    · exfalso
      have := List.contains_iff_mem.1 hc
      obtain ⟨j, hj, hj2⟩ := mem_getD this
      exact h j hj hj2
  · rw [decide_eq_true (by omega)]
    symm
    rw [List.contains_iff_mem]
    rw [← he]
    exact getD_mem hk

set_option maxHeartbeats 800000 in
theorem Index_impl (v : Value) (xs : List Int) (x : Int) (w : World) (hv : IsInts w v xs) (hl : xs.length ≤ 9223372036854775807) :
    Calls Try.prog 83 #[v, .int .i64 x] w fun e w' => (∃ r, e = .returned (.int .i64 r) ∧ IsIdx xs x r) ∧ w = w' := by
  obtain ⟨a, cap, rfl, hc⟩ := hv
  go_enter Try.func83, Try.ntmps83
  go_wp2
  go_loop [8] (fun s => ∃ k : Nat, k ≤ xs.length ∧ s = .int .i64 k ∧ (∀ j, j < k → xs.getD j 0 ≠ x)) (fun s => xs.length - (intOf s).toNat)
  case atStart => exact ⟨0, Nat.zero_le _, rfl, fun j hj => absurd hj (Nat.not_lt_zero _)⟩
  case round =>
    obtain ⟨k, hk, rfl, hno⟩ := hrel
    have HN := Lib.hid hno
    clear hno
    by_cases hlt : k < xs.length
    · obtain ⟨b, off, rfl, hcell⟩ := hc k hlt
      have k1 : (k : Int) < (xs.length : Int) := by omega
      clear hc
      by_cases he : xs.getD k 0 = x
      · have he2 : (x == xs.getD k 0) = true := by rw [he]; exact beq_self_eq_true x
        have HE := Lib.hid he
        clear he
        generalize xs.getD k 0 = y at hcell he2
        go_wp2
        go_ret
        exact ⟨⟨_, rfl, .inr ⟨k, rfl, hlt, HE.out, HN.out⟩⟩, rfl⟩
      · have he2 : (x == xs.getD k 0) = false := beq_eq_false_iff_ne.2 fun h => he h.symm
        have HE := Lib.hid he
        clear he
        generalize xs.getD k 0 = y at hcell he2
        go_wp2
        go_round
        case rel =>
          refine ⟨k + 1, by omega, by go_num, fun j hj => ?_⟩
          by_cases hjk : j = k
          · subst hjk; exact HE.out
          · exact HN.out j (by omega)
        case measure => simp [intOf]; omega
    · clear hc
      go_wp2
      go_ret
      exact ⟨⟨_, rfl, .inl ⟨rfl, fun j hj => HN.out j (by omega)⟩⟩, rfl⟩

set_option maxHeartbeats 800000 in
theorem Contains_impl (v : Value) (xs : List Int) (x : Int) (w : World) (hv : IsInts w v xs) (hl : xs.length ≤ 9223372036854775807) :
    Calls Try.prog 100 #[v, .int .i64 x] w fun e w' => e = .returned (.bool (xs.contains x)) ∧ w = w' := by
  have H := Lib.hid (Index_impl v xs x w hv hl)
  obtain ⟨a, cap, rfl, _⟩ := hv
  go_enter Try.func100, Try.ntmps100
  go_wp2_with fail
  refine H.out.mono ?_
  rintro e w' ⟨⟨r, rfl, hr⟩, rfl⟩
  have HR := Lib.hid (idx_contains hr)
  clear hr
  go_wp2
  go_ret
  exact ⟨ret_bool HR.out, rfl⟩

set_option maxHeartbeats 800000 in
theorem Max_impl (v : Value) (xs : List Int) (w : World) (hv : IsInts w v xs) (h0 : 1 ≤ xs.length) (hl : xs.length ≤ 9223372036854775807) :
    Calls Try.prog 84 #[v] w fun e w' => e = .returned (.int .i64 (xs.getD (hiN xs xs.length) 0)) ∧ w = w' := by
  obtain ⟨a, cap, rfl, hc⟩ := hv
  obtain ⟨b, off, rfl, hc0⟩ := hc 0 (by omega)
  have k0 : ¬ (xs.length : Int) < 1 := by omega
  have k1 : (0 : Int) < (xs.length : Int) := by omega
  rw [Nat.add_zero] at hc0
  have H1 : Hid (hiN xs 1 = 0) := hiN_one xs
  go_enter Try.func84, Try.ntmps84
  go_wp2
  go_loop [3, 4] (fun m s => ∃ k : Nat, 1 ≤ k ∧ k ≤ xs.length ∧ s = .int .i64 k ∧ m = .int .i64 (xs.getD (hiN xs k) 0)) (fun _ s => xs.length - (intOf s).toNat)
  case atStart => exact ⟨1, Nat.le_refl _, h0, rfl, by rw [H1.out]; simp⟩
  case round =>
    obtain ⟨k, hk1, hk, rfl, rfl⟩ := hrel
    by_cases hlt : k < xs.length
    · obtain ⟨b2, off2, e2, hcell⟩ := hc k hlt
      simp only [Option.some.injEq, Addr.mk.injEq, and_true] at e2
      obtain ⟨rfl, rfl⟩ := e2
      have i1 : (k : Int) < (xs.length : Int) := by omega
      have HX : Hid (xs.getD (hiN xs (k + 1)) 0 = if xs.getD (hiN xs k) 0 < xs.getD k 0 then xs.getD k 0 else xs.getD (hiN xs k) 0) := by
        show _ = _
        rw [hiN]
        split <;> rfl
      clear hc hc0
      generalize xs.getD (hiN xs k) 0 = m at *
      generalize xs.getD k 0 = y at *
      go_wp2
      go_round
      case rel => exact ⟨k + 1, by omega, by omega, by go_num, by rw [HX.out]⟩
      case measure => simp [intOf]; omega
    · have hke : k = xs.length := by omega
      subst hke
      go_wp2
      go_ret
      exact ⟨rfl, rfl⟩

set_option maxHeartbeats 1600000 in
theorem Clone_impl (v : Value) (xs : List Int) (w : World) (hv : IsInts w v xs) (h0 : 1 ≤ xs.length) (hl : xs.length ≤ 1048576) :
    Calls Try.prog 71 #[v] w fun e w' => ∃ g cap, e = .returned (.slice (some ⟨g, 0, none⟩) xs.length cap) ∧ w.heap.size ≤ g ∧ Own w' w.heap.size (sl g xs.length cap) xs ∧ Below w.heap.size w w' := by
  have HV := Lib.hid hv
  obtain ⟨a, cap, rfl, hc⟩ := hv
  obtain ⟨b, off, rfl, _⟩ := hc 0 (by omega)
  have q28 : ∀ (w : World) (a : Option Addr) (n c : Nat), (binOp .eql 28 (.slice a n c) (.slice none 0 0)).run Try.prog w = .ok (.bool a.isNone) w := fun w a n c => run_eql_slice_nil w _ _ a n c Try.underlying28
  clear hc
  go_enter Try.func71, Try.ntmps71
  have oe := own_empty w w.heap.size (Nat.le_refl _)
  have hba : Below w.heap.size w (w.alloc (.cells #[] 3)) := (Below.refl _ _).alloc (Nat.le_refl _) _
  have r1 := HV.out.below hba
  have hsz : w.heap.size ≤ (w.alloc (.cells #[] 3)).heap.size := hba.size
  go_wp2_with (at_builtin; refine wpList_spread oe r1 (by omega) (by simp; omega) hsz (h := ?_))
  intro rv w1 o1 g1 m1
  have hb1 : Below w.heap.size w w1 := hba.trans (below_grown g1 hsz (fun k hk => by simp [Value.ownBlock] at hk; omega))
  rcases id o1.2 with ⟨_, hz⟩ | ⟨g, capg, curg, rfl, _⟩
  · omega
  have hgl := o1.lt g rfl
  have o2 : Own w1 w.heap.size (sl g xs.length capg) xs := by simpa using o1
  clear oe r1 g1 m1 o1 hba hsz
  go_wp2
  go_ret
  exact ⟨g, capg, by simp, hgl.1, o2, hb1⟩

end Go.Proofs.Ytbedjebnllimpaa
