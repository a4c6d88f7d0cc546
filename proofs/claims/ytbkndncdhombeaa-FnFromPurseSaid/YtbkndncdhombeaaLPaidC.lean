/- What counts of coins pay, by the laws. -/
import Derived.Test.YtbkndncdhombeaaTotL
import Derived.Test.YtbkndncdhombeaaCoinT
namespace Go.Proofs.Ytbkndncdhombeaa
open Go.RowKit

/-- What the first i coins pay. -/
theorem dotL_take : ∀ (cs ks : List Int) (i : Nat), i < cs.length → i < ks.length → dotL (cs.take (i + 1)) (ks.take (i + 1)) = dotL (cs.take i) (ks.take i) + cs.getD i 0 * ks.getD i 0 := by
  intro cs ks i h1 h2
  rw [take_snoc cs h1, take_snoc ks h2, dotL_snoc _ _ _ _ (by rw [List.length_take, List.length_take]; omega)]

set_option maxHeartbeats 800000 in
theorem paid_any (v u : Value) (cs ks : List Int) (w : World) (hv : IsInts w v cs) (hu : IsInts w u ks) (hl : cs.length ≤ 8) (hk : ks.length = cs.length) (hb : ∀ i, i < cs.length → (0 ≤ cs.getD i 0 ∧ cs.getD i 0 ≤ 30) ∧ (0 ≤ ks.getD i 0 ∧ ks.getD i 0 ≤ 2000)) :
    Calls Try.prog 25 #[v, u] w fun e w' => e = .returned (.int .i64 (dotL cs ks)) ∧ Drawn w w' := by
  obtain ⟨a, cap, rfl, hc⟩ := hv
  obtain ⟨a2, cap2, rfl, hc2⟩ := hu
  go_enter Try.func25, Try.ntmps25
  go_wp2
  go_loopw [5, 6] (fun t i wr => ∃ (k : Nat) (T : Int), k ≤ cs.length ∧ i = .int .i64 k ∧ t = .int .i64 T ∧ T = dotL (cs.take k) (ks.take k) ∧ 0 ≤ T ∧ T ≤ 60000 * k ∧ Drawn w wr) (fun _ i _ => cs.length - (intOf i).toNat)
  case atStart => exact ⟨0, 0, Nat.zero_le _, rfl, rfl, rfl, by omega, by omega, ⟨0, rfl⟩⟩
  case round =>
    obtain ⟨k, T, hk1, rfl, rfl, hT, hT0, hT1, hd⟩ := hrel
    have HT := Lib.hid hT
    clear hT
    by_cases hlt : k < cs.length
    · obtain ⟨b, off, rfl, hcell0⟩ := hc k hlt
      obtain ⟨b2, off2, rfl, hcell1⟩ := hc2 k (by omega)
      have hcell := (hd.cell _).trans hcell0
      have hcell' := (hd.cell _).trans hcell1
      obtain ⟨⟨p1, p2⟩, p3, p4⟩ := hb k hlt
      have HS := Lib.hid (dotL_take cs ks k hlt (by omega))
      have hlk : k < ks.length := by omega
      have hlk2 : (k : Int) < (cs.length : Int) := by omega
      have HK := Lib.hid hk
      clear hc hc2 hcell0 hcell1 hk hb
      generalize cs.getD k 0 = c at *
      generalize ks.getD k 0 = x at *
      have m1 : 0 ≤ c * x := Int.mul_nonneg p1 p3
      have m2 : c * x ≤ 60000 := by
        have h1 : c * x ≤ 30 * x := Int.mul_le_mul_of_nonneg_right p2 p3
        omega
      have W1 : IntKind.i64.wrap (c * x) = c * x := IntWalk.i64_in _ (by omega)
      have W2 : IntKind.i64.wrap (T + c * x) = T + c * x := IntWalk.i64_in _ (by omega)
      go_wp2
      go_quiet (fail)
      go_wp2
      go_roundw
      case rel => exact ⟨k + 1, T + c * x, by omega, by go_num, rfl, by rw [HS.out, HT.out], by omega, by omega, hd.more _⟩
      case measure => simp [intOf]; omega
    · clear hb hc hc2
      go_wp2
      go_ret
      exact ⟨ret_int (by rw [HT.out, List.take_of_length_le (by omega), List.take_of_length_le (by omega)]), hd⟩

end Go.Proofs.Ytbkndncdhombeaa
