/- Two lists compared: the contract that tells that nothing but draws has happened. -/
import Derived.Test.YtfgafbjofkicdaaOwn
import Derived.Test.YtfgafbjofkicdaaWorld
namespace Go.Proofs.Ytfgafbjofkicdaa
open Go.RowKit

set_option maxHeartbeats 800000 in
theorem equalInts_quiet (va vb : Value) (xs ys : List Int) (w : World) (ha : IsInts w va xs) (hb : IsInts w vb ys) (hl : xs.length ≤ 9223372036854775807) :
    Calls Try.prog 27 #[va, vb] w fun e w' => e = .returned (.bool (decide (xs = ys))) ∧ ∃ m, w' = w.drewN m := by
  obtain ⟨a, cap, rfl, hc⟩ := ha
  obtain ⟨a2, cap2, rfl, hc2⟩ := hb
  by_cases hlen : xs.length = ys.length
  · have hne : ((xs.length : Int) != (ys.length : Int)) = false := by simp; omega
    go_enter Try.func27, Try.ntmps27
    go_wp2
    go_loopw [5] (fun i wr => ∃ k : Nat, k ≤ xs.length ∧ i = .int .i64 k ∧ xs.take k = ys.take k ∧ Drawn w wr) (fun i _ => xs.length - (intOf i).toNat)
    case atStart => exact ⟨0, Nat.zero_le _, rfl, rfl, ⟨0, rfl⟩⟩
    case round =>
      obtain ⟨k, hk, rfl, htk, hbel⟩ := hrel
      have HT := Lib.hid htk
      have HL := Lib.hid hlen
      clear htk
      by_cases hlt : k < xs.length
      · have hlt2 : k < ys.length := by omega
        obtain ⟨b, off, rfl, hcell0⟩ := hc k hlt
        obtain ⟨b2, off2, rfl, hcell1⟩ := hc2 k hlt2
        have hcell : wr.cell? ⟨b, off + k, none⟩ = some (.int .i64 xs[k]) := by
          rw [show xs[k] = xs.getD k 0 by simp [List.getD, hlt]]
          exact (hbel.cell _).trans hcell0
        have hcell' : wr.cell? ⟨b2, off2 + k, none⟩ = some (.int .i64 ys[k]) := by
          rw [show ys[k] = ys.getD k 0 by simp [List.getD, hlt2]]
          exact (hbel.cell _).trans hcell1
        have hkl : (k : Int) < (xs.length : Int) := by omega
        have hkl2 : (k : Int) < (ys.length : Int) := by omega
        clear hc hc2 hlen hcell0 hcell1
        by_cases heq : xs[k] = ys[k]
        · have hn : (xs[k] != ys[k]) = false := by simp [heq]
          have HE := Lib.hid heq
          clear heq
          go_wp2
          go_quiet (fail)
          go_wp2
          go_roundw
          case rel => exact ⟨k + 1, by omega, by go_num, take_eq_of xs ys k hlt hlt2 HT.out HE.out, hbel.more _⟩
          case measure => simp [intOf]; omega
        · have hn : (xs[k] != ys[k]) = true := by simp [heq]
          go_wp2
          go_quiet (fail)
          go_wp2
          go_ret
          refine ⟨ret_bool ?_, (hbel.more _).out⟩
          symm
          rw [decide_eq_false_iff_not]
          intro h
          exact heq (by simp only [h])
      · clear hlen
        go_wp2
        go_ret
        refine ⟨ret_bool ?_, hbel.out⟩
        symm
        rw [decide_eq_true_iff]
        have := HT.out
        rwa [List.take_of_length_le (by omega), List.take_of_length_le (by rw [← HL.out]; omega)] at this
  · have hne : ((xs.length : Int) != (ys.length : Int)) = true := by simp; omega
    go_enter Try.func27, Try.ntmps27
    go_wp2
    go_ret
    refine ⟨ret_bool ?_, 0, rfl⟩
    symm
    rw [decide_eq_false_iff_not]
    intro h
    exact hlen (by rw [h])


end Go.Proofs.Ytfgafbjofkicdaa
