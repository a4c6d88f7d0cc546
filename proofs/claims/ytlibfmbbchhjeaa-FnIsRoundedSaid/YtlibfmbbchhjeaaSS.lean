/- Slices of slices of ints: measured, copied, compared by the laws. -/
import Derived.Test.YtlibfmbbchhjeaaTabM
namespace Go.Proofs.Ytlibfmbbchhjeaa
open Go.RowKit

/-- A measure that was kept. -/
def Sized (g : List (List Int)) : Prop := g.length ≤ 1048576 ∧ ∀ i, i < g.length → (rowOf g i).length ≤ 1048576

set_option maxRecDepth 100000 in
set_option maxHeartbeats 1600000 in
theorem szIntSS_any (v : Value) (g : List (List Int)) (l : Int) (w : World) (hv : IsGrid w v g) (hl : g.length ≤ 9223372036854775807) (hr : ∀ i, i < g.length → (rowOf g i).length ≤ 9223372036854775807) (h0 : 0 ≤ l ∧ l ≤ 1048576) :
    Calls Try.prog 46 #[v, .int .i64 l] w fun e w' => ∃ r : Int, e = .returned (.int .i64 r) ∧ (r = -1 ∨ (0 ≤ r ∧ r ≤ l ∧ Sized g)) ∧ w = w' := by
  obtain ⟨a, cap, rfl, _⟩ := id hv
  by_cases hb : (l : Int) < (g.length : Int)
  · go_enter Try.func46, Try.ntmps46
    go_wp2
    go_ret
    exact ⟨_, rfl, .inl rfl, rfl⟩
  · have hb2 : ¬ (l - (g.length : Int) < 0) := by omega
    go_enter Try.func46, Try.ntmps46
    go_wp2
    go_loop [1, 5] (fun c s => ∃ (i : Nat) (r : Int), i ≤ g.length ∧ s = .int .i64 i ∧ c = .int .i64 r ∧ 0 ≤ r ∧ r ≤ l ∧ ∀ j, j < i → (rowOf g j).length ≤ 1048576) (fun _ s => g.length - (intOf s).toNat)
    case atStart => exact ⟨0, l - g.length, Nat.zero_le _, rfl, by go_num, by omega, by omega, fun j hj => by omega⟩
    case round =>
      obtain ⟨i, r, hi, rfl, rfl, hr0, hr1, hok⟩ := hrel
      have HOK := Lib.hid hok
      clear hok
      by_cases hlt : i < g.length
      · obtain ⟨b, off, ar, cr, rfl, ci, _⟩ := hv.row i hlt
        have i1 : (i : Int) < (g.length : Int) := by omega
        have hri := hr i hlt
        by_cases hc : r < ((rowOf g i).length : Int)
        · have hd : r - ((rowOf g i).length : Int) < 0 := by omega
          go_wp2
          go_ret
          exact ⟨_, rfl, .inl rfl, rfl⟩
        · have hd : ¬ (r - ((rowOf g i).length : Int) < 0) := by omega
          go_wp2
          go_round
          case rel =>
            refine ⟨i + 1, r - (rowOf g i).length, by omega, by go_num, by go_num, by omega, by omega, fun j hj => ?_⟩
            by_cases hji : j = i
            · subst hji; omega
            · exact HOK.out j (by omega)
          case measure => simp [intOf]; omega
      · have H : Hid (Sized g) := ⟨by omega, fun j hj => HOK.out j (by omega)⟩
        go_wp2
        go_ret
        exact ⟨_, rfl, .inr ⟨hr0, hr1, H.out⟩, rfl⟩

end Go.Proofs.Ytlibfmbbchhjeaa
