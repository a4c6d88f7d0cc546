/- The law FnValidCoins. -/
import Derived.Test.YtbkndncdhombeaaCoinRv
import Derived.Test.YtbkndncdhombeaaCoinVs
import Derived.Test.YtbkndncdhombeaaCoinR
import Derived.Test.YtbkndncdhombeaaIsGI
namespace Go.Proofs.Ytbkndncdhombeaa
open Go.RowKit

theorem vc_take {cs : List Int} (h : vCoins cs = true) {m : Nat} (h1 : 1 ≤ m) (h2 : m ≤ cs.length) : vCoins (cs.take m) = true := by
  rw [vCoins_iff] at h ⊢
  have hl : (cs.take m).length = m := by rw [List.length_take]; omega
  have hg : ∀ j, j < m → (cs.take m).getD j 0 = cs.getD j 0 := fun j hj => by simp [List.getD, hj]
  rw [hl]
  refine ⟨by omega, fun i hi => ?_⟩
  have := h.2 i (by omega)
  unfold okC at this ⊢
  rw [hg i hi, hg (i - 1) (by omega)]
  exact this

theorem ints_take {w : World} {av : Option Addr} {cv : Nat} {cs : List Int} (h : IsInts w (.slice av cs.length cv) cs) {m : Nat} (h2 : m ≤ cs.length) : IsInts w (.slice av m cv) (cs.take m) := by
  obtain ⟨a, c, e, hc⟩ := h
  simp only [Value.slice.injEq] at e
  obtain ⟨rfl, _, rfl⟩ := e
  have hl : (cs.take m).length = m := by rw [List.length_take]; omega
  refine ⟨av, cv, by rw [hl], fun j hj => ?_⟩
  obtain ⟨b, off, e1, e2⟩ := hc j (by omega)
  refine ⟨b, off, e1, e2.trans ?_⟩
  have : (cs.take m).getD j 0 = cs.getD j 0 := by simp [List.getD, show j < m by omega]
  rw [this]

set_option maxRecDepth 100000 in
set_option maxHeartbeats 1600000 in
theorem FnValidCoins_walk (a : Option Addr) (n cap : Nat) (w : World) (h : IsBytes w a n) (hc : n ≤ cap) :
    Calls Try.prog 3 #[.slice a n cap] w fun e w' => e = .returned (.bool true) ∧ Below w.heap.size w w' := by
  by_cases hbig : (1048576 : Int) < (n : Int)
  · go_enter Try.func3, Try.ntmps3
    go_wp2
    go_ret
    exact ⟨rfl, Below.refl _ _⟩
  · go_enter Try.func3, Try.ntmps3
    go_wp2_with fail
    refine (DrawValidCoins_any a n cap _ h hc).mono ?_
    rintro e w1 ⟨v, cs, rfl, o1, hl6, b1⟩
    have hl : cs.length ≤ 9223372036854775807 := by omega
    have oc := own_cap o1
    obtain ⟨av, cv, rfl, _⟩ := id o1.ints
    have hcv : cs.length ≤ cv := oc _ _ _ rfl
    clear h oc
    cases hv : vCoins cs
    · go_wp2_with fail
      refine (ValidCoins_iat _ cs _ _ o1.ints hl hv).mono ?_
      rintro e w2 ⟨rfl, d2⟩
      have b2 := b1.trans (d2.below.mono b1.size)
      have o2 := o1.below d2.below
      clear o1 b1 d2
      go_wp2_with fail
      refine (ValidCoins_spec _ cs _ o2.ints hl).mono ?_
      rintro e w3 ⟨rfl, d3⟩
      have b3 := b2.trans (d3.below.mono b2.size)
      have o3 := o2.below d3.below
      rw [hv]
      clear o2 b2 d3
      go_wp2_with fail
      refine (ValidCoins_spec _ cs _ o3.ints hl).mono ?_
      rintro e w4 ⟨rfl, d4⟩
      have b4 := b3.trans (d4.below.mono b3.size)
      rw [hv]
      clear o3 b3 d4
      go_wp2
      go_ret
      exact ⟨rfl, b4⟩
    · obtain ⟨l1, l5⟩ := vc_len hv
      go_wp2_with fail
      refine (ValidCoins_iat _ cs _ _ o1.ints hl hv).mono ?_
      rintro e w2 ⟨rfl, d2⟩
      have b2 := b1.trans (d2.below.mono b1.size)
      have o2 := o1.below d2.below
      clear o1 b1 d2
      go_wp2_with fail
      refine (ValidCoins_spec _ cs _ o2.ints hl).mono ?_
      rintro e w3 ⟨rfl, d3⟩
      have b3 := b2.trans (d3.below.mono b2.size)
      have o3 := o2.below d3.below
      rw [hv]
      clear o2 b2 d3
      by_cases h1 : cs.length = 1
      · have e1 : ((cs.length : Int) == 1) = true := by simp [h1]
        have e2 : decide ((cs.length : Int) = 1) = true := by simp [h1]
        go_wp2
        go_ret
        exact ⟨rfl, b3⟩
      · have e1 : ((cs.length : Int) == 1) = false := by simp; omega
        have e2 : decide ((cs.length : Int) = 1) = false := by simp; omega
        have HT := Lib.hid (ints_take o3.ints (show cs.length - 1 ≤ cs.length by omega))
        have HV := Lib.hid (vc_take hv (show 1 ≤ cs.length - 1 by omega) (by omega))
        have HL : Hid ((cs.take (cs.length - 1)).length ≤ 9223372036854775807) := by show _ ≤ _; rw [List.length_take]; omega
        have M1 : IntKind.i64.wrap ((cs.length : Int) - 1) = ((cs.length - 1 : Nat) : Int) := by rw [IntWalk.i64_in _ (by omega)]; omega
        go_wp2_with fail
        refine (ValidCoins_iat _ _ _ _ HT.out HL.out HV.out).mono ?_
        rintro e w4 ⟨rfl, d4⟩
        have b4 := b3.trans (d4.below.mono b3.size)
        clear HT HV HL o3 b3 d4
        go_wp2
        go_ret
        exact ⟨rfl, b4⟩

end Go.Proofs.Ytbkndncdhombeaa
