/- The law FnPayPlan: the walk, out of contracts of the program's functions that are handed in. -/
import Derived.Test.YtbedjebnllimpaaLFewest
namespace Go.Proofs.Ytbedjebnllimpaa
open Go.RowKit

theorem kC_all_zero {ys : List Int} (h : ∀ j, j < ys.length → ys.getD j 0 = 0) : kC ys ys.length = 0 := kC_zero h _ (Nat.le_refl _)

set_option maxRecDepth 100000 in
set_option maxHeartbeats 1600000 in
theorem FnPayPlan_of (GI : GroupsC) (PI : PlanC) (AI : AfterC) (a : Option Addr) (n cap : Nat) (w : World) (h : IsBytes w a n) (hc : n ≤ cap) :
    Calls Try.prog 8 #[.slice a n cap] w fun e w' => e = .returned (.bool true) ∧ Below w.heap.size w w' := by
  by_cases hbig : (1048576 : Int) < (n : Int)
  · clear GI PI AI
    go_enter Try.func8, Try.ntmps8
    go_wp2
    go_ret
    exact ⟨rfl, Below.refl _ _⟩
  · have HGI := Lib.hid GI
    have HPI := Lib.hid PI
    have HAI := Lib.hid AI
    clear GI PI AI
    go_enter Try.func8, Try.ntmps8
    go_wp2_with fail
    refine (DrawPayPlan_any a n cap w h hc).mono ?_
    rintro e w1 ⟨v, xs, rfl, o1, hb, b1⟩
    have hx6 := hb.1
    have hl : xs.length ≤ 9223372036854775807 := by omega
    have hpl9 : (planL xs).length ≤ 9223372036854775807 := by
      cases hv : vBal xs
      · rw [planL, hv]; exact Nat.zero_le _
      · have := (planL_facts hv).1; omega
    go_wp2_with fail
    refine (HPI.out v xs _ o1.ints hl).mono ?_
    rintro e w2 ⟨z, rfl, hz, hb2⟩
    have b2 : Below w.heap.size w w2 := b1.trans (hb2.mono b1.size)
    have o2 := o1.below hb2
    have HZ := Lib.hid hz
    obtain ⟨az, cz, rfl, _⟩ := hz
    clear o1 hb2
    go_wp2_with fail
    refine (PayPlan_spec v xs _ o2.ints hl).mono ?_
    rintro e w3 ⟨y, rfl, hy, hb3⟩
    have b3 : Below w.heap.size w w3 := b2.trans (hb3.mono b2.size)
    have o3 := o2.below hb3
    have z3 := HZ.out.below hb3
    clear o2 hb3 HZ
    go_wp2_with fail
    refine (equalPays_same _ _ (planL xs) _ z3 hy.pays hpl9).mono ?_
    rintro e w4 ⟨rfl, hd4⟩
    have b4 : Below w.heap.size w w4 := b3.trans (hd4.below.mono b3.size)
    have o4 := o3.below hd4.below
    have z4 := z3.below hd4.below
    clear o3 z3 hy hd4
    go_wp2_with fail
    refine (HGI.out v xs _ o4.ints hl).mono ?_
    rintro e w5 ⟨rfl, hb5⟩
    have b5 : Below w.heap.size w w5 := b4.trans (hb5.mono b4.size)
    have o5 := o4.below hb5
    have z5 := z4.below hb5
    clear o4 z4 hb5
    cases hv : vBal xs
    · have hg : groupsV xs = -1 := by rw [groupsV, hv]; rfl
      have hlt : groupsV xs < 0 := by omega
      clear hg
      generalize groupsV xs = gv at *
      go_wp2_with fail
      refine (PayPlan_spec v xs _ o5.ints hl).mono ?_
      rintro e w6 ⟨y6, rfl, hy6, hb6⟩
      have b6 : Below w.heap.size w w6 := b5.trans (hb6.mono b5.size)
      have z6 := z5.below hb6
      go_wp2_with fail
      refine (equalPays_same _ _ (planL xs) _ z6 hy6.pays hpl9).mono ?_
      rintro e w7 ⟨rfl, hd7⟩
      have b7 : Below w.heap.size w w7 := b6.trans (hd7.below.mono b6.size)
      go_wp2
      go_ret
      exact ⟨rfl, b7⟩
    · have hg : groupsV xs = gp xs (2 ^ xs.length - 1) := by rw [groupsV, if_pos hv]
      have hgb := gp_bounds xs _ (2 ^ xs.length - 1) (Nat.le_refl _)
      have hn0 : ¬ groupsV xs < 0 := by omega
      obtain ⟨p1, p2, p3⟩ := planL_facts hv
      have hk := kC_nonneg xs xs.length
      have e : planL xs = planF xs.length xs := by rw [planL, if_pos hv]
      obtain ⟨ys, q1, q2, q3⟩ := after_planL hv
      rw [← e] at q1
      have hky := kC_all_zero q3
      have HAX := Lib.hid (HAI.out)
      clear hg hgb p2 hv e
      generalize groupsV xs = gv at *
      have HO := Lib.hid (fun w' (hi : IsInts w' v xs) => others_any v xs w' hi (by omega))
      obtain ⟨av, cv, rfl, _⟩ := o5.ints
      go_wp2_with fail
      refine (HAX.out _ _ xs (planL xs) _ o5.ints hl z5 hpl9).mono ?_
      rintro e w6 ⟨d, rfl, hd, hb6⟩
      rw [q1] at hd ⊢
      rw [Option.getD_some] at hd
      have b6 : Below w.heap.size w w6 := b5.trans (hb6.mono b5.size)
      have o6 := o5.below hb6
      have HOY := Lib.hid (others_any d ys w6 hd (by omega))
      rw [hky] at HOY
      clear z5 o5 hb6 HAX HAI HGI HPI q1 q3 hky
      rw [Option.isSome_some]
      go_wp2_with fail
      refine HOY.out.mono ?_
      rintro e w' ⟨rfl, rfl⟩
      go_wp2_with fail
      refine (HO.out _ o6.ints).mono ?_
      rintro e w' ⟨rfl, rfl⟩
      generalize kC xs xs.length = k at *
      have hle : ((planL xs).length : Int) ≤ (if k - 1 < 0 then 0 else k - 1) := by split <;> omega
      go_wp2
      all_goals
        go_ret
        exact ⟨rfl, b6⟩

end Go.Proofs.Ytbedjebnllimpaa
