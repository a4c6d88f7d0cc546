/- The laws FnGroupsOf and FnFewestPays: the walks, out of contracts of the program's functions that are handed in. -/
import Derived.Test.YtbedjebnllimpaaGrpS
import Derived.Test.YtbedjebnllimpaaPlanS
import Derived.Test.YtbedjebnllimpaaTotC
import Derived.Test.YtbedjebnllimpaaBillD
namespace Go.Proofs.Ytbedjebnllimpaa
open Go.RowKit

set_option maxRecDepth 100000 in
set_option maxHeartbeats 1600000 in
theorem FnGroupsOf_of (GI : ∀ (v : Value) (xs : List Int) (w : World), IsInts w v xs → xs.length ≤ 9223372036854775807 → Calls Try.prog 34 #[v] w fun e w' => e = .returned (.int .i64 (groupsV xs)) ∧ Below w.heap.size w w')
    (a : Option Addr) (n cap : Nat) (w : World) (h : IsBytes w a n) (hc : n ≤ cap) :
    Calls Try.prog 6 #[.slice a n cap] w fun e w' => e = .returned (.bool true) ∧ Below w.heap.size w w' := by
  by_cases hbig : (1048576 : Int) < (n : Int)
  · clear GI
    go_enter Try.func6, Try.ntmps6
    go_wp2
    go_ret
    exact ⟨rfl, Below.refl _ _⟩
  · have HGI := Lib.hid GI
    clear GI
    go_enter Try.func6, Try.ntmps6
    go_wp2_with fail
    refine (DrawGroupsOf_any a n cap w h hc).mono ?_
    rintro e w1 ⟨v, xs, rfl, o1, hb, b1⟩
    have hx6 := hb.1
    have hl : xs.length ≤ 9223372036854775807 := by omega
    go_wp2_with fail
    refine (HGI.out v xs _ o1.ints hl).mono ?_
    rintro e w2 ⟨rfl, hb2⟩
    have b2 : Below w.heap.size w w2 := b1.trans (hb2.mono b1.size)
    have o2 := o1.below hb2
    clear o1 hb2
    go_wp2_with fail
    refine (GroupsOf_spec v xs _ o2.ints hl).mono ?_
    rintro e w3 ⟨rfl, hb3⟩
    have b3 : Below w.heap.size w w3 := b2.trans (hb3.mono b2.size)
    have o3 := o2.below hb3
    clear o2 hb3
    have hne : (groupsV xs != groupsV xs) = false := by simp
    have heq : (groupsV xs == groupsV xs) = true := by simp
    cases hv : vBal xs
    · have hg : groupsV xs = -1 := by rw [groupsV, hv]; rfl
      have hlt : groupsV xs < 0 := by omega
      have HS : Hid (∀ w', IsInts w' v xs → Calls Try.prog 35 #[v] w' fun e w'' => e = .returned (.int .i64 (groupsV xs)) ∧ Below w'.heap.size w' w'') := fun w' hi => GroupsOf_spec v xs w' hi hl
      clear hg
      generalize groupsV xs = gv at *
      go_wp2_with fail
      refine (HS.out _ o3.ints).mono ?_
      rintro e w4 ⟨rfl, hb4⟩
      have b4 : Below w.heap.size w w4 := b3.trans (hb4.mono b3.size)
      go_wp2
      go_ret
      exact ⟨rfl, b4⟩
    · have hg : groupsV xs = gp xs (2 ^ xs.length - 1) := by rw [groupsV, if_pos hv]
      obtain ⟨f1, f2, f3, f4, f5⟩ := groups_facts hv
      rw [← hg] at f1 f2 f3
      have HO := Lib.hid (others_any v xs w3 o3.ints (by omega))
      have o3i := o3.ints
      obtain ⟨av, cv, rfl, _⟩ := o3i
      clear hg o3 hv
      generalize groupsV xs = gv at *
      generalize kC xs xs.length = k at *
      have hn0 : ¬ gv < 0 := by omega
      go_wp2_with fail
      refine HO.out.mono ?_
      rintro e w' ⟨rfl, rfl⟩
      clear HO HGI
      by_cases hk : k = 0
      · have e1 : gv = (xs.length : Int) := by omega
        subst hk
        subst e1
        go_wp2
        go_ret
        exact ⟨rfl, b3⟩
      · have e1 : (gv == (xs.length : Int)) = false := by simp; omega
        have e2 : (k == 0) = false := by simp [hk]
        have g1 := f2 hk
        have q1 : (xs.length : Int) - k ≤ gv := f1
        have q2 : (xs.length : Int) - k + 1 ≤ gv := g1
        have q3 : gv ≤ (xs.length : Int) - k + k / 2 := by omega
        clear f1 f2 f3 g1
        go_wp2
        go_ret
        exact ⟨rfl, b3⟩

end Go.Proofs.Ytbedjebnllimpaa
