/- Drawn bills; the drawn arguments of the laws of balances. -/
import Derived.Test.YtbedjebnllimpaaBalD
namespace Go.Proofs.Ytbedjebnllimpaa
open Go.RowKit

/-- Drawn bills: at most 7 numbers from -1 to 51. -/
def Paid (xs : List Int) : Prop := xs.length ≤ 7 ∧ ∀ x ∈ xs, -1 ≤ x ∧ x ≤ 51

theorem paid_push {xs : List Int} {y : Int} (h : ∀ x ∈ xs, -1 ≤ x ∧ x ≤ 51) (hy : -1 ≤ y ∧ y ≤ 51) : ∀ x ∈ xs ++ [y], -1 ≤ x ∧ x ≤ 51 := by
  intro x hx
  rcases List.mem_append.1 hx with hx | hx
  · exact h x hx
  · simp at hx; subst hx; exact hy

set_option maxHeartbeats 3200000 in
theorem DrawBillShares_any (a : Option Addr) (n cap : Nat) (w : World) (h : IsBytes w a n) (hc : n ≤ cap) :
    Calls Try.prog 47 #[.slice a n cap] w fun e w' => ∃ v xs, e = .returned v ∧ Own w' w.heap.size v xs ∧ Paid xs ∧ Below w.heap.size w w' := by
  go_enter Try.func47, Try.ntmps47
  go_wp2_with fail
  refine (newReader_any a n cap _ h hc).mono ?_
  rintro e w1 ⟨rfl, h1, b1⟩
  have hRl := h1.lt
  have hb0 : Below w1.heap.size w1 (w1.alloc (.cells #[] 3)) := (Below.refl _ _).alloc (Nat.le_refl _) _
  have ho0 := own_empty w1 w1.heap.size (Nat.le_refl _)
  have h1b := h1.later hb0
  clear h1
  go_wp2_with fail
  refine (one_lit [3, 4, 2, 6, 1, 0, 7] _ 7 rfl rfl _ _ _ _ _ _ h1b (by omega) (by simp) (by simp) (by simp)).mono ?_
  rintro e w2 ⟨m, rfl, hm, h2, g2⟩
  have hm7 : 0 ≤ m ∧ m ≤ 7 := by
    simp only [List.mem_cons, List.not_mem_nil, or_false] at hm
    omega
  have ho2 := ho0.kept g2 (.inr (by simp [Value.ownBlock]; omega))
  have hg2 : w1.grownBy w2 (some w.heap.size) := (World.grownBy_alloc w1 _ _).trans g2
  clear hm ho0 hb0 g2 h1b
  go_wp2
  go_loopg [4] 7 (fun g v wr => ∃ xs : List Int, xs.length + g = 7 ∧ Own wr w1.heap.size v xs ∧ (∀ x ∈ xs, -1 ≤ x ∧ x ≤ 51) ∧ HasReader wr w.heap.size w.heap.size a (1 + 4 * xs.length) ∧ w1.grownBy wr (some w.heap.size))
  case atStart => exact ⟨[], rfl, ho2, by simp, h2.more (by simp), hg2⟩
  case round =>
    obtain ⟨xs, hxg, hown, hxs, hrd, hgr⟩ := hrel
    have HXG := Lib.hid hxg
    have HXS := Lib.hid hxs
    have hx7 : xs.length ≤ 7 := by omega
    obtain ⟨av, cv, rfl, _⟩ := hown.ints
    have hRs : w1.heap.size ≤ wr.heap.size := hgr.size
    have hne := hown.neBlock hRl.2
    clear hxg hxs ho2 hg2 h2
    by_cases hlt : (xs.length : Int) < m
    · go_wp2_with fail
      refine (pick_has 51 _ _ a _ _ hrd (by omega) (by omega)).mono ?_
      rintro e w3 ⟨y1, rfl, ⟨p0, p1, _⟩, h3, g3⟩
      have p2 := p1 (by omega)
      have o3 := hown.kept g3 (.inr hne)
      have t3 := hgr.trans g3
      clear p1 hown hrd hgr g3
      go_wp2_with fail
      refine (pick_has 20 _ _ a _ _ h3 (by omega) (by omega)).mono ?_
      rintro e w4 ⟨y2, rfl, ⟨r0, r1, _⟩, h4, g4⟩
      have r2 := r1 (by omega)
      have o4 := o3.kept g4 (.inr hne)
      have t4 := t3.trans g4
      clear r1 o3 t3 h3 g4
      go_wp2_with fail
      refine (one_lit [y1, 0, y2] _ 3 rfl rfl _ _ _ a _ _ h4 (by omega) (by simp) (by simp) rfl).mono ?_
      rintro e w5 ⟨y, rfl, hy, h5, g5⟩
      have hyb : -1 ≤ y ∧ y ≤ 51 := by
        simp only [List.mem_cons, List.not_mem_nil, or_false] at hy
        omega
      have o5 := o4.kept g5 (.inr hne)
      have t5 := t4.trans g5
      have hs5 : w1.heap.size ≤ w5.heap.size := t5.size
      clear o4 t4 h4 g5 hy p0 p2 r0 r2
      go_wp2_with (at_builtin; refine wpList_push o5 (by omega) hs5 (h := ?_))
      intro v6 w6 o6 g6 m6
      have t6 : w1.grownBy w6 (some w.heap.size) := grown_fresh t5 g6 (fun k hk => (o5.lt k hk).1)
      have h6 := h5.kept g6 (fun k hk => by have := (o5.lt k hk).1; omega)
      have HX6 := Lib.hid (paid_push HXS.out hyb)
      clear o5 t5 h5 g6 m6
      go_wp2
      cases gk with
      | zero =>
        have := HXG.out
        omega
      | succ g =>
        go_roundg g
        case measure => omega
        case rel => exact ⟨_, by have := HXG.out; simp; omega, o6, HX6.out, h6.more (by simp; omega), t6⟩
    · by_cases hz : 0 < xs.length
      · have hzi : (0 : Int) < (xs.length : Int) := by omega
        have hd : decide ((0 : Int) < (xs.length : Int)) = true := decide_eq_true hzi
        rcases id hown.2 with ⟨_, h0⟩ | ⟨g6, cap6, cur6, hsh, _⟩
        · omega
        simp only [Value.slice.injEq, true_and] at hsh
        obtain ⟨rfl, rfl⟩ := hsh
        go_wp2_with fail
        refine (pick_has 24 _ _ a _ _ hrd (by omega) (by omega)).mono ?_
        rintro e w3 ⟨y1, rfl, ⟨p0, p1, _⟩, h3, g3⟩
        have o3 := hown.kept g3 (.inr hne)
        have t3 := hgr.trans g3
        clear p1 hown hrd hgr g3
        by_cases e0 : y1 = 0
        · subst e0
          go_wp2_with fail
          refine (one_lit [-1, 51] _ 2 rfl rfl _ _ _ a _ _ h3 (by omega) (by simp) (by simp) rfl).mono ?_
          rintro e w5 ⟨y, rfl, hy, h5, g5⟩
          have hyb : -1 ≤ y ∧ y ≤ 51 := by
            simp only [List.mem_cons, List.not_mem_nil, or_false] at hy
            omega
          have o5 := o3.kept g5 (.inr hne)
          have t5 := t3.trans g5
          have c0 := o5.cell rfl 0 hz
          have f0 := o5.frozen rfl 0
          have s0 := o5.set rfl 0 y
          have t6 : w1.grownBy _ (some w.heap.size) := grown_fresh t5 s0.2 (fun k hk => by cases hk; exact (o5.lt g6 rfl).1)
          have b6 := below_reader b1 t6
          have S0 := Lib.hid (s0.1.base b1.size)
          have B6 := Lib.hid b6
          have HP : Hid (Paid (xs.set 0 y)) := ⟨by rw [List.length_set]; exact hx7, fun x hx => by
            rcases List.mem_or_eq_of_mem_set hx with hx | hx
            · exact HXS.out x hx
            · subst hx; exact hyb⟩
          clear s0 t6 b6 o5 t5 h5 g5 o3 t3 h3
          generalize xs.getD 0 0 = z at *
          go_wp2
          go_ret
          exact ⟨_, _, rfl, S0.out, HP.out, B6.out⟩
        · have f0 : (y1 == 0) = false := by simpa using e0
          have b3 := below_reader b1 t3
          have O := Lib.hid (o3.base b1.size)
          clear o3 t3 h3
          go_wp2
          go_ret
          exact ⟨_, _, rfl, O.out, ⟨hx7, HXS.out⟩, b3⟩
      · have hd : decide ((0 : Int) < (xs.length : Int)) = false := decide_eq_false (by omega)
        have b3 := below_reader b1 hgr
        have O := Lib.hid (hown.base b1.size)
        clear hown hgr hrd
        go_wp2
        go_ret
        exact ⟨_, rfl, xs, O.out, ⟨hx7, HXS.out⟩, b3⟩

set_option maxHeartbeats 800000 in
theorem DrawGroupsOf_any (a : Option Addr) (n cap : Nat) (w : World) (h : IsBytes w a n) (hc : n ≤ cap) :
    Calls Try.prog 33 #[.slice a n cap] w fun e w' => ∃ v xs, e = .returned v ∧ Own w' w.heap.size v xs ∧ Bals xs ∧ Below w.heap.size w w' := by
  go_enter Try.func33, Try.ntmps33
  go_wp2_with fail
  refine (newReader_any a n cap _ h hc).mono ?_
  rintro e w1 ⟨rfl, h1, b1⟩
  go_wp2_with fail
  refine (someBalances_any _ _ _ _ _ h1 (by omega)).mono ?_
  rintro e w2 ⟨v, xs, rfl, o2, hb, h2, g2⟩
  have b2 := below_reader b1 g2
  have O := Lib.hid (o2.base b1.size)
  clear o2 h2 g2 h1
  go_wp2
  go_ret
  exact ⟨_, _, rfl, O.out, hb, b2⟩

set_option maxHeartbeats 800000 in
theorem DrawFewestPays_any (a : Option Addr) (n cap : Nat) (w : World) (h : IsBytes w a n) (hc : n ≤ cap) :
    Calls Try.prog 37 #[.slice a n cap] w fun e w' => ∃ v xs, e = .returned v ∧ Own w' w.heap.size v xs ∧ Bals xs ∧ Below w.heap.size w w' := by
  go_enter Try.func37, Try.ntmps37
  go_wp2_with fail
  refine (newReader_any a n cap _ h hc).mono ?_
  rintro e w1 ⟨rfl, h1, b1⟩
  go_wp2_with fail
  refine (someBalances_any _ _ _ _ _ h1 (by omega)).mono ?_
  rintro e w2 ⟨v, xs, rfl, o2, hb, h2, g2⟩
  have b2 := below_reader b1 g2
  have O := Lib.hid (o2.base b1.size)
  clear o2 h2 g2 h1
  go_wp2
  go_ret
  exact ⟨_, _, rfl, O.out, hb, b2⟩

set_option maxHeartbeats 800000 in
theorem DrawPayPlan_any (a : Option Addr) (n cap : Nat) (w : World) (h : IsBytes w a n) (hc : n ≤ cap) :
    Calls Try.prog 41 #[.slice a n cap] w fun e w' => ∃ v xs, e = .returned v ∧ Own w' w.heap.size v xs ∧ Bals xs ∧ Below w.heap.size w w' := by
  go_enter Try.func41, Try.ntmps41
  go_wp2_with fail
  refine (newReader_any a n cap _ h hc).mono ?_
  rintro e w1 ⟨rfl, h1, b1⟩
  go_wp2_with fail
  refine (someBalances_any _ _ _ _ _ h1 (by omega)).mono ?_
  rintro e w2 ⟨v, xs, rfl, o2, hb, h2, g2⟩
  have b2 := below_reader b1 g2
  have O := Lib.hid (o2.base b1.size)
  clear o2 h2 g2 h1
  go_wp2
  go_ret
  exact ⟨_, _, rfl, O.out, hb, b2⟩

end Go.Proofs.Ytbedjebnllimpaa
