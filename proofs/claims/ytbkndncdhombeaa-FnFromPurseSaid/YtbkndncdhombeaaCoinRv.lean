/- What the other laws of chapter 5 draw. -/
import Derived.Test.YtbkndncdhombeaaCoinR
namespace Go.Proofs.Ytbkndncdhombeaa
open Go.RowKit


theorem DrawValidCoins_any (a : Option Addr) (n cap : Nat) (w : World) (h : IsBytes w a n) (hc : n ≤ cap) :
    Calls Try.prog 15 #[.slice a n cap] w fun e w' => ∃ v xs, e = .returned v ∧ Own w' w.heap.size v xs ∧ xs.length ≤ 6 ∧ Below w.heap.size w w' := by
  go_enter Try.func15, Try.ntmps15
  go_wp2_with fail
  refine (newReader_any a n cap _ h hc).mono ?_
  rintro e w1 ⟨rfl, h1, b1⟩
  go_wp2_with fail
  refine (someCoins_any _ _ _ _ _ h1 (by omega)).mono ?_
  rintro e w2 ⟨v, xs, rfl, o2, hb, h2, g2⟩
  have b2 := below_reader b1 g2
  have O := Lib.hid (o2.base b1.size)
  clear o2 h2 g2 h1
  go_wp2
  go_ret
  exact ⟨_, _, rfl, O.out, hb, b2⟩

theorem DrawIsGreedy_any (a : Option Addr) (n cap : Nat) (w : World) (h : IsBytes w a n) (hc : n ≤ cap) :
    Calls Try.prog 32 #[.slice a n cap] w fun e w' => ∃ v xs, e = .returned v ∧ Own w' w.heap.size v xs ∧ xs.length ≤ 6 ∧ Below w.heap.size w w' := by
  go_enter Try.func32, Try.ntmps32
  go_wp2_with fail
  refine (newReader_any a n cap _ h hc).mono ?_
  rintro e w1 ⟨rfl, h1, b1⟩
  go_wp2_with fail
  refine (someCoins_any _ _ _ _ _ h1 (by omega)).mono ?_
  rintro e w2 ⟨v, xs, rfl, o2, hb, h2, g2⟩
  have b2 := below_reader b1 g2
  have O := Lib.hid (o2.base b1.size)
  clear o2 h2 g2 h1
  go_wp2
  go_ret
  exact ⟨_, _, rfl, O.out, hb, b2⟩

theorem DrawFewestCoins_any (a : Option Addr) (n cap : Nat) (w : World) (h : IsBytes w a n) (hc : n ≤ cap) :
    Calls Try.prog 20 #[.slice a n cap] w fun e w' => ∃ v xs z, e = .returned (.tuple #[v, .int .i64 z]) ∧ Own w' w.heap.size v xs ∧ xs.length ≤ 6 ∧ (-1 ≤ z ∧ z ≤ 121) ∧ Below w.heap.size w w' := by
  go_enter Try.func20, Try.ntmps20
  go_wp2_with fail
  refine (newReader_any a n cap _ h hc).mono ?_
  rintro e w1 ⟨rfl, h1, b1⟩
  go_wp2_with fail
  refine (someCoins_any _ _ _ _ _ h1 (by omega)).mono ?_
  rintro e w2 ⟨v, xs, rfl, o2, hb, h2, g2⟩
  have hne := o2.neBlock h1.lt.2
  go_wp2_with fail
  refine (anAmount_any _ _ _ _ _ h2 (by omega)).mono ?_
  rintro e w3 ⟨z, rfl, hz, h3, g3⟩
  have o3 := o2.kept g3 (.inr hne)
  have b3 := below_reader b1 (g2.trans g3)
  have O := Lib.hid (o3.base b1.size)
  clear o2 h2 g2 h1 o3 h3 g3 hne
  go_wp2
  go_ret2
  exact ⟨_, _, _, rfl, O.out, hb, hz, b3⟩

theorem DrawGreedyCoins_any (a : Option Addr) (n cap : Nat) (w : World) (h : IsBytes w a n) (hc : n ≤ cap) :
    Calls Try.prog 28 #[.slice a n cap] w fun e w' => ∃ v xs z, e = .returned (.tuple #[v, .int .i64 z]) ∧ Own w' w.heap.size v xs ∧ xs.length ≤ 6 ∧ (-1 ≤ z ∧ z ≤ 121) ∧ Below w.heap.size w w' := by
  go_enter Try.func28, Try.ntmps28
  go_wp2_with fail
  refine (newReader_any a n cap _ h hc).mono ?_
  rintro e w1 ⟨rfl, h1, b1⟩
  go_wp2_with fail
  refine (someCoins_any _ _ _ _ _ h1 (by omega)).mono ?_
  rintro e w2 ⟨v, xs, rfl, o2, hb, h2, g2⟩
  have hne := o2.neBlock h1.lt.2
  go_wp2_with fail
  refine (anAmount_any _ _ _ _ _ h2 (by omega)).mono ?_
  rintro e w3 ⟨z, rfl, hz, h3, g3⟩
  have o3 := o2.kept g3 (.inr hne)
  have b3 := below_reader b1 (g2.trans g3)
  have O := Lib.hid (o3.base b1.size)
  clear o2 h2 g2 h1 o3 h3 g3 hne
  go_wp2
  go_ret2
  exact ⟨_, _, _, rfl, O.out, hb, hz, b3⟩

set_option maxHeartbeats 1600000 in
theorem DrawFromPurse_any (a : Option Addr) (n cap : Nat) (w : World) (h : IsBytes w a n) (hc : n ≤ cap) :
    Calls Try.prog 38 #[.slice a n cap] w fun e w' => ∃ v xs u ys z, e = .returned (.tuple #[v, u, .int .i64 z]) ∧ Own w' w.heap.size v xs ∧ Own w' w.heap.size u ys ∧ xs.length ≤ 6 ∧ ys.length ≤ 7 ∧ (-1 ≤ z ∧ z ≤ 121) ∧ Below w.heap.size w w' := by
  go_enter Try.func38, Try.ntmps38
  go_wp2_with fail
  refine (newReader_any a n cap _ h hc).mono ?_
  rintro e w1 ⟨rfl, h1, b1⟩
  have hRl := h1.lt
  go_wp2_with fail
  refine (someCoins_any _ _ _ _ _ h1 (by omega)).mono ?_
  rintro e w2 ⟨v, xs, rfl, o2, hb, h2, g2⟩
  have h12 : w1.heap.size ≤ w2.heap.size := g2.size
  have hR2 : w.heap.size < w2.heap.size := Nat.lt_of_lt_of_le hRl.2 g2.size
  have hb0 : Below w2.heap.size w2 (w2.alloc (.cells #[] 3)) := (Below.refl _ _).alloc (Nat.le_refl _) _
  have p0 := own_empty w2 w2.heap.size (Nat.le_refl _)
  have t0 : w1.grownBy (w2.alloc (.cells #[] 3)) (some w.heap.size) := g2.trans (World.grownBy_alloc w2 _ _)
  have o0 := o2.below hb0
  have h0 := h2.later hb0
  have hk : ∀ k, v.ownBlock = some k → k < w2.heap.size := fun k e => (o2.lt k e).2
  have hs0 := hb0.size
  clear h1 o2 h2 g2 hb0
  obtain ⟨av, cv, rfl, _⟩ := o0.ints
  go_wp2
  go_loopg [7] xs.length (fun g u wr => ∃ (ys : List Int), ys.length + g = xs.length ∧ Own wr w1.heap.size (.slice av xs.length cv) xs ∧ Own wr w2.heap.size u ys ∧ HasReader wr w.heap.size w.heap.size a (20 + (xs.length - g)) ∧ w1.grownBy wr (some w.heap.size) ∧ w2.heap.size ≤ wr.heap.size)
  case atStart => exact ⟨[], by simp, o0, p0, h0.more (by omega), t0, hs0⟩
  case round =>
    obtain ⟨ys, hlen, own, pwn, hrd, hgr, hsz⟩ := hrel
    clear o0 p0 h0 t0 hs0
    obtain ⟨bv, dv, rfl, _⟩ := pwn.ints
    by_cases hlt : ys.length < xs.length
    · go_wp2_with fail
      refine (pick_has 7 _ _ a _ _ hrd (by omega) (by omega)).mono ?_
      rintro e w3 ⟨y, rfl, _, h3, g3⟩
      have o3 := own.kept g3 (.inr (own.neBlock hRl.2))
      have p3 := pwn.kept g3 (.inr (pwn.neBlock hR2))
      have t3 := hgr.trans g3
      have s3 : w2.heap.size ≤ w3.heap.size := Nat.le_trans hsz g3.size
      clear own pwn hrd hgr g3 hsz
      go_wp2_with (at_builtin; refine wpList_push p3 (by omega) s3 (h := ?_))
      intro v4 w4 p4 g4 m4
      have t4 : w1.grownBy w4 (some w.heap.size) := grown_fresh t3 g4 (fun k e => by have := (p3.lt k e).1; omega)
      have o4 := o3.kept g4 (own_apart hk p3)
      have h4 := h3.kept g4 (fun k e => by have := (p3.lt k e).1; omega)
      have s4 : w2.heap.size ≤ w4.heap.size := Nat.le_trans s3 g4.size
      clear o3 p3 h3 g4 m4
      go_wp2
      cases gk with
      | zero => omega
      | succ g =>
        go_roundg g
        case measure => omega
        case rel => exact ⟨_, by rw [List.length_append, List.length_singleton]; omega, o4, p4, h4.more (by omega), t4, s4⟩
    · have hy6 : ys.length ≤ 6 := by omega
      clear hlen
      go_wp2_with fail
      refine (pick_has 24 _ _ a _ _ hrd (by omega) (by omega)).mono ?_
      rintro e w3 ⟨y, rfl, _, h3, g3⟩
      have o3 := own.kept g3 (.inr (own.neBlock hRl.2))
      have p3 := pwn.kept g3 (.inr (pwn.neBlock hR2))
      have t3 := hgr.trans g3
      have s3 : w2.heap.size ≤ w3.heap.size := Nat.le_trans hsz g3.size
      clear own pwn hrd hgr g3 hsz
      by_cases hy : y = 0
      · subst hy
        go_wp2_with (at_builtin; refine wpList_push p3 (by omega) s3 (h := ?_))
        intro v4 w4 p4 g4 m4
        have t4 : w1.grownBy w4 (some w.heap.size) := grown_fresh t3 g4 (fun k e => by have := (p3.lt k e).1; omega)
        have o4 := o3.kept g4 (own_apart hk p3)
        have h4 := h3.kept g4 (fun k e => by have := (p3.lt k e).1; omega)
        clear o3 p3 h3 g4 m4
        go_wp2_with fail
        refine (anAmount_any _ _ _ _ _ h4 (by omega)).mono ?_
        rintro e w5 ⟨z, rfl, hz, h5, g5⟩
        have o5 := o4.kept g5 (.inr (o4.neBlock hRl.2))
        have p5 := p4.kept g5 (.inr (p4.neBlock hR2))
        have b5 := below_reader b1 (t4.trans g5)
        have O := Lib.hid (o5.base b1.size)
        have PP := Lib.hid (p5.base (show w.heap.size ≤ w2.heap.size by omega))
        clear o4 p4 o5 p5 h4 h5 g5
        go_wp2
        go_ret3
        exact ⟨_, _, _, _, _, rfl, O.out, PP.out, hb, by rw [List.length_append, List.length_singleton]; omega, hz, b5⟩
      · go_wp2_with fail
        refine (anAmount_any _ _ _ _ _ h3 (by omega)).mono ?_
        rintro e w5 ⟨z, rfl, hz, h5, g5⟩
        have o5 := o3.kept g5 (.inr (o3.neBlock hRl.2))
        have p5 := p3.kept g5 (.inr (p3.neBlock hR2))
        have b5 := below_reader b1 (t3.trans g5)
        have O := Lib.hid (o5.base b1.size)
        have PP := Lib.hid (p5.base (show w.heap.size ≤ w2.heap.size by omega))
        clear o3 p3 o5 p5 h3 h5 g5
        go_wp2
        go_ret3
        exact ⟨_, _, _, _, _, rfl, O.out, PP.out, hb, by omega, hz, b5⟩

end Go.Proofs.Ytbkndncdhombeaa
