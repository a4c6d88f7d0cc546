/- What the laws of chapter 5 draw. -/
import Derived.Test.YtbkndncdhombeaaReadH
namespace Go.Proofs.Ytbkndncdhombeaa

section
open Go.RowKit

set_option maxHeartbeats 1600000 in
theorem anAmount_any (B R : Nat) (a : Option Addr) (q : Nat) (w : World) (h : HasReader w B R a q) (hq : q ≤ 800000) :
    Calls Try.prog 46 #[.pointer (some ⟨R, 0, none⟩)] w fun e w' => ∃ z, e = .returned (.int .i64 z) ∧ (-1 ≤ z ∧ z ≤ 121) ∧ HasReader w' B R a (q + 4) ∧ w.grownBy w' (some R) := by
  go_enter Try.func46, Try.ntmps46
  go_wp2_with fail
  refine (pick_has 121 B R a _ _ h (by omega) (by omega)).mono ?_
  rintro e w1 ⟨y1, rfl, ⟨p0, p1, _⟩, h1, g1⟩
  have p2 := p1 (by omega)
  clear p1 h
  go_wp2_with fail
  refine (pick_has 60 B R a _ _ h1 (by omega) (by omega)).mono ?_
  rintro e w2 ⟨y2, rfl, ⟨r0, r1, _⟩, h2, g2⟩
  have r2 := r1 (by omega)
  clear r1 h1
  go_wp2_with fail
  refine (pick_has 30 B R a _ _ h2 (by omega) (by omega)).mono ?_
  rintro e w3 ⟨y3, rfl, ⟨s0, s1, _⟩, h3, g3⟩
  have s2 := s1 (by omega)
  have g13 := (g1.trans g2).trans g3
  clear s1 h2 g1 g2 g3
  go_wp2_with fail
  refine (one_lit [y1, y2, y3, 0, 120, 121, -1] _ 7 rfl rfl _ B R a _ _ h3 (by omega) (by simp) (by simp) rfl).mono ?_
  rintro e w4 ⟨y, rfl, hy, h4, g4⟩
  have hyb : -1 ≤ y ∧ y ≤ 121 := by
    simp only [List.mem_cons, List.not_mem_nil, or_false] at hy
    omega
  have t4 := g13.trans g4
  clear h3 g13 g4 hy
  go_wp2
  go_ret
  exact ⟨y, rfl, hyb, h4, t4⟩

set_option maxHeartbeats 3200000 in
theorem someCoins_any (B R : Nat) (a : Option Addr) (q : Nat) (w : World) (h : HasReader w B R a q) (hq : q ≤ 800000) :
    Calls Try.prog 41 #[.pointer (some ⟨R, 0, none⟩)] w fun e w' => ∃ v xs, e = .returned v ∧ Own w' w.heap.size v xs ∧ xs.length ≤ 6 ∧ HasReader w' B R a (q + 20) ∧ w.grownBy w' (some R) := by
  have hRl := h.lt
  have hb0 : Below w.heap.size w (w.alloc (.cells #[] 3)) := (Below.refl _ _).alloc (Nat.le_refl _) _
  have ho0 := own_empty w w.heap.size (Nat.le_refl _)
  have hg0 : w.grownBy (w.alloc (.cells #[] 3)) (some R) := World.grownBy_alloc w _ _
  have h0 := h.later hb0
  have hsz0 := hb0.size
  clear hb0 h
  go_enter Try.func41, Try.ntmps41
  go_wp2_with fail
  refine (pick_has 3 B R a _ _ h0 (by omega) (by omega)).mono ?_
  rintro e w1 ⟨y0, rfl, ⟨p0, p1, _⟩, h1, g1⟩
  have p2 := p1 (by omega)
  have hne0 := ho0.neBlock hRl.2
  have ho1 := ho0.kept g1 (.inr hne0)
  have hg1 := hg0.trans g1
  have hs1 : w.heap.size ≤ w1.heap.size := hg1.size
  clear p1 ho0 hg0 h0 g1 hsz0
  by_cases hy : 0 < y0
  · go_wp2_with (at_builtin; refine wpList_push ho1 (by simp) hs1 (h := ?_))
    intro v2 w2 o2 g2 m2
    have t2 : w.grownBy w2 (some R) := grown_fresh hg1 g2 (fun k hk => (ho1.lt k hk).1)
    have h2 := h1.kept g2 (fun k hk => by have := (ho1.lt k hk).1; omega)
    obtain ⟨av, cv, rfl, _⟩ := o2.ints
    have hne := o2.neBlock hRl.2
    clear ho1 hg1 g2 m2 h1 hne0
    go_wp2_with fail
    refine (one_lit [2, 3, 1, 4, 0] _ 5 rfl rfl _ B R a _ _ h2 (by omega) (by simp) (by simp) rfl).mono ?_
    rintro e w3 ⟨n, rfl, hn, h3, g3⟩
    have hn8 : 0 ≤ n ∧ n ≤ 4 := by
      simp only [List.mem_cons, List.not_mem_nil, or_false] at hn
      omega
    have o3 := o2.kept g3 (.inr hne)
    have t3 := t2.trans g3
    clear hn o2 t2 h2 g3 hne
    go_wp2
    go_loopg [3, 4, 5] 4 (fun g v l k wr => ∃ (ys : List Int) (L N : Int), ys.length + g ≤ 5 ∧ N ≤ g ∧ l = .int .i64 L ∧ k = .int .i64 N ∧ (0 ≤ L ∧ L ≤ 30) ∧ Own wr w.heap.size v ys ∧ HasReader wr B R a (q + 2 + (4 - g)) ∧ g ≤ 4 ∧ w.grownBy wr (some R))
    case atStart => exact ⟨[] ++ [1], 1, n, by simp, by omega, rfl, rfl, by omega, o3, h3.more (by omega), by omega, t3⟩
    case round =>
      obtain ⟨ys, L, N, hlen, hN, rfl, rfl, hL, own, hrd, hg4, hgr⟩ := hrel
      clear o3 h3 t3
      obtain ⟨av, cv, rfl, _⟩ := own.ints
      have hRs : w.heap.size ≤ wr.heap.size := hgr.size
      have hne := own.neBlock hRl.2
      by_cases hc : 0 < N ∧ L < 28
      · have hc1 := hc.1
        have hc2 := hc.2
        have HLEN := Lib.hid hlen
        have HNG := Lib.hid hN
        clear hc
        go_wp2_with fail
        refine (pick_has 9 B R a _ _ hrd (by omega) (by omega)).mono ?_
        rintro e w5 ⟨y5, rfl, ⟨s0, s1, _⟩, h5, g5⟩
        have s2 := s1 (by omega)
        have o5 := own.kept g5 (.inr hne)
        have t5 := hgr.trans g5
        have hs5 : w.heap.size ≤ w5.heap.size := t5.size
        clear s1 own hrd hgr g5
        by_cases hm : L + 1 + y5 ≤ 30
        all_goals
          go_wp2_with (at_builtin; refine wpList_push o5 (by have := HLEN.out; omega) hs5 (h := ?_))
          intro v6 w6 o6 g6 m6
          have t6 : w.grownBy w6 (some R) := grown_fresh t5 g6 (fun k hk => (o5.lt k hk).1)
          have h6 := h5.kept g6 (fun k hk => by have := (o5.lt k hk).1; omega)
          clear o5 t5 h5 g6 m6
          go_wp2
          cases gk with
          | zero =>
            have := HNG.out
            omega
          | succ g =>
            go_roundg g
            case measure => omega
            case rel => exact ⟨_, _, N - 1, by have := HLEN.out; rw [List.length_append, List.length_singleton]; omega, by have := HNG.out; omega, by go_num, by go_num, by omega, o6, h6.more (by omega), by omega, t6⟩
      · have hrd9 := hrd.more (show q + 2 + (4 - gk) ≤ q + 6 by omega)
        have hl5 : ys.length ≤ 5 := by omega
        clear hlen hN hrd hg4
        have hfin : ¬ 0 < N ∨ (0 < N ∧ ¬ L < 28) := by omega
        clear hc
        rcases hfin with hc | ⟨hc, hc2⟩
        all_goals
          go_wp2_with fail
          refine (pick_has 24 B R a _ _ hrd9 (by omega) (by omega)).mono ?_
          rintro e w5 ⟨y1, rfl, ⟨s0, s1, _⟩, h5, g5⟩
          have s2 := s1 (by omega)
          have o5 := own.kept g5 (.inr hne)
          have t5 := hgr.trans g5
          have hs5 : w.heap.size ≤ w5.heap.size := t5.size
          clear s1 own hgr g5 hrd9 hc
          by_cases e0 : y1 = 0
          · subst e0
            have hbe : Below w5.heap.size w5 (w5.alloc (.cells #[.int .i64 1, .int .i64 5, .int .i64 10, .int .i64 25] 3)) := (Below.refl _ _).alloc (Nat.le_refl _) _
            have oe := own_lit w5 w.heap.size [1, 5, 10, 25] #[.int .i64 1, .int .i64 5, .int .i64 10, .int .i64 25] rfl hs5 (by simp)
            go_wp2
            go_ret
            exact ⟨_, _, rfl, oe, by simp, (h5.later hbe).more (by omega), t5.trans (World.grownBy_alloc w5 _ _)⟩
          · by_cases e1 : y1 = 1
            · subst e1
              clear e0
              go_wp2_with fail
              refine (one_lit [31, 1, 0] _ 3 rfl rfl _ B R a _ _ h5 (by omega) (by simp) (by simp) rfl).mono ?_
              rintro e w6 ⟨z, rfl, hz, h6, g6⟩
              have o6 := o5.kept g6 (.inr hne)
              have t6 := t5.trans g6
              have hs6 : w.heap.size ≤ w6.heap.size := t6.size
              clear hz o5 t5 h5 g6
              go_wp2_with (at_builtin; refine wpList_push o6 (by omega) hs6 (h := ?_))
              intro v7 w7 o7 g7 m7
              have t7 : w.grownBy w7 (some R) := grown_fresh t6 g7 (fun k hk => (o6.lt k hk).1)
              have h7 := h6.kept g7 (fun k hk => by have := (o6.lt k hk).1; omega)
              go_wp2
              go_ret
              exact ⟨_, _, rfl, o7, by rw [List.length_append, List.length_singleton]; omega, h7.more (by omega), t7⟩
            · by_cases e2 : y1 = 2
              · subst e2
                clear e0 e1
                have hbe : Below w5.heap.size w5 (w5.alloc (.cells #[] 3)) := (Below.refl _ _).alloc (Nat.le_refl _) _
                have oe := own_empty w5 w.heap.size hs5
                go_wp2
                go_ret
                exact ⟨_, _, rfl, oe, by simp, (h5.later hbe).more (by omega), t5.trans (World.grownBy_alloc w5 _ _)⟩
              · have f0 : (y1 == 0) = false := by simpa using e0
                have f1 : (y1 == 1) = false := by simpa using e1
                have f2 : (y1 == 2) = false := by simpa using e2
                clear e0 e1 e2
                go_wp2
                go_ret
                exact ⟨_, _, rfl, o5, by omega, h5.more (by omega), t5⟩
  · have o2 := ho1
    have t2 := hg1
    have h2 := h1
    have hne := hne0
    clear ho1 hg1 h1 hne0
    go_wp2_with fail
    refine (one_lit [2, 3, 1, 4, 0] _ 5 rfl rfl _ B R a _ _ h2 (by omega) (by simp) (by simp) rfl).mono ?_
    rintro e w3 ⟨n, rfl, hn, h3, g3⟩
    have hn8 : 0 ≤ n ∧ n ≤ 4 := by
      simp only [List.mem_cons, List.not_mem_nil, or_false] at hn
      omega
    have o3 := o2.kept g3 (.inr hne)
    have t3 := t2.trans g3
    clear hn o2 t2 h2 g3 hne
    go_wp2
    go_loopg [3, 4, 5] 4 (fun g v l k wr => ∃ (ys : List Int) (L N : Int), ys.length + g ≤ 5 ∧ N ≤ g ∧ l = .int .i64 L ∧ k = .int .i64 N ∧ (0 ≤ L ∧ L ≤ 30) ∧ Own wr w.heap.size v ys ∧ HasReader wr B R a (q + 2 + (4 - g)) ∧ g ≤ 4 ∧ w.grownBy wr (some R))
    case atStart => exact ⟨[], 0, n, by simp, by omega, rfl, rfl, by omega, o3, h3.more (by omega), by omega, t3⟩
    case round =>
      obtain ⟨ys, L, N, hlen, hN, rfl, rfl, hL, own, hrd, hg4, hgr⟩ := hrel
      clear o3 h3 t3
      obtain ⟨av, cv, rfl, _⟩ := own.ints
      have hRs : w.heap.size ≤ wr.heap.size := hgr.size
      have hne := own.neBlock hRl.2
      by_cases hc : 0 < N ∧ L < 28
      · have hc1 := hc.1
        have hc2 := hc.2
        have HLEN := Lib.hid hlen
        have HNG := Lib.hid hN
        clear hc
        go_wp2_with fail
        refine (pick_has 9 B R a _ _ hrd (by omega) (by omega)).mono ?_
        rintro e w5 ⟨y5, rfl, ⟨s0, s1, _⟩, h5, g5⟩
        have s2 := s1 (by omega)
        have o5 := own.kept g5 (.inr hne)
        have t5 := hgr.trans g5
        have hs5 : w.heap.size ≤ w5.heap.size := t5.size
        clear s1 own hrd hgr g5
        by_cases hm : L + 1 + y5 ≤ 30
        all_goals
          go_wp2_with (at_builtin; refine wpList_push o5 (by have := HLEN.out; omega) hs5 (h := ?_))
          intro v6 w6 o6 g6 m6
          have t6 : w.grownBy w6 (some R) := grown_fresh t5 g6 (fun k hk => (o5.lt k hk).1)
          have h6 := h5.kept g6 (fun k hk => by have := (o5.lt k hk).1; omega)
          clear o5 t5 h5 g6 m6
          go_wp2
          cases gk with
          | zero =>
            have := HNG.out
            omega
          | succ g =>
            go_roundg g
            case measure => omega
            case rel => exact ⟨_, _, N - 1, by have := HLEN.out; rw [List.length_append, List.length_singleton]; omega, by have := HNG.out; omega, by go_num, by go_num, by omega, o6, h6.more (by omega), by omega, t6⟩
      · have hrd9 := hrd.more (show q + 2 + (4 - gk) ≤ q + 6 by omega)
        have hl5 : ys.length ≤ 5 := by omega
        clear hlen hN hrd hg4
        have hfin : ¬ 0 < N ∨ (0 < N ∧ ¬ L < 28) := by omega
        clear hc
        rcases hfin with hc | ⟨hc, hc2⟩
        all_goals
          go_wp2_with fail
          refine (pick_has 24 B R a _ _ hrd9 (by omega) (by omega)).mono ?_
          rintro e w5 ⟨y1, rfl, ⟨s0, s1, _⟩, h5, g5⟩
          have s2 := s1 (by omega)
          have o5 := own.kept g5 (.inr hne)
          have t5 := hgr.trans g5
          have hs5 : w.heap.size ≤ w5.heap.size := t5.size
          clear s1 own hgr g5 hrd9 hc
          by_cases e0 : y1 = 0
          · subst e0
            have hbe : Below w5.heap.size w5 (w5.alloc (.cells #[.int .i64 1, .int .i64 5, .int .i64 10, .int .i64 25] 3)) := (Below.refl _ _).alloc (Nat.le_refl _) _
            have oe := own_lit w5 w.heap.size [1, 5, 10, 25] #[.int .i64 1, .int .i64 5, .int .i64 10, .int .i64 25] rfl hs5 (by simp)
            go_wp2
            go_ret
            exact ⟨_, _, rfl, oe, by simp, (h5.later hbe).more (by omega), t5.trans (World.grownBy_alloc w5 _ _)⟩
          · by_cases e1 : y1 = 1
            · subst e1
              clear e0
              go_wp2_with fail
              refine (one_lit [31, 1, 0] _ 3 rfl rfl _ B R a _ _ h5 (by omega) (by simp) (by simp) rfl).mono ?_
              rintro e w6 ⟨z, rfl, hz, h6, g6⟩
              have o6 := o5.kept g6 (.inr hne)
              have t6 := t5.trans g6
              have hs6 : w.heap.size ≤ w6.heap.size := t6.size
              clear hz o5 t5 h5 g6
              go_wp2_with (at_builtin; refine wpList_push o6 (by omega) hs6 (h := ?_))
              intro v7 w7 o7 g7 m7
              have t7 : w.grownBy w7 (some R) := grown_fresh t6 g7 (fun k hk => (o6.lt k hk).1)
              have h7 := h6.kept g7 (fun k hk => by have := (o6.lt k hk).1; omega)
              go_wp2
              go_ret
              exact ⟨_, _, rfl, o7, by rw [List.length_append, List.length_singleton]; omega, h7.more (by omega), t7⟩
            · by_cases e2 : y1 = 2
              · subst e2
                clear e0 e1
                have hbe : Below w5.heap.size w5 (w5.alloc (.cells #[] 3)) := (Below.refl _ _).alloc (Nat.le_refl _) _
                have oe := own_empty w5 w.heap.size hs5
                go_wp2
                go_ret
                exact ⟨_, _, rfl, oe, by simp, (h5.later hbe).more (by omega), t5.trans (World.grownBy_alloc w5 _ _)⟩
              · have f0 : (y1 == 0) = false := by simpa using e0
                have f1 : (y1 == 1) = false := by simpa using e1
                have f2 : (y1 == 2) = false := by simpa using e2
                clear e0 e1 e2
                go_wp2
                go_ret
                exact ⟨_, _, rfl, o5, by omega, h5.more (by omega), t5⟩

end

open Go.RowKit

theorem own_apart {w : World} {B2 : Nat} {v u : Value} {ys : List Int} (hk : ∀ k, v.ownBlock = some k → k < B2) (hu : Own w B2 u ys) : v.ownBlock = none ∨ v.ownBlock ≠ u.ownBlock := by
  cases hv : v.ownBlock with
  | none => exact .inl rfl
  | some k => exact .inr (fun e => by have h1 := (hu.lt k e.symm).1; have h2 := hk k hv; omega)

end Go.Proofs.Ytbkndncdhombeaa
