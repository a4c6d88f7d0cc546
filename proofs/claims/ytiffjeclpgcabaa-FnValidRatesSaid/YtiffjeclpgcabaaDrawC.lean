/- What the laws of CarryOf, PriceAfter, UseVouchers and Exchange draw. -/
import Derived.Test.YtiffjeclpgcabaaRatV
import Derived.Test.YtiffjeclpgcabaaPush
import Derived.Test.YtiffjeclpgcabaaReadH
namespace Go.Proofs.Ytiffjeclpgcabaa
open Go.RowKit

theorem aTotal6_any (B R : Nat) (a : Option Addr) (q : Nat) (w : World) (h : HasReader w B R a q) (hq : q ≤ 900000) :
    Calls Try.prog 70 #[.pointer (some ⟨R, 0, none⟩)] w fun e w' => ∃ y, e = .returned (.int .i64 y) ∧ (-1 ≤ y ∧ y ≤ 100001) ∧ HasReader w' B R a (q + 3) ∧ w.grownBy w' (some R) := by
  go_enter Try.func70, Try.ntmps70
  go_wp2_with fail
  refine (pick_has 256 B R a q _ h (by omega) (by omega)).mono ?_
  rintro e w1 ⟨y1, rfl, ⟨p0, p1, _⟩, h1, g1⟩
  have p2 := p1 (by omega)
  go_wp2_with fail
  refine (pick_has 256 B R a (q + 1) _ h1 (by omega) (by omega)).mono ?_
  rintro e w2 ⟨y2, rfl, ⟨r0, r1, _⟩, h2, g2⟩
  have r2 := r1 (by omega)
  clear p1 r1
  go_wp2_with fail
  refine (one_lit [y1, 10 * y2, 100, 10, 1, 0, 100000, 100001, -1] _ 9 rfl rfl _ B R a (q + 1 + 1) _ h2 (by omega) (by simp) (by simp) rfl).mono ?_
  rintro e w3 ⟨y, rfl, hy, h3, g3⟩
  have hb : -1 ≤ y ∧ y ≤ 100001 := by
    simp only [List.mem_cons, List.not_mem_nil, or_false] at hy
    omega
  clear hy
  go_wp2
  go_ret
  exact ⟨_, rfl, hb, h3.more (by omega), (g1.trans g2).trans g3⟩

set_option maxHeartbeats 3200000 in
theorem DrawCarryOf_any (a : Option Addr) (n cap : Nat) (w : World) (h : IsBytes w a n) (hc : n ≤ cap) :
    Calls Try.prog 43 #[.slice a n cap] w fun e w' => ∃ v xs x y, e = .returned (.tuple #[.int .i64 x, .int .i64 y, v]) ∧ Own w' w.heap.size v xs ∧ xs.length ≤ 13 ∧ (-1 ≤ x ∧ x ≤ 100000) ∧ (-1 ≤ y ∧ y ≤ 100000) ∧ Below w.heap.size w w' := by
  go_enter Try.func43, Try.ntmps43
  go_wp2_with fail
  refine (newReader_any a n cap _ h hc).mono ?_
  rintro e w1 ⟨rfl, h1, b1⟩
  have hRl := h1.lt
  have hb0 : Below w1.heap.size w1 (w1.alloc (.cells #[] 3)) := (Below.refl _ _).alloc (Nat.le_refl _) _
  have ho0 := own_empty w1 w1.heap.size (Nat.le_refl _)
  have h1b := h1.later hb0
  clear h1
  go_wp2_with fail
  refine (one_lit [4, 6, 3, 12, 1, 0, 13] _ 7 rfl rfl _ _ _ _ _ _ h1b (by omega) (by simp) (by simp) (by first | rfl | simp)).mono ?_
  rintro e w2 ⟨m, rfl, hm, h2, g2⟩
  have hm7 : 0 ≤ m ∧ m ≤ 13 := by
    simp only [List.mem_cons, List.not_mem_nil, or_false] at hm
    omega
  have ho2 := ho0.kept g2 (.inr (by simp [Value.ownBlock]; omega))
  have hg2 : w1.grownBy w2 (some w.heap.size) := (World.grownBy_alloc w1 _ _).trans g2
  clear hm ho0 hb0 g2 h1b
  go_wp2
  go_loopg [6] 13 (fun g v wr => ∃ xs : List Int, xs.length + g = 13 ∧ Own wr w1.heap.size v xs ∧ HasReader wr w.heap.size w.heap.size a (1 + 4 * xs.length) ∧ w1.grownBy wr (some w.heap.size))
  case atStart => exact ⟨[], rfl, ho2, h2.more (by simp), hg2⟩
  case round =>
    obtain ⟨xs, hxg, hown, hrd, hgr⟩ := hrel
    have HXG := Lib.hid hxg
    have hx7 : xs.length ≤ 13 := by omega
    obtain ⟨av, cv, rfl, _⟩ := hown.ints
    have hRs : w1.heap.size ≤ wr.heap.size := hgr.size
    have hne := hown.neBlock hRl.2
    clear hxg ho2 hg2 h2
    by_cases hlt : (xs.length : Int) < m
    · go_wp2_with fail
      refine (pick_has 200 _ _ a _ _ hrd (by omega) (by omega)).mono ?_
      rintro e w4 ⟨y1, rfl, ⟨r0, r1, _⟩, h4, g4⟩
      have r2 := r1 (by omega)
      have o4 := hown.kept g4 (.inr hne)
      have t4 := hgr.trans g4
      clear r1 hown hrd hgr g4
      go_wp2_with fail
      refine (one_lit [y1, 100, 0, 50] _ 4 rfl rfl _ _ _ a _ _ h4 (by omega) (by simp) (by simp) (by first | rfl | simp)).mono ?_
      rintro e w5 ⟨y, rfl, _, h5, g5⟩
      have o5 := o4.kept g5 (.inr hne)
      have t5 := t4.trans g5
      have hs5 : w1.heap.size ≤ w5.heap.size := t5.size
      clear o4 t4 h4 g5 r0 r2
      go_wp2_with (at_builtin; refine wpList_push o5 (by omega) hs5 (h := ?_))
      intro v6 w6 o6 g6 m6
      have t6 : w1.grownBy w6 (some w.heap.size) := grown_fresh t5 g6 (fun k hk => (o5.lt k hk).1)
      have h6 := h5.kept g6 (fun k hk => by have := (o5.lt k hk).1; omega)
      clear o5 t5 h5 g6 m6
      go_wp2
      cases gk with
      | zero =>
        have := HXG.out
        omega
      | succ g =>
        go_roundg g
        case measure => omega
        case rel => exact ⟨_, by have := HXG.out; simp; omega, o6, h6.more (by simp; omega), t6⟩
    · by_cases hz : 0 < xs.length
      · have hzi : (0 : Int) < (xs.length : Int) := by omega
        have hd : decide ((0 : Int) < (xs.length : Int)) = true := decide_eq_true hzi
        rcases id hown.2 with ⟨_, h0⟩ | ⟨g6, cap6, cur6, hsh, _⟩
        · omega
        simp only [Value.slice.injEq, true_and] at hsh
        obtain ⟨rfl, rfl⟩ := hsh
        go_wp2_with fail
        refine (pick_has 24 _ _ a _ _ hrd (by omega) (by omega)).mono ?_
        rintro e w3 ⟨y1, rfl, ⟨p0, p1, _⟩, h3, g3⟩
        have o3 := hown.kept g3 (.inr hne)
        have t3 := hgr.trans g3
        clear p1 hown hrd hgr g3
        by_cases e0 : y1 = 0
        · subst e0
          have o5 := o3
          have t5 := t3
          have h5 := h3
          clear o3 t3 h3
          have c0 := o5.cell rfl 0 hz
          have f0 := o5.frozen rfl 0
          have s0 := o5.set rfl 0 (-1)
          have t6 : w1.grownBy _ (some w.heap.size) := grown_fresh t5 s0.2 (fun k hk => by cases hk; exact (o5.lt g6 rfl).1)
          have h6 := h5.kept s0.2 (fun k hk => by cases hk; have := (o5.lt g6 rfl).1; omega)
          have o6 := s0.1
          clear s0 o5 t5 h5
          generalize xs.getD 0 0 = z at *
          go_wp2_with fail
          refine (one_lit [100, 50, 0, 100000, -1] _ 5 rfl rfl _ _ _ a _ _ h6 (by omega) (by simp) (by simp) (by first | rfl | simp)).mono ?_
          rintro e wA ⟨pp, rfl, hpp, hA, gA⟩
          have hp9 : -1 ≤ pp ∧ pp ≤ 100000 := by
            simp only [List.mem_cons, List.not_mem_nil, or_false] at hpp
            omega
          have oA := o6.kept gA (.inr (o6.neBlock hRl.2))
          have tA := t6.trans gA
          clear h6 o6 t6 gA hpp
          go_wp2_with fail
          refine (one_lit [50, 100, 0, 1000, -1] _ 5 rfl rfl _ _ _ a _ _ hA (by omega) (by simp) (by simp) (by first | rfl | simp)).mono ?_
          rintro e wB ⟨bb, rfl, hbb, hB, gB⟩
          have hb9 : -1 ≤ bb ∧ bb ≤ 100000 := by
            simp only [List.mem_cons, List.not_mem_nil, or_false] at hbb
            omega
          have oB := oA.kept gB (.inr (oA.neBlock hRl.2))
          have tB := tA.trans gB
          have b9 := below_reader b1 tB
          have O := Lib.hid (oB.base b1.size)
          clear hA oA tA gB hB oB tB hbb
          go_wp2
          go_ret3
          exact ⟨_, _, _, _, rfl, O.out, by rw [List.length_set]; exact hx7, hp9, hb9, b9⟩
        · have f0 : (y1 == 0) = false := by simpa using e0
          go_wp2_with fail
          refine (one_lit [100, 50, 0, 100000, -1] _ 5 rfl rfl _ _ _ a _ _ h3 (by omega) (by simp) (by simp) (by first | rfl | simp)).mono ?_
          rintro e wA ⟨pp, rfl, hpp, hA, gA⟩
          have hp9 : -1 ≤ pp ∧ pp ≤ 100000 := by
            simp only [List.mem_cons, List.not_mem_nil, or_false] at hpp
            omega
          have oA := o3.kept gA (.inr (o3.neBlock hRl.2))
          have tA := t3.trans gA
          clear h3 o3 t3 gA hpp
          go_wp2_with fail
          refine (one_lit [50, 100, 0, 1000, -1] _ 5 rfl rfl _ _ _ a _ _ hA (by omega) (by simp) (by simp) (by first | rfl | simp)).mono ?_
          rintro e wB ⟨bb, rfl, hbb, hB, gB⟩
          have hb9 : -1 ≤ bb ∧ bb ≤ 100000 := by
            simp only [List.mem_cons, List.not_mem_nil, or_false] at hbb
            omega
          have oB := oA.kept gB (.inr (oA.neBlock hRl.2))
          have tB := tA.trans gB
          have b9 := below_reader b1 tB
          have O := Lib.hid (oB.base b1.size)
          clear hA oA tA gB hB oB tB hbb
          go_wp2
          go_ret3
          exact ⟨_, _, _, _, rfl, O.out, hx7, hp9, hb9, b9⟩
      · have hd : decide ((0 : Int) < (xs.length : Int)) = false := decide_eq_false (by omega)
        go_wp2_with fail
        refine (one_lit [100, 50, 0, 100000, -1] _ 5 rfl rfl _ _ _ a _ _ hrd (by omega) (by simp) (by simp) (by first | rfl | simp)).mono ?_
        rintro e wA ⟨pp, rfl, hpp, hA, gA⟩
        have hp9 : -1 ≤ pp ∧ pp ≤ 100000 := by
          simp only [List.mem_cons, List.not_mem_nil, or_false] at hpp
          omega
        have oA := hown.kept gA (.inr (hown.neBlock hRl.2))
        have tA := hgr.trans gA
        clear hrd hown hgr gA hpp
        go_wp2_with fail
        refine (one_lit [50, 100, 0, 1000, -1] _ 5 rfl rfl _ _ _ a _ _ hA (by omega) (by simp) (by simp) (by first | rfl | simp)).mono ?_
        rintro e wB ⟨bb, rfl, hbb, hB, gB⟩
        have hb9 : -1 ≤ bb ∧ bb ≤ 100000 := by
          simp only [List.mem_cons, List.not_mem_nil, or_false] at hbb
          omega
        have oB := oA.kept gB (.inr (oA.neBlock hRl.2))
        have tB := tA.trans gB
        have b9 := below_reader b1 tB
        have O := Lib.hid (oB.base b1.size)
        clear hA oA tA gB hB oB tB hbb
        go_wp2
        go_ret3
        exact ⟨_, _, _, _, rfl, O.out, hx7, hp9, hb9, b9⟩

set_option maxHeartbeats 3200000 in
theorem DrawPriceAfter_any (a : Option Addr) (n cap : Nat) (w : World) (h : IsBytes w a n) (hc : n ≤ cap) :
    Calls Try.prog 35 #[.slice a n cap] w fun e w' => ∃ v xs x, e = .returned (.tuple #[.int .i64 x, v]) ∧ Own w' w.heap.size v xs ∧ xs.length ≤ 5 ∧ (-1 ≤ x ∧ x ≤ 100001) ∧ Below w.heap.size w w' := by
  go_enter Try.func35, Try.ntmps35
  go_wp2_with fail
  refine (newReader_any a n cap _ h hc).mono ?_
  rintro e w1 ⟨rfl, h1, b1⟩
  have hRl := h1.lt
  have hb0 : Below w1.heap.size w1 (w1.alloc (.cells #[] 3)) := (Below.refl _ _).alloc (Nat.le_refl _) _
  have ho0 := own_empty w1 w1.heap.size (Nat.le_refl _)
  have h1b := h1.later hb0
  clear h1
  go_wp2_with fail
  refine (one_lit [2, 1, 3, 4, 0, 5] _ 6 rfl rfl _ _ _ _ _ _ h1b (by omega) (by simp) (by simp) (by first | rfl | simp)).mono ?_
  rintro e w2 ⟨m, rfl, hm, h2, g2⟩
  have hm7 : 0 ≤ m ∧ m ≤ 5 := by
    simp only [List.mem_cons, List.not_mem_nil, or_false] at hm
    omega
  have ho2 := ho0.kept g2 (.inr (by simp [Value.ownBlock]; omega))
  have hg2 : w1.grownBy w2 (some w.heap.size) := (World.grownBy_alloc w1 _ _).trans g2
  clear hm ho0 hb0 g2 h1b
  go_wp2
  go_loopg [5] 5 (fun g v wr => ∃ xs : List Int, xs.length + g = 5 ∧ Own wr w1.heap.size v xs ∧ HasReader wr w.heap.size w.heap.size a (1 + 4 * xs.length) ∧ w1.grownBy wr (some w.heap.size))
  case atStart => exact ⟨[], rfl, ho2, h2.more (by simp), hg2⟩
  case round =>
    obtain ⟨xs, hxg, hown, hrd, hgr⟩ := hrel
    have HXG := Lib.hid hxg
    have hx7 : xs.length ≤ 5 := by omega
    obtain ⟨av, cv, rfl, _⟩ := hown.ints
    have hRs : w1.heap.size ≤ wr.heap.size := hgr.size
    have hne := hown.neBlock hRl.2
    clear hxg ho2 hg2 h2
    by_cases hlt : (xs.length : Int) < m
    · go_wp2_with fail
      refine (pick_has 101 _ _ a _ _ hrd (by omega) (by omega)).mono ?_
      rintro e w4 ⟨y1, rfl, ⟨r0, r1, _⟩, h4, g4⟩
      have r2 := r1 (by omega)
      have o4 := hown.kept g4 (.inr hne)
      have t4 := hgr.trans g4
      clear r1 hown hrd hgr g4
      go_wp2_with fail
      refine (one_lit [y1, 10, 20, 5, 0, 100] _ 6 rfl rfl _ _ _ a _ _ h4 (by omega) (by simp) (by simp) (by first | rfl | simp)).mono ?_
      rintro e w5 ⟨y, rfl, _, h5, g5⟩
      have o5 := o4.kept g5 (.inr hne)
      have t5 := t4.trans g5
      have hs5 : w1.heap.size ≤ w5.heap.size := t5.size
      clear o4 t4 h4 g5 r0 r2
      go_wp2_with (at_builtin; refine wpList_push o5 (by omega) hs5 (h := ?_))
      intro v6 w6 o6 g6 m6
      have t6 : w1.grownBy w6 (some w.heap.size) := grown_fresh t5 g6 (fun k hk => (o5.lt k hk).1)
      have h6 := h5.kept g6 (fun k hk => by have := (o5.lt k hk).1; omega)
      clear o5 t5 h5 g6 m6
      go_wp2
      cases gk with
      | zero =>
        have := HXG.out
        omega
      | succ g =>
        go_roundg g
        case measure => omega
        case rel => exact ⟨_, by have := HXG.out; simp; omega, o6, h6.more (by simp; omega), t6⟩
    · by_cases hz : 0 < xs.length
      · have hzi : (0 : Int) < (xs.length : Int) := by omega
        have hd : decide ((0 : Int) < (xs.length : Int)) = true := decide_eq_true hzi
        rcases id hown.2 with ⟨_, h0⟩ | ⟨g6, cap6, cur6, hsh, _⟩
        · omega
        simp only [Value.slice.injEq, true_and] at hsh
        obtain ⟨rfl, rfl⟩ := hsh
        go_wp2_with fail
        refine (pick_has 24 _ _ a _ _ hrd (by omega) (by omega)).mono ?_
        rintro e w3 ⟨y1, rfl, ⟨p0, p1, _⟩, h3, g3⟩
        have o3 := hown.kept g3 (.inr hne)
        have t3 := hgr.trans g3
        clear p1 hown hrd hgr g3
        by_cases e0 : y1 = 0
        · subst e0
          go_wp2_with fail
          refine (one_lit [101, -1] _ 2 rfl rfl _ _ _ a _ _ h3 (by omega) (by simp) (by simp) (by first | rfl | simp)).mono ?_
          rintro e w5 ⟨y, rfl, _, h5, g5⟩
          have o5 := o3.kept g5 (.inr hne)
          have t5 := t3.trans g5
          clear o3 t3 h3 g5
          have c0 := o5.cell rfl 0 hz
          have f0 := o5.frozen rfl 0
          have s0 := o5.set rfl 0 y
          have t6 : w1.grownBy _ (some w.heap.size) := grown_fresh t5 s0.2 (fun k hk => by cases hk; exact (o5.lt g6 rfl).1)
          have h6 := h5.kept s0.2 (fun k hk => by cases hk; have := (o5.lt g6 rfl).1; omega)
          have o6 := s0.1
          clear s0 o5 t5 h5
          generalize xs.getD 0 0 = z at *
          go_wp2_with fail
          refine (aTotal6_any _ _ a _ _ h6 (by omega)).mono ?_
          rintro e wA ⟨pp, rfl, hpp, hA, gA⟩
          have oA := o6.kept gA (.inr (o6.neBlock hRl.2))
          have tA := t6.trans gA
          have b9 := below_reader b1 tA
          have O := Lib.hid (oA.base b1.size)
          clear h6 o6 t6 gA hA oA tA
          go_wp2
          go_ret2
          exact ⟨_, _, _, rfl, O.out, by rw [List.length_set]; exact hx7, hpp, b9⟩
        · have f0 : (y1 == 0) = false := by simpa using e0
          go_wp2_with fail
          refine (aTotal6_any _ _ a _ _ h3 (by omega)).mono ?_
          rintro e wA ⟨pp, rfl, hpp, hA, gA⟩
          have oA := o3.kept gA (.inr (o3.neBlock hRl.2))
          have tA := t3.trans gA
          have b9 := below_reader b1 tA
          have O := Lib.hid (oA.base b1.size)
          clear h3 o3 t3 gA hA oA tA
          go_wp2
          go_ret2
          exact ⟨_, _, _, rfl, O.out, hx7, hpp, b9⟩
      · have hd : decide ((0 : Int) < (xs.length : Int)) = false := decide_eq_false (by omega)
        go_wp2_with fail
        refine (aTotal6_any _ _ a _ _ hrd (by omega)).mono ?_
        rintro e wA ⟨pp, rfl, hpp, hA, gA⟩
        have oA := hown.kept gA (.inr (hown.neBlock hRl.2))
        have tA := hgr.trans gA
        have b9 := below_reader b1 tA
        have O := Lib.hid (oA.base b1.size)
        clear hrd hown hgr gA hA oA tA
        go_wp2
        go_ret2
        exact ⟨_, _, _, rfl, O.out, hx7, hpp, b9⟩

set_option maxHeartbeats 3200000 in
theorem DrawUseVouchers_any (a : Option Addr) (n cap : Nat) (w : World) (h : IsBytes w a n) (hc : n ≤ cap) :
    Calls Try.prog 39 #[.slice a n cap] w fun e w' => ∃ v xs x, e = .returned (.tuple #[v, .int .i64 x]) ∧ Own w' w.heap.size v xs ∧ xs.length ≤ 9 ∧ (-1 ≤ x ∧ x ≤ 100001) ∧ Below w.heap.size w w' := by
  go_enter Try.func39, Try.ntmps39
  go_wp2_with fail
  refine (newReader_any a n cap _ h hc).mono ?_
  rintro e w1 ⟨rfl, h1, b1⟩
  have hRl := h1.lt
  have hb0 : Below w1.heap.size w1 (w1.alloc (.cells #[] 3)) := (Below.refl _ _).alloc (Nat.le_refl _) _
  have ho0 := own_empty w1 w1.heap.size (Nat.le_refl _)
  have h1b := h1.later hb0
  clear h1
  go_wp2_with fail
  refine (one_lit [4, 5, 3, 8, 2, 1, 0, 9] _ 8 rfl rfl _ _ _ _ _ _ h1b (by omega) (by simp) (by simp) (by first | rfl | simp)).mono ?_
  rintro e w2 ⟨m, rfl, hm, h2, g2⟩
  have hm7 : 0 ≤ m ∧ m ≤ 9 := by
    simp only [List.mem_cons, List.not_mem_nil, or_false] at hm
    omega
  have ho2 := ho0.kept g2 (.inr (by simp [Value.ownBlock]; omega))
  have hg2 : w1.grownBy w2 (some w.heap.size) := (World.grownBy_alloc w1 _ _).trans g2
  clear hm ho0 hb0 g2 h1b
  go_wp2
  go_loopg [5] 9 (fun g v wr => ∃ xs : List Int, xs.length + g = 9 ∧ Own wr w1.heap.size v xs ∧ HasReader wr w.heap.size w.heap.size a (1 + 4 * xs.length) ∧ w1.grownBy wr (some w.heap.size))
  case atStart => exact ⟨[], rfl, ho2, h2.more (by simp), hg2⟩
  case round =>
    obtain ⟨xs, hxg, hown, hrd, hgr⟩ := hrel
    have HXG := Lib.hid hxg
    have hx7 : xs.length ≤ 9 := by omega
    obtain ⟨av, cv, rfl, _⟩ := hown.ints
    have hRs : w1.heap.size ≤ wr.heap.size := hgr.size
    have hne := hown.neBlock hRl.2
    clear hxg ho2 hg2 h2
    by_cases hlt : (xs.length : Int) < m
    · go_wp2_with fail
      refine (pick_has 200 _ _ a _ _ hrd (by omega) (by omega)).mono ?_
      rintro e w4 ⟨y1, rfl, ⟨r0, r1, _⟩, h4, g4⟩
      have r2 := r1 (by omega)
      have o4 := hown.kept g4 (.inr hne)
      have t4 := hgr.trans g4
      clear r1 hown hrd hgr g4
      go_wp2_with fail
      refine (one_lit [1 + y1, 10, 5, 20, 50] _ 5 rfl rfl _ _ _ a _ _ h4 (by omega) (by simp) (by simp) (by first | rfl | simp)).mono ?_
      rintro e w5 ⟨y, rfl, _, h5, g5⟩
      have o5 := o4.kept g5 (.inr hne)
      have t5 := t4.trans g5
      have hs5 : w1.heap.size ≤ w5.heap.size := t5.size
      clear o4 t4 h4 g5 r0 r2
      go_wp2_with (at_builtin; refine wpList_push o5 (by omega) hs5 (h := ?_))
      intro v6 w6 o6 g6 m6
      have t6 : w1.grownBy w6 (some w.heap.size) := grown_fresh t5 g6 (fun k hk => (o5.lt k hk).1)
      have h6 := h5.kept g6 (fun k hk => by have := (o5.lt k hk).1; omega)
      clear o5 t5 h5 g6 m6
      go_wp2
      cases gk with
      | zero =>
        have := HXG.out
        omega
      | succ g =>
        go_roundg g
        case measure => omega
        case rel => exact ⟨_, by have := HXG.out; simp; omega, o6, h6.more (by simp; omega), t6⟩
    · by_cases hz : 0 < xs.length
      · have hzi : (0 : Int) < (xs.length : Int) := by omega
        have hd : decide ((0 : Int) < (xs.length : Int)) = true := decide_eq_true hzi
        rcases id hown.2 with ⟨_, h0⟩ | ⟨g6, cap6, cur6, hsh, _⟩
        · omega
        simp only [Value.slice.injEq, true_and] at hsh
        obtain ⟨rfl, rfl⟩ := hsh
        go_wp2_with fail
        refine (pick_has 24 _ _ a _ _ hrd (by omega) (by omega)).mono ?_
        rintro e w3 ⟨y1, rfl, ⟨p0, p1, _⟩, h3, g3⟩
        have o3 := hown.kept g3 (.inr hne)
        have t3 := hgr.trans g3
        clear p1 hown hrd hgr g3
        by_cases e0 : y1 = 0
        · subst e0
          go_wp2_with fail
          refine (one_lit [0, 201] _ 2 rfl rfl _ _ _ a _ _ h3 (by omega) (by simp) (by simp) (by first | rfl | simp)).mono ?_
          rintro e w5 ⟨y, rfl, _, h5, g5⟩
          have o5 := o3.kept g5 (.inr hne)
          have t5 := t3.trans g5
          clear o3 t3 h3 g5
          have c0 := o5.cell rfl 0 hz
          have f0 := o5.frozen rfl 0
          have s0 := o5.set rfl 0 y
          have t6 : w1.grownBy _ (some w.heap.size) := grown_fresh t5 s0.2 (fun k hk => by cases hk; exact (o5.lt g6 rfl).1)
          have h6 := h5.kept s0.2 (fun k hk => by cases hk; have := (o5.lt g6 rfl).1; omega)
          have o6 := s0.1
          clear s0 o5 t5 h5
          generalize xs.getD 0 0 = z at *
          go_wp2_with fail
          refine (aTotal6_any _ _ a _ _ h6 (by omega)).mono ?_
          rintro e wA ⟨pp, rfl, hpp, hA, gA⟩
          have oA := o6.kept gA (.inr (o6.neBlock hRl.2))
          have tA := t6.trans gA
          have b9 := below_reader b1 tA
          have O := Lib.hid (oA.base b1.size)
          clear h6 o6 t6 gA hA oA tA
          go_wp2
          go_ret2
          exact ⟨_, _, _, rfl, O.out, by rw [List.length_set]; exact hx7, hpp, b9⟩
        · have f0 : (y1 == 0) = false := by simpa using e0
          go_wp2_with fail
          refine (aTotal6_any _ _ a _ _ h3 (by omega)).mono ?_
          rintro e wA ⟨pp, rfl, hpp, hA, gA⟩
          have oA := o3.kept gA (.inr (o3.neBlock hRl.2))
          have tA := t3.trans gA
          have b9 := below_reader b1 tA
          have O := Lib.hid (oA.base b1.size)
          clear h3 o3 t3 gA hA oA tA
          go_wp2
          go_ret2
          exact ⟨_, _, _, rfl, O.out, hx7, hpp, b9⟩
      · have hd : decide ((0 : Int) < (xs.length : Int)) = false := decide_eq_false (by omega)
        go_wp2_with fail
        refine (aTotal6_any _ _ a _ _ hrd (by omega)).mono ?_
        rintro e wA ⟨pp, rfl, hpp, hA, gA⟩
        have oA := hown.kept gA (.inr (hown.neBlock hRl.2))
        have tA := hgr.trans gA
        have b9 := below_reader b1 tA
        have O := Lib.hid (oA.base b1.size)
        clear hrd hown hgr gA hA oA tA
        go_wp2
        go_ret2
        exact ⟨_, _, _, rfl, O.out, hx7, hpp, b9⟩

end Go.Proofs.Ytiffjeclpgcabaa
