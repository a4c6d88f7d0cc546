/- Drawn weights and totals. -/
import Derived.Test.YtlibfmbbchhjeaaReadH
namespace Go.Proofs.Ytlibfmbbchhjeaa
open Go.RowKit

set_option maxHeartbeats 800000 in
theorem aTotal_any (B R : Nat) (a : Option Addr) (q : Nat) (w : World) (h : HasReader w B R a q) (hq : q ≤ 900000) :
    Calls Try.prog 57 #[.pointer (some ⟨R, 0, none⟩)] w fun e w' => ∃ y, e = .returned (.int .i64 y) ∧ (-1 ≤ y ∧ y ≤ 100001) ∧ HasReader w' B R a (q + 3) ∧ w.grownBy w' (some R) := by
  go_enter Try.func57, Try.ntmps57
  go_wp2_with fail
  refine (pick_has 256 B R a q _ h (by omega) (by omega)).mono ?_
  rintro e w1 ⟨y1, rfl, ⟨p0, p1, _⟩, h1, g1⟩
  have p2 := p1 (by omega)
  go_wp2_with fail
  refine (pick_has 256 B R a (q + 1) _ h1 (by omega) (by omega)).mono ?_
  rintro e w2 ⟨y2, rfl, ⟨r0, r1, _⟩, h2, g2⟩
  have r2 := r1 (by omega)
  clear p1 r1
  go_wp2_with fail
  refine (one_lit [y1, 10 * y2, 100, 10, 1, 0, 100000, 100001, -1] _ 9 rfl rfl _ B R a (q + 1 + 1) _ h2 (by omega) (by simp) (by simp) rfl).mono ?_
  rintro e w3 ⟨y, rfl, hy, h3, g3⟩
  have hb : -1 ≤ y ∧ y ≤ 100001 := by
    simp only [List.mem_cons, List.not_mem_nil, or_false] at hy
    omega
  clear hy
  go_wp2
  go_ret
  exact ⟨_, rfl, hb, h3.more (by omega), (g1.trans g2).trans g3⟩

/-- Drawn weights: at most 9 numbers from -1 to 51. -/
def Weights (xs : List Int) : Prop := xs.length ≤ 9 ∧ ∀ x ∈ xs, -1 ≤ x ∧ x ≤ 51

theorem Weights.fits {xs : List Int} (h : Weights xs) : Fits xs := fun x hx => by have := h.2 x hx; omega

theorem weights_push {xs : List Int} {m : Nat} {y : Int} (h : ∀ x ∈ xs, -1 ≤ x ∧ x ≤ 51) (hy : -1 ≤ y ∧ y ≤ 51) (hl : xs.length ≤ m) : (xs ++ [y]).length ≤ m + 1 ∧ ∀ x ∈ xs ++ [y], -1 ≤ x ∧ x ≤ 51 := by
  refine ⟨by simp; omega, fun x hx => ?_⟩
  rcases List.mem_append.1 hx with hx | hx
  · exact h x hx
  · simp at hx; subst hx; exact hy

set_option maxHeartbeats 3200000 in
theorem someWeights_any (B R : Nat) (a : Option Addr) (q : Nat) (w : World) (h : HasReader w B R a q) (hq : q ≤ 800000) :
    Calls Try.prog 51 #[.pointer (some ⟨R, 0, none⟩)] w fun e w' => ∃ v xs, e = .returned v ∧ Own w' w.heap.size v xs ∧ Weights xs ∧ HasReader w' B R a (q + 100) ∧ w.grownBy w' (some R) := by
  have hRl := h.lt
  have hb0 : Below w.heap.size w (w.alloc (.cells #[] 3)) := (Below.refl _ _).alloc (Nat.le_refl _) _
  have ho0 := own_empty w w.heap.size (Nat.le_refl _)
  go_enter Try.func51, Try.ntmps51
  go_wp2_with fail
  refine (one_lit [3, 4, 2, 5, 1, 8] _ 6 rfl rfl _ B R a q _ (h.later hb0) (by omega) (by simp) (by simp) (by simp)).mono ?_
  rintro e w1 ⟨n, rfl, hn, h1, g1⟩
  have hn8 : 1 ≤ n ∧ n ≤ 8 := by
    simp only [List.mem_cons, List.not_mem_nil, or_false] at hn
    omega
  have ho1 := ho0.kept g1 (.inr (by simp [Value.ownBlock]; omega))
  have hg1 : w.grownBy w1 (some R) := (World.grownBy_alloc w _ _).trans g1
  clear hn ho0 hb0 g1
  go_wp2
  go_loopg [3] 8 (fun g v wr => ∃ xs : List Int, xs.length + g = 8 ∧ Own wr w.heap.size v xs ∧ (xs.length ≤ 8 ∧ ∀ x ∈ xs, -1 ≤ x ∧ x ≤ 51) ∧ HasReader wr B R a (q + 1 + 4 * xs.length) ∧ w.grownBy wr (some R))
  case atStart => exact ⟨[], rfl, ho1, ⟨by simp, by simp⟩, h1.more (by omega), hg1⟩
  case round =>
    obtain ⟨xs, hxg, hown, hxs, hrd, hgr⟩ := hrel
    have HXG := Lib.hid hxg
    have HXS := Lib.hid hxs
    have hx8 := hxs.1
    obtain ⟨av, cv, rfl, _⟩ := hown.ints
    have hRs : w.heap.size ≤ wr.heap.size := hgr.size
    have hne := hown.neBlock hRl.2
    clear hxg hxs ho1 hg1 h1
    by_cases hlt : (xs.length : Int) < n
    · go_wp2_with fail
      refine (pick_has 51 B R a _ _ hrd (by omega) (by omega)).mono ?_
      rintro e w2 ⟨y1, rfl, ⟨p0, p1, _⟩, h2, g2⟩
      have p2 := p1 (by omega)
      have o2 := hown.kept g2 (.inr hne)
      have t2 := hgr.trans g2
      clear p1 hown hrd hgr g2
      go_wp2_with fail
      refine (pick_has 6 B R a _ _ h2 (by omega) (by omega)).mono ?_
      rintro e w3 ⟨y2, rfl, ⟨r0, r1, _⟩, h3, g3⟩
      have r2 := r1 (by omega)
      have o3 := o2.kept g3 (.inr hne)
      have t3 := t2.trans g3
      clear r1 o2 t2 h2 g3
      go_wp2_with fail
      refine (pick_has 12 B R a _ _ h3 (by omega) (by omega)).mono ?_
      rintro e w4 ⟨y3, rfl, ⟨s0, s1, _⟩, h4, g4⟩
      have s2 := s1 (by omega)
      have o4 := o3.kept g4 (.inr hne)
      have t4 := t3.trans g4
      clear s1 o3 t3 h3 g4
      go_wp2_with fail
      refine (one_lit [y1, y2, 1, 0, y3] _ 5 rfl rfl _ B R a _ _ h4 (by omega) (by simp) (by simp) rfl).mono ?_
      rintro e w5 ⟨y, rfl, hy, h5, g5⟩
      have hyb : -1 ≤ y ∧ y ≤ 51 := by
        simp only [List.mem_cons, List.not_mem_nil, or_false] at hy
        omega
      have o5 := o4.kept g5 (.inr hne)
      have t5 := t4.trans g5
      have hs5 : w.heap.size ≤ w5.heap.size := t5.size
      clear o4 t4 h4 g5 hy p0 p2 r0 r2 s0 s2
      go_wp2_with (at_builtin; refine wpList_push o5 (by omega) hs5 (h := ?_))
      intro v6 w6 o6 g6 m6
      have t6 : w.grownBy w6 (some R) := grown_fresh t5 g6 (fun k hk => (o5.lt k hk).1)
      have h6 := h5.kept g6 (fun k hk => by have := (o5.lt k hk).1; omega)
      have hx6 := weights_push HXS.out.2 hyb (Nat.le_refl xs.length)
      have HX6 := Lib.hid hx6
      clear o5 t5 h5 g6 m6 hx6
      go_wp2
      cases gk with
      | zero =>
        have := HXG.out
        omega
      | succ g =>
        go_roundg g
        case measure => omega
        case rel => exact ⟨_, by have := HXG.out; simp; omega, o6, ⟨by have := HX6.out.1; have := HXG.out; omega, HX6.out.2⟩, h6.more (by simp; omega), t6⟩
    · go_wp2_with fail
      refine (pick_has 30 B R a _ _ hrd (by omega) (by omega)).mono ?_
      rintro e w2 ⟨y1, rfl, ⟨p0, p1, _⟩, h2, g2⟩
      have p2 := p1 (by omega)
      have o2 := hown.kept g2 (.inr hne)
      have t2 := hgr.trans g2
      have hs2 : w.heap.size ≤ w2.heap.size := t2.size
      have h2m := h2.more (show q + 1 + 4 * xs.length + 1 ≤ q + 100 by omega)
      clear p1 hown hrd hgr g2 h2
      by_cases e0 : y1 = 0
      · subst e0
        have hbe : Below w2.heap.size w2 (w2.alloc (.cells #[] 3)) := (Below.refl _ _).alloc (Nat.le_refl _) _
        have oe := own_empty w2 w.heap.size hs2
        go_wp2
        go_ret
        exact ⟨_, _, rfl, oe, ⟨by simp, by simp⟩, h2m.later hbe, t2.trans (World.grownBy_alloc w2 _ _)⟩
      · by_cases e1 : y1 = 1
        · subst e1
          go_wp2_with (at_builtin; refine wpList_push o2 (by omega) hs2 (h := ?_))
          intro v6 w6 o6 g6 m6
          have t6 : w.grownBy w6 (some R) := grown_fresh t2 g6 (fun k hk => (o2.lt k hk).1)
          have h6 := h2m.kept g6 (fun k hk => by have := (o2.lt k hk).1; omega)
          have HX6 := Lib.hid (weights_push HXS.out.2 (show -1 ≤ (51 : Int) ∧ (51 : Int) ≤ 51 by omega) HXS.out.1)
          clear o2 t2 h2m g6 m6
          go_wp2
          go_ret
          exact ⟨_, _, rfl, o6, HX6.out, h6, t6⟩
        · by_cases e2 : y1 = 2
          · subst e2
            go_wp2_with (at_builtin; refine wpList_push o2 (by omega) hs2 (h := ?_))
            intro v6 w6 o6 g6 m6
            have t6 : w.grownBy w6 (some R) := grown_fresh t2 g6 (fun k hk => (o2.lt k hk).1)
            have h6 := h2m.kept g6 (fun k hk => by have := (o2.lt k hk).1; omega)
            have HX6 := Lib.hid (weights_push HXS.out.2 (show -1 ≤ (-1 : Int) ∧ (-1 : Int) ≤ 51 by omega) HXS.out.1)
            clear o2 t2 h2m g6 m6
            go_wp2
            go_ret
            exact ⟨_, _, rfl, o6, HX6.out, h6, t6⟩
          · by_cases e3 : y1 = 3
            · subst e3
              have hbe : Below w2.heap.size w2 (w2.alloc (.cells #[.int .i64 0, .int .i64 0] 3)) := (Below.refl _ _).alloc (Nat.le_refl _) _
              have oe := own_lit w2 w.heap.size [0, 0] #[.int .i64 0, .int .i64 0] rfl hs2 (by simp)
              go_wp2
              go_ret
              exact ⟨_, _, rfl, oe, ⟨by simp, by simp⟩, h2m.later hbe, t2.trans (World.grownBy_alloc w2 _ _)⟩
            · have f0 : (y1 == 0) = false := by simpa using e0
              have f1 : (y1 == 1) = false := by simpa using e1
              have f2 : (y1 == 2) = false := by simpa using e2
              have f3 : (y1 == 3) = false := by simpa using e3
              clear e0 e1 e2 e3
              go_wp2
              go_ret
              exact ⟨_, _, rfl, o2, ⟨by have := HXS.out.1; omega, HXS.out.2⟩, h2m, t2⟩

end Go.Proofs.Ytlibfmbbchhjeaa
