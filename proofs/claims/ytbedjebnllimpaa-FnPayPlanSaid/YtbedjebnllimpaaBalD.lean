/- Drawn balances. -/
import Derived.Test.YtbedjebnllimpaaBalV
import Derived.Test.YtbedjebnllimpaaReadH
namespace Go.Proofs.Ytbedjebnllimpaa
open Go.RowKit

/-- Drawn balances: at most 6 numbers from -302 to 302. -/
def Bals (xs : List Int) : Prop := xs.length ≤ 6 ∧ ∀ x ∈ xs, -302 ≤ x ∧ x ≤ 302

theorem mem_push {xs : List Int} {m y : Int} (h : ∀ x ∈ xs, -m ≤ x ∧ x ≤ m) (hy : -m ≤ y ∧ y ≤ m) : ∀ x ∈ xs ++ [y], -m ≤ x ∧ x ≤ m := by
  intro x hx
  rcases List.mem_append.1 hx with hx | hx
  · exact h x hx
  · simp at hx; subst hx; exact hy

set_option maxHeartbeats 3200000 in
theorem someBalances_any (B R : Nat) (a : Option Addr) (q : Nat) (w : World) (h : HasReader w B R a q) (hq : q ≤ 800000) :
    Calls Try.prog 77 #[.pointer (some ⟨R, 0, none⟩)] w fun e w' => ∃ v xs, e = .returned v ∧ Own w' w.heap.size v xs ∧ Bals xs ∧ HasReader w' B R a (q + 100) ∧ w.grownBy w' (some R) := by
  have hRl := h.lt
  have hb0 : Below w.heap.size w (w.alloc (.cells #[] 3)) := (Below.refl _ _).alloc (Nat.le_refl _) _
  have ho0 := own_empty w w.heap.size (Nat.le_refl _)
  go_enter Try.func77, Try.ntmps77
  go_wp2_with fail
  refine (one_lit [3, 4, 2, 5, 1, 0] _ 6 rfl rfl _ B R a q _ (h.later hb0) (by omega) (by simp) (by simp) (by simp)).mono ?_
  rintro e w1 ⟨n, rfl, hn, h1, g1⟩
  have hn8 : 0 ≤ n ∧ n ≤ 5 := by
    simp only [List.mem_cons, List.not_mem_nil, or_false] at hn
    omega
  have ho1 := ho0.kept g1 (.inr (by simp [Value.ownBlock]; omega))
  have hg1 : w.grownBy w1 (some R) := (World.grownBy_alloc w _ _).trans g1
  clear hn ho0 hb0 g1
  go_wp2
  go_loopg [3, 4, 6] 5 (fun g v l _ wr => ∃ (xs : List Int) (L : Int), xs.length + g = 5 ∧ l = .int .i64 L ∧ (-(50 * (xs.length : Int)) ≤ L ∧ L ≤ 50 * (xs.length : Int)) ∧ Own wr w.heap.size v xs ∧ (∀ x ∈ xs, -301 ≤ x ∧ x ≤ 301) ∧ HasReader wr B R a (q + 1 + 4 * xs.length) ∧ w.grownBy wr (some R))
  case atStart => exact ⟨[], 0, rfl, rfl, by simp, ho1, by simp, h1.more (by omega), hg1⟩
  case round =>
    obtain ⟨xs, L, hxg, rfl, hL, hown, hxs, hrd, hgr⟩ := hrel
    have HXG := Lib.hid hxg
    have HXS := Lib.hid hxs
    have hx5 : xs.length ≤ 5 := by omega
    obtain ⟨av, cv, rfl, _⟩ := hown.ints
    have hRs : w.heap.size ≤ wr.heap.size := hgr.size
    have hne := hown.neBlock hRl.2
    clear hxg hxs ho1 hg1 h1
    by_cases hlt : (xs.length : Int) < n
    · go_wp2_with fail
      refine (pick_has 31 B R a _ _ hrd (by omega) (by omega)).mono ?_
      rintro e w2 ⟨y1, rfl, ⟨p0, p1, _⟩, h2, g2⟩
      have p2 := p1 (by omega)
      have o2 := hown.kept g2 (.inr hne)
      have t2 := hgr.trans g2
      clear p1 hown hrd hgr g2
      go_wp2_with fail
      refine (pick_has 7 B R a _ _ h2 (by omega) (by omega)).mono ?_
      rintro e w3 ⟨y2, rfl, ⟨r0, r1, _⟩, h3, g3⟩
      have r2 := r1 (by omega)
      have o3 := o2.kept g3 (.inr hne)
      have t3 := t2.trans g3
      clear r1 o2 t2 h2 g3
      go_wp2_with fail
      refine (pick_has 101 B R a _ _ h3 (by omega) (by omega)).mono ?_
      rintro e w4 ⟨y3, rfl, ⟨s0, s1, _⟩, h4, g4⟩
      have s2 := s1 (by omega)
      have o4 := o3.kept g4 (.inr hne)
      have t4 := t3.trans g4
      clear s1 o3 t3 h3 g4
      go_wp2_with fail
      refine (one_lit [y1 - 15, y2 - 3, -L, y3 - 50] _ 4 rfl rfl _ B R a _ _ h4 (by omega) (by simp) (by simp) rfl).mono ?_
      rintro e w5 ⟨y, rfl, hy, h5, g5⟩
      have hyb : (-301 ≤ y ∧ y ≤ 301) ∧ -(50 * ((xs.length : Int) + 1)) ≤ L + y ∧ L + y ≤ 50 * ((xs.length : Int) + 1) := by
        simp only [List.mem_cons, List.not_mem_nil, or_false] at hy
        omega
      have o5 := o4.kept g5 (.inr hne)
      have t5 := t4.trans g5
      have hs5 : w.heap.size ≤ w5.heap.size := t5.size
      clear o4 t4 h4 g5 hy p0 p2 r0 r2 s0 s2
      go_wp2_with (at_builtin; refine wpList_push o5 (by omega) hs5 (h := ?_))
      intro v6 w6 o6 g6 m6
      have t6 : w.grownBy w6 (some R) := grown_fresh t5 g6 (fun k hk => (o5.lt k hk).1)
      have h6 := h5.kept g6 (fun k hk => by have := (o5.lt k hk).1; omega)
      have HX6 := Lib.hid (mem_push HXS.out hyb.1)
      clear o5 t5 h5 g6 m6
      go_wp2
      cases gk with
      | zero =>
        have := HXG.out
        omega
      | succ g =>
        go_roundg g
        case measure => omega
        case rel => exact ⟨_, _, by have := HXG.out; simp; omega, by go_num, by simp only [List.length_append, List.length_cons, List.length_nil]; omega, o6, HX6.out, h6.more (by simp; omega), t6⟩
    · go_wp2_with (at_builtin; refine wpList_push hown (by omega) hRs (h := ?_))
      intro v6 w6 o6 g6 m6
      have t6 : w.grownBy w6 (some R) := grown_fresh hgr g6 (fun k hk => (hown.lt k hk).1)
      have h6 := (hrd.kept g6 (fun k hk => by have := (hown.lt k hk).1; omega)).more (show q + 1 + 4 * xs.length ≤ q + 90 by omega)
      have hl6 : (xs ++ [-L]).length ≤ 6 := by simp; omega
      have hx6 := mem_push HXS.out (show -301 ≤ -L ∧ -L ≤ 301 by omega)
      have hl7 : 0 < (xs ++ [-L]).length := by simp
      clear hown hrd hgr g6 m6 hne
      generalize xs ++ [-L] = ys at *
      have HX6 := Lib.hid hx6
      rcases id o6.2 with ⟨_, hz⟩ | ⟨g6, cap6, cur6, rfl, _⟩
      · omega
      have hne := o6.neBlock hRl.2
      clear hx6
      go_wp2_with fail
      refine (pick_has 30 B R a _ _ h6 (by omega) (by omega)).mono ?_
      rintro e w2 ⟨y1, rfl, ⟨p0, p1, _⟩, h2, g2⟩
      have p2 := p1 (by omega)
      have o2 := o6.kept g2 (.inr hne)
      have t2 := t6.trans g2
      have hs2 : w.heap.size ≤ w2.heap.size := t2.size
      have h2m := h2.more (show q + 90 + 1 ≤ q + 100 by omega)
      clear p1 o6 h6 t6 g2 h2
      by_cases e0 : y1 = 0
      · subst e0
        have hyl : (0 : Int) < (ys.length : Int) := by omega
        have c0 := o2.cell rfl 0 hl7
        have f0 := o2.frozen rfl 0
        have s0 := o2.set rfl 0 (ys.getD 0 0 + 1)
        have hb := HX6.out (ys.getD 0 0) (by simp [List.getD, hl7])
        have h3 := h2m.kept s0.2 (fun k hk => by cases hk; have := o2.lt g6 rfl; exact ⟨by omega, by omega⟩)
        have t3 : w.grownBy _ (some R) := grown_fresh t2 s0.2 (fun k hk => by cases hk; exact (o2.lt g6 rfl).1)
        have hbal : Bals (ys.set 0 (ys.getD 0 0 + 1)) := ⟨by rw [List.length_set]; exact hl6, fun x hx => by
          rcases List.mem_or_eq_of_mem_set hx with hx | hx
          · have := HX6.out x hx; omega
          · omega⟩
        have S0 := Lib.hid s0.1
        have H3 := Lib.hid h3
        have T3 := Lib.hid t3
        have HB := Lib.hid hbal
        clear s0 h3 t3 hbal o2 h2m t2
        generalize ys.getD 0 0 = z at *
        go_wp2
        go_ret
        exact ⟨_, _, rfl, S0.out, HB.out, H3.out, T3.out⟩
      · by_cases e1 : y1 = 1
        · subst e1
          have hbe : Below w2.heap.size w2 (w2.alloc (.cells #[.int .i64 301, .int .i64 (-301)] 3)) := (Below.refl _ _).alloc (Nat.le_refl _) _
          have oe := own_lit w2 w.heap.size [301, -301] #[.int .i64 301, .int .i64 (-301)] rfl hs2 (by simp)
          go_wp2
          go_ret
          exact ⟨_, _, rfl, oe, ⟨by simp, by simp⟩, h2m.later hbe, t2.trans (World.grownBy_alloc w2 _ _)⟩
        · by_cases e2 : y1 = 2
          · subst e2
            have hbe : Below w2.heap.size w2 (w2.alloc (.cells #[] 3)) := (Below.refl _ _).alloc (Nat.le_refl _) _
            have oe := own_empty w2 w.heap.size hs2
            go_wp2
            go_ret
            exact ⟨_, _, rfl, oe, ⟨by simp, by simp⟩, h2m.later hbe, t2.trans (World.grownBy_alloc w2 _ _)⟩
          · have f0 : (y1 == 0) = false := by simpa using e0
            have f1 : (y1 == 1) = false := by simpa using e1
            have f2 : (y1 == 2) = false := by simpa using e2
            clear e0 e1 e2
            go_wp2
            go_ret
            exact ⟨_, _, rfl, o2, ⟨hl6, fun x hx => by have := HX6.out x hx; omega⟩, h2m, t2⟩

end Go.Proofs.Ytbedjebnllimpaa
