/- Drawn weights and totals. -/
import Derived.Test.YtamfjmgecmbanaaReader
import Derived.Deep.LoopGhost
namespace Go.Proofs.Ytamfjmgecmbanaa
open Go.RowKit

theorem own_lit (w : World) (B : Nat) (xs : List Int) (cs : Array Value) (hcs : cs.toList = xs.map (Value.int .i64)) (hB : B ≤ w.heap.size) (hl : xs.length ≤ 1048576) : Own (w.alloc (.cells cs 3)) B (sl w.heap.size xs.length xs.length) xs := by
  have h := World.ownsRow_lit (e := 3) (size := 1) w cs xs.length hB (by unfold maxLen; omega) (by rw [← Array.length_toList, hcs]; simp)
  rw [hcs] at h
  exact h

/-- A reader of which at most q numbers have been picked. -/
def HasReader (w : World) (B R : Nat) (a : Option Addr) (q : Nat) : Prop := ∃ n cap p, IsReader w B R a n cap p ∧ p ≤ q

theorem HasReader.more {w : World} {B R : Nat} {a : Option Addr} {q q' : Nat} (h : HasReader w B R a q) (hq : q ≤ q') : HasReader w B R a q' := by
  obtain ⟨n, cap, p, hr, hp⟩ := h
  exact ⟨n, cap, p, hr, by omega⟩
theorem HasReader.kept {w w' : World} {B R : Nat} {a : Option Addr} {q : Nat} {row : Option Nat} (h : HasReader w B R a q) (hg : w.grownBy w' row) (hr : ∀ k, row = some k → B ≤ k ∧ k ≠ R) : HasReader w' B R a q := by
  obtain ⟨n, cap, p, hrd, hp⟩ := h
  exact ⟨n, cap, p, hrd.kept hg hr, hp⟩
theorem HasReader.later {w w' : World} {B R : Nat} {a : Option Addr} {q : Nat} (h : HasReader w B R a q) (hb : Below w.heap.size w w') : HasReader w' B R a q :=
  h.kept (grown_below hb none) (fun k hk => by cases hk)
theorem HasReader.lt {w : World} {B R : Nat} {a : Option Addr} {q : Nat} (h : HasReader w B R a q) : B ≤ R ∧ R < w.heap.size := by
  obtain ⟨n, cap, p, hrd, hp⟩ := h
  exact ⟨hrd.base, (Array.getElem?_eq_some_iff.1 hrd.block).1⟩

theorem pick_has (n : Int) (B R : Nat) (a : Option Addr) (q : Nat) (w : World) (h : HasReader w B R a q) (hq : q ≤ 1000000) (hn : -1000000 ≤ n ∧ n ≤ 1000000) :
    Calls Try.prog 66 #[.pointer (some ⟨R, 0, none⟩), .int .i64 n] w fun e w' => ∃ y, e = .returned (.int .i64 y) ∧ Picked n y ∧ HasReader w' B R a (q + 1) ∧ w.grownBy w' (some R) := by
  obtain ⟨len, cap, p, hr, hp⟩ := h
  refine (pick_any n B R a len cap p w hr (by omega) hn).mono ?_
  rintro e w' ⟨y, he, hy, hr', hg⟩
  exact ⟨y, he, hy, ⟨len, cap, p + 1, hr', by omega⟩, hg⟩

theorem one_has (v : Value) (xs : List Int) (B R : Nat) (a : Option Addr) (q : Nat) (w : World) (h : HasReader w B R a q) (hq : q ≤ 1000000) (hv : IsInts w v xs) (hne : v.ownBlock ≠ some R) (hl0 : 0 < xs.length) (hl : xs.length ≤ 1000000) :
    Calls Try.prog 64 #[.pointer (some ⟨R, 0, none⟩), v] w fun e w' => ∃ y, e = .returned (.int .i64 y) ∧ y ∈ xs ∧ HasReader w' B R a (q + 1) ∧ w.grownBy w' (some R) := by
  obtain ⟨len, cap, p, hr, hp⟩ := h
  refine (one_any v xs B R a len cap p w hr (by omega) hv hne hl0 hl).mono ?_
  rintro e w' ⟨y, he, hy, hr', hg⟩
  exact ⟨y, he, hy, ⟨len, cap, p + 1, hr', by omega⟩, hg⟩

/-- One of a list that is built at the call. -/
theorem one_lit (xs : List Int) (cs : Array Value) (n : Nat) (hcs : cs.toList = xs.map (Value.int .i64)) (hn : n = xs.length) (g B R : Nat) (a : Option Addr) (q : Nat) (w : World) (h : HasReader w B R a q) (hq : q ≤ 1000000) (hl0 : 0 < xs.length) (hl : xs.length ≤ 1000000) (hgw : g = w.heap.size) :
    Calls Try.prog 64 #[.pointer (some ⟨R, 0, none⟩), .slice (some ⟨g, 0, none⟩) n n] (w.alloc (.cells cs 3)) fun e w' => ∃ y, e = .returned (.int .i64 y) ∧ y ∈ xs ∧ HasReader w' B R a (q + 1) ∧ w.grownBy w' (some R) := by
  subst hn hgw
  have hb : Below w.heap.size w (w.alloc (.cells cs 3)) := (Below.refl _ _).alloc (Nat.le_refl _) _
  refine (one_has _ xs B R a q _ (h.later hb) hq (own_lit w w.heap.size xs cs hcs (Nat.le_refl _) (by omega)).ints ?_ hl0 hl).mono ?_
  · have := h.lt.2
    simp [Value.ownBlock]
    omega
  · rintro e w' ⟨y, he, hy, hr', hg⟩
    exact ⟨y, he, hy, hr', (World.grownBy_alloc w _ _).trans hg⟩

set_option maxHeartbeats 800000 in
theorem newReader_any (a : Option Addr) (n cap : Nat) (w : World) (h : IsBytes w a n) (hc : n ≤ cap) :
    Calls Try.prog 52 #[.slice a n cap] w fun e w' => e = .returned (.pointer (some ⟨w.heap.size, 0, none⟩)) ∧ HasReader w' w.heap.size w.heap.size a 0 ∧ Below w.heap.size w w' := by
  have hlow : ∀ b, a.map Addr.block = some b → 0 < n → b < w.heap.size := by
    intro b hb h0
    obtain ⟨b', off, x, rfl, hcell, _⟩ := h 0 h0
    simp at hb
    subst hb
    exact World.block_lt_of_cell? w _ hcell
  by_cases hbig : (2000 : Int) < (n : Int)
  · have hcc : (2000 : Int) ≤ (cap : Int) := by omega
    go_enter Try.func52, Try.ntmps52
    go_wp2
    go_ret
    have hb : Below w.heap.size w (w.alloc (.cells #[.slice a 2000 cap, .int .i64 0] 70)) := (Below.refl _ _).alloc (Nat.le_refl _) _
    exact ⟨rfl, ⟨2000, cap, 0, ⟨heap_alloc_new w _, fun j hj => (h.below hb hlow) j (by omega), fun b hb h0 => hlow b hb (by omega), Nat.le_refl _, Nat.le_refl _⟩, Nat.le_refl _⟩, hb⟩
  · go_enter Try.func52, Try.ntmps52
    go_wp2
    go_ret
    have hb : Below w.heap.size w (w.alloc (.cells #[.slice a n cap, .int .i64 0] 70)) := (Below.refl _ _).alloc (Nat.le_refl _) _
    exact ⟨rfl, ⟨n, cap, 0, ⟨heap_alloc_new w _, h.below hb hlow, hlow, Nat.le_refl _, by omega⟩, Nat.le_refl _⟩, hb⟩

set_option maxHeartbeats 800000 in
theorem aTotal_any (B R : Nat) (a : Option Addr) (q : Nat) (w : World) (h : HasReader w B R a q) (hq : q ≤ 900000) :
    Calls Try.prog 57 #[.pointer (some ⟨R, 0, none⟩)] w fun e w' => ∃ y, e = .returned (.int .i64 y) ∧ (-1 ≤ y ∧ y ≤ 100001) ∧ HasReader w' B R a (q + 3) ∧ w.grownBy w' (some R) := by
  go_enter Try.func57, Try.ntmps57
  go_wp2_with fail
  refine (pick_has 256 B R a q _ h (by omega) (by omega)).mono ?_
  rintro e w1 ⟨y1, rfl, ⟨p0, p1, _⟩, h1, g1⟩
  have p2 := p1 (by omega)
  go_wp2_with fail
  refine (pick_has 256 B R a (q + 1) _ h1 (by omega) (by omega)).mono ?_
  rintro e w2 ⟨y2, rfl, ⟨r0, r1, _⟩, h2, g2⟩
  have r2 := r1 (by omega)
  clear p1 r1
  go_wp2_with fail
  refine (one_lit [y1, 10 * y2, 100, 10, 1, 0, 100000, 100001, -1] _ 9 rfl rfl _ B R a (q + 1 + 1) _ h2 (by omega) (by simp) (by simp) rfl).mono ?_
  rintro e w3 ⟨y, rfl, hy, h3, g3⟩
  have hb : -1 ≤ y ∧ y ≤ 100001 := by
    simp only [List.mem_cons, List.not_mem_nil, or_false] at hy
    omega
  clear hy
  go_wp2
  go_ret
  exact ⟨_, rfl, hb, h3.more (by omega), (g1.trans g2).trans g3⟩

/-- Drawn weights: at most 9 numbers from -1 to 51. -/
def Weights (xs : List Int) : Prop := xs.length ≤ 9 ∧ ∀ x ∈ xs, -1 ≤ x ∧ x ≤ 51

theorem Weights.fits {xs : List Int} (h : Weights xs) : Fits xs := fun x hx => by have := h.2 x hx; omega

theorem weights_push {xs : List Int} {m : Nat} {y : Int} (h : ∀ x ∈ xs, -1 ≤ x ∧ x ≤ 51) (hy : -1 ≤ y ∧ y ≤ 51) (hl : xs.length ≤ m) : (xs ++ [y]).length ≤ m + 1 ∧ ∀ x ∈ xs ++ [y], -1 ≤ x ∧ x ≤ 51 := by
  refine ⟨by simp; omega, fun x hx => ?_⟩
  rcases List.mem_append.1 hx with hx | hx
  · exact h x hx
  · simp at hx; subst hx; exact hy

theorem Own.neBlock {w : World} {B R : Nat} {v : Value} {xs : List Int} (h : Own w B v xs) (hR : R < B) : v.ownBlock ≠ some R := fun e => by
  have := (h.lt R e).1
  omega

theorem grown_fresh {w w1 w2 : World} {R : Nat} {row : Option Nat} (t : w.grownBy w1 (some R)) (g : w1.grownBy w2 row) (hr : ∀ k, row = some k → w.heap.size ≤ k) : w.grownBy w2 (some R) :=
  ⟨g.os.trans t.os, g.tape.trans t.tape, g.output.trans t.output, Nat.le_trans t.size g.size, fun k hk hne => (g.block k (Nat.lt_of_lt_of_le hk t.size) (fun e => by have := hr k e.symm; omega)).trans (t.block k hk hne)⟩

set_option maxHeartbeats 3200000 in
theorem someWeights_any (B R : Nat) (a : Option Addr) (q : Nat) (w : World) (h : HasReader w B R a q) (hq : q ≤ 800000) :
    Calls Try.prog 51 #[.pointer (some ⟨R, 0, none⟩)] w fun e w' => ∃ v xs, e = .returned v ∧ Own w' w.heap.size v xs ∧ Weights xs ∧ HasReader w' B R a (q + 100) ∧ w.grownBy w' (some R) := by
  have hRl := h.lt
  have hb0 : Below w.heap.size w (w.alloc (.cells #[] 3)) := (Below.refl _ _).alloc (Nat.le_refl _) _
  have ho0 := own_empty w w.heap.size (Nat.le_refl _)
  go_enter Try.func51, Try.ntmps51
  go_wp2_with fail
  refine (one_lit [3, 4, 2, 5, 1, 8] _ 6 rfl rfl _ B R a q _ (h.later hb0) (by omega) (by simp) (by simp) (by simp)).mono ?_
  rintro e w1 ⟨n, rfl, hn, h1, g1⟩
  have hn8 : 1 ≤ n ∧ n ≤ 8 := by
    simp only [List.mem_cons, List.not_mem_nil, or_false] at hn
    omega
  have ho1 := ho0.kept g1 (.inr (by simp [Value.ownBlock]; omega))
  have hg1 : w.grownBy w1 (some R) := (World.grownBy_alloc w _ _).trans g1
  clear hn ho0 hb0 g1
  go_wp2
  go_loopg [3] 8 (fun g v wr => ∃ xs : List Int, xs.length + g = 8 ∧ Own wr w.heap.size v xs ∧ (xs.length ≤ 8 ∧ ∀ x ∈ xs, -1 ≤ x ∧ x ≤ 51) ∧ HasReader wr B R a (q + 1 + 4 * xs.length) ∧ w.grownBy wr (some R))
  case atStart => exact ⟨[], rfl, ho1, ⟨by simp, by simp⟩, h1.more (by omega), hg1⟩
  case round =>
    obtain ⟨xs, hxg, hown, hxs, hrd, hgr⟩ := hrel
    have HXG := Lib.hid hxg
    have HXS := Lib.hid hxs
    have hx8 := hxs.1
    obtain ⟨av, cv, rfl, _⟩ := hown.ints
    have hRs : w.heap.size ≤ wr.heap.size := hgr.size
    have hne := hown.neBlock hRl.2
    clear hxg hxs ho1 hg1 h1
    by_cases hlt : (xs.length : Int) < n
    · go_wp2_with fail
      refine (pick_has 51 B R a _ _ hrd (by omega) (by omega)).mono ?_
      rintro e w2 ⟨y1, rfl, ⟨p0, p1, _⟩, h2, g2⟩
      have p2 := p1 (by omega)
      have o2 := hown.kept g2 (.inr hne)
      have t2 := hgr.trans g2
      clear p1 hown hrd hgr g2
      go_wp2_with fail
      refine (pick_has 6 B R a _ _ h2 (by omega) (by omega)).mono ?_
      rintro e w3 ⟨y2, rfl, ⟨r0, r1, _⟩, h3, g3⟩
      have r2 := r1 (by omega)
      have o3 := o2.kept g3 (.inr hne)
      have t3 := t2.trans g3
      clear r1 o2 t2 h2 g3
      go_wp2_with fail
      refine (pick_has 12 B R a _ _ h3 (by omega) (by omega)).mono ?_
      rintro e w4 ⟨y3, rfl, ⟨s0, s1, _⟩, h4, g4⟩
      have s2 := s1 (by omega)
      have o4 := o3.kept g4 (.inr hne)
      have t4 := t3.trans g4
      clear s1 o3 t3 h3 g4
      go_wp2_with fail
      refine (one_lit [y1, y2, 1, 0, y3] _ 5 rfl rfl _ B R a _ _ h4 (by omega) (by simp) (by simp) rfl).mono ?_
      rintro e w5 ⟨y, rfl, hy, h5, g5⟩
      have hyb : -1 ≤ y ∧ y ≤ 51 := by
        simp only [List.mem_cons, List.not_mem_nil, or_false] at hy
        omega
      have o5 := o4.kept g5 (.inr hne)
      have t5 := t4.trans g5
      have hs5 : w.heap.size ≤ w5.heap.size := t5.size
      clear o4 t4 h4 g5 hy p0 p2 r0 r2 s0 s2
      go_wp2_with (at_builtin; refine wpList_push o5 (by omega) hs5 (h := ?_))
      intro v6 w6 o6 g6 m6
      have t6 : w.grownBy w6 (some R) := grown_fresh t5 g6 (fun k hk => (o5.lt k hk).1)
      have h6 := h5.kept g6 (fun k hk => by have := (o5.lt k hk).1; omega)
      have hx6 := weights_push HXS.out.2 hyb (Nat.le_refl xs.length)
      have HX6 := Lib.hid hx6
      clear o5 t5 h5 g6 m6 hx6
      go_wp2
      cases gk with
      | zero =>
        have := HXG.out
        omega
      | succ g =>
        go_roundg g
        case measure => omega
        case rel => exact ⟨_, by have := HXG.out; simp; omega, o6, ⟨by have := HX6.out.1; have := HXG.out; omega, HX6.out.2⟩, h6.more (by simp; omega), t6⟩
    · go_wp2_with fail
      refine (pick_has 30 B R a _ _ hrd (by omega) (by omega)).mono ?_
      rintro e w2 ⟨y1, rfl, ⟨p0, p1, _⟩, h2, g2⟩
      have p2 := p1 (by omega)
      have o2 := hown.kept g2 (.inr hne)
      have t2 := hgr.trans g2
      have hs2 : w.heap.size ≤ w2.heap.size := t2.size
      have h2m := h2.more (show q + 1 + 4 * xs.length + 1 ≤ q + 100 by omega)
      clear p1 hown hrd hgr g2 h2
      by_cases e0 : y1 = 0
      · subst e0
        have hbe : Below w2.heap.size w2 (w2.alloc (.cells #[] 3)) := (Below.refl _ _).alloc (Nat.le_refl _) _
        have oe := own_empty w2 w.heap.size hs2
        go_wp2
        go_ret
        exact ⟨_, _, rfl, oe, ⟨by simp, by simp⟩, h2m.later hbe, t2.trans (World.grownBy_alloc w2 _ _)⟩
      · by_cases e1 : y1 = 1
        · subst e1
          go_wp2_with (at_builtin; refine wpList_push o2 (by omega) hs2 (h := ?_))
          intro v6 w6 o6 g6 m6
          have t6 : w.grownBy w6 (some R) := grown_fresh t2 g6 (fun k hk => (o2.lt k hk).1)
          have h6 := h2m.kept g6 (fun k hk => by have := (o2.lt k hk).1; omega)
          have HX6 := Lib.hid (weights_push HXS.out.2 (show -1 ≤ (51 : Int) ∧ (51 : Int) ≤ 51 by omega) HXS.out.1)
          clear o2 t2 h2m g6 m6
          go_wp2
          go_ret
          exact ⟨_, _, rfl, o6, HX6.out, h6, t6⟩
        · by_cases e2 : y1 = 2
          · subst e2
            go_wp2_with (at_builtin; refine wpList_push o2 (by omega) hs2 (h := ?_))
            intro v6 w6 o6 g6 m6
            have t6 : w.grownBy w6 (some R) := grown_fresh t2 g6 (fun k hk => (o2.lt k hk).1)
            have h6 := h2m.kept g6 (fun k hk => by have := (o2.lt k hk).1; omega)
            have HX6 := Lib.hid (weights_push HXS.out.2 (show -1 ≤ (-1 : Int) ∧ (-1 : Int) ≤ 51 by omega) HXS.out.1)
            clear o2 t2 h2m g6 m6
            go_wp2
            go_ret
            exact ⟨_, _, rfl, o6, HX6.out, h6, t6⟩
          · by_cases e3 : y1 = 3
            · subst e3
              have hbe : Below w2.heap.size w2 (w2.alloc (.cells #[.int .i64 0, .int .i64 0] 3)) := (Below.refl _ _).alloc (Nat.le_refl _) _
              have oe := own_lit w2 w.heap.size [0, 0] #[.int .i64 0, .int .i64 0] rfl hs2 (by simp)
              go_wp2
              go_ret
              exact ⟨_, _, rfl, oe, ⟨by simp, by simp⟩, h2m.later hbe, t2.trans (World.grownBy_alloc w2 _ _)⟩
            · have f0 : (y1 == 0) = false := by simpa using e0
              have f1 : (y1 == 1) = false := by simpa using e1
              have f2 : (y1 == 2) = false := by simpa using e2
              have f3 : (y1 == 3) = false := by simpa using e3
              clear e0 e1 e2 e3
              go_wp2
              go_ret
              exact ⟨_, _, rfl, o2, ⟨by have := HXS.out.1; omega, HXS.out.2⟩, h2m, t2⟩

end Go.Proofs.Ytamfjmgecmbanaa
