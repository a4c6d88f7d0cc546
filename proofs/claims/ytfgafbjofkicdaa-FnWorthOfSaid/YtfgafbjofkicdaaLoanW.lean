/- Drawn streams of payments. -/
import Derived.Test.YtfgafbjofkicdaaLoanU
import Derived.Test.YtfgafbjofkicdaaLoanD
namespace Go.Proofs.Ytfgafbjofkicdaa
open Go.RowKit

set_option maxHeartbeats 6400000 in
theorem DrawWorthOf_any (a : Option Addr) (n cap : Nat) (w : World) (h : IsBytes w a n) (hc : n ≤ cap) :
    Calls Try.prog 39 #[.slice a n cap] w fun e w' => ∃ v xs p b, e = .returned (.tuple #[v, .int .i64 p, .int .i64 b]) ∧ Own w' w.heap.size v xs ∧ xs.length ≤ 9 ∧ Below w.heap.size w w' := by
  go_enter Try.func39, Try.ntmps39
  go_wp2_with fail
  refine (newReader_any a n cap _ h hc).mono ?_
  rintro e w1 ⟨rfl, h1, b1⟩
  have hRl := h1.lt
  have hb0 : Below w1.heap.size w1 (w1.alloc (.cells #[] 3)) := (Below.refl _ _).alloc (Nat.le_refl _) _
  have ho0 := own_empty w1 w1.heap.size (Nat.le_refl _)
  have h1b := h1.later hb0
  clear h1
  go_wp2_with fail
  refine (one_lit [3, 4, 2, 8, 1, 0, 9] _ 7 rfl rfl _ _ _ _ _ _ h1b (by omega) (by simp) (by simp) (by simp)).mono ?_
  rintro e w2 ⟨m, rfl, hm, h2, g2⟩
  have hm7 : 0 ≤ m ∧ m ≤ 9 := by
    simp only [List.mem_cons, List.not_mem_nil, or_false] at hm
    omega
  have ho2 := ho0.kept g2 (.inr (by simp [Value.ownBlock]; omega))
  have hg2 : w1.grownBy w2 (some w.heap.size) := (World.grownBy_alloc w1 _ _).trans g2
  clear hm ho0 hb0 g2 h1b
  go_wp2
  go_loopg [6] 9 (fun g v wr => ∃ xs : List Int, xs.length + g = 9 ∧ Own wr w1.heap.size v xs ∧ HasReader wr w.heap.size w.heap.size a (1 + 4 * xs.length) ∧ w1.grownBy wr (some w.heap.size))
  case atStart => exact ⟨[], rfl, ho2, h2.more (by simp), hg2⟩
  case round =>
    obtain ⟨xs, hxg, hown, hrd, hgr⟩ := hrel
    have HXG := Lib.hid hxg
    have hx7 : xs.length ≤ 9 := by omega
    obtain ⟨av, cv, rfl, _⟩ := hown.ints
    have hRs : w1.heap.size ≤ wr.heap.size := hgr.size
    have hne := hown.neBlock hRl.2
    clear hxg ho2 hg2 h2
    by_cases hlt : (xs.length : Int) < m
    · go_wp2_with fail
      refine (pick_has 256 _ _ a _ _ hrd (by omega) (by omega)).mono ?_
      rintro e w3 ⟨y1, rfl, _, h3, g3⟩
      have o3 := hown.kept g3 (.inr hne)
      have t3 := hgr.trans g3
      clear hown hrd hgr g3
      go_wp2_with fail
      refine (pick_has 256 _ _ a _ _ h3 (by omega) (by omega)).mono ?_
      rintro e w4 ⟨y2, rfl, ⟨r0, r1, _⟩, h4, g4⟩
      have r2 := r1 (by omega)
      have o4 := o3.kept g4 (.inr hne)
      have t4 := t3.trans g4
      clear r1 o3 t3 h3 g4
      go_wp2_with fail
      refine (one_lit [y1, -y2, 1000, 0] _ 4 rfl rfl _ _ _ a _ _ h4 (by omega) (by simp) (by simp) rfl).mono ?_
      rintro e w5 ⟨y, rfl, _, h5, g5⟩
      have o5 := o4.kept g5 (.inr hne)
      have t5 := t4.trans g5
      have hs5 : w1.heap.size ≤ w5.heap.size := t5.size
      clear o4 t4 h4 g5 r0 r2
      go_wp2_with (at_builtin; refine wpList_push o5 (by omega) hs5 (h := ?_))
      intro v6 w6 o6 g6 m6
      have t6 : w1.grownBy w6 (some w.heap.size) := grown_fresh t5 g6 (fun k hk => (o5.lt k hk).1)
      have h6 := h5.kept g6 (fun k hk => by have := (o5.lt k hk).1; omega)
      clear o5 t5 h5 g6 m6
      go_wp2
      cases gk with
      | zero =>
        have := HXG.out
        omega
      | succ g =>
        go_roundg g
        case measure => omega
        case rel => exact ⟨_, by have := HXG.out; simp; omega, o6, h6.more (by simp; omega), t6⟩
    · by_cases hz : 0 < xs.length
      · have hzi : (0 : Int) < (xs.length : Int) := by omega
        have hd : decide ((0 : Int) < (xs.length : Int)) = true := decide_eq_true hzi
        rcases id hown.2 with ⟨_, h0⟩ | ⟨g6, cap6, cur6, hsh, _⟩
        · omega
        simp only [Value.slice.injEq, true_and] at hsh
        obtain ⟨rfl, rfl⟩ := hsh
        go_wp2_with fail
        refine (pick_has 24 _ _ a _ _ hrd (by omega) (by omega)).mono ?_
        rintro e w3 ⟨y1, rfl, ⟨p0, p1, _⟩, h3, g3⟩
        have o3 := hown.kept g3 (.inr hne)
        have t3 := hgr.trans g3
        clear p1 hown hrd hgr g3
        by_cases e0 : y1 = 0
        · subst e0
          go_wp2_with fail
          refine (one_lit [1001, -1001] _ 2 rfl rfl _ _ _ a _ _ h3 (by omega) (by simp) (by simp) rfl).mono ?_
          rintro e w5 ⟨y, rfl, _, h5, g5⟩
          have o5 := o3.kept g5 (.inr hne)
          have t5 := t3.trans g5
          have c0 := o5.cell rfl 0 hz
          have f0 := o5.frozen rfl 0
          have s0 := o5.set rfl 0 y
          have t6 : w1.grownBy _ (some w.heap.size) := grown_fresh t5 s0.2 (fun k hk => by cases hk; exact (o5.lt g6 rfl).1)
          have h6 := h5.kept s0.2 (fun k hk => by cases hk; have := (o5.lt g6 rfl).1; omega)
          have o6 := s0.1
          clear s0 o5 t5 h5 g5 o3 t3 h3
          generalize xs.getD 0 0 = z at *
          go_wp2_with fail
          refine (one_lit [1, 2, 0, 5, 10, 11] _ 6 rfl rfl _ _ _ a _ _ h6 (by omega) (by simp) (by simp) (by simp)).mono ?_
          rintro e wA ⟨pp, rfl, _, hA, gA⟩
          have oA := o6.kept gA (.inr (o6.neBlock hRl.2))
          have tA := t6.trans gA
          clear h6 o6 t6 gA
          go_wp2_with fail
          refine (one_lit [10, 4, 3, 1, 0] _ 5 rfl rfl _ _ _ a _ _ hA (by omega) (by simp) (by simp) rfl).mono ?_
          rintro e wB ⟨bb, rfl, _, hB, gB⟩
          have oB := oA.kept gB (.inr (oA.neBlock hRl.2))
          have tB := tA.trans gB
          have b9 := below_reader b1 tB
          have O := Lib.hid (oB.base b1.size)
          clear hA oA tA gB hB oB tB
          go_wp2
          go_ret3
          exact ⟨_, _, _, _, rfl, O.out, by rw [List.length_set]; exact hx7, b9⟩
        · have f0 : (y1 == 0) = false := by simpa using e0
          go_wp2_with fail
          refine (one_lit [1, 2, 0, 5, 10, 11] _ 6 rfl rfl _ _ _ a _ _ h3 (by omega) (by simp) (by simp) rfl).mono ?_
          rintro e wA ⟨pp, rfl, _, hA, gA⟩
          have oA := o3.kept gA (.inr (o3.neBlock hRl.2))
          have tA := t3.trans gA
          clear h3 o3 t3 gA
          go_wp2_with fail
          refine (one_lit [10, 4, 3, 1, 0] _ 5 rfl rfl _ _ _ a _ _ hA (by omega) (by simp) (by simp) rfl).mono ?_
          rintro e wB ⟨bb, rfl, _, hB, gB⟩
          have oB := oA.kept gB (.inr (oA.neBlock hRl.2))
          have tB := tA.trans gB
          have b9 := below_reader b1 tB
          have O := Lib.hid (oB.base b1.size)
          clear hA oA tA gB hB oB tB
          go_wp2
          go_ret3
          exact ⟨_, _, _, _, rfl, O.out, hx7, b9⟩
      · have hd : decide ((0 : Int) < (xs.length : Int)) = false := decide_eq_false (by omega)
        go_wp2_with fail
        refine (one_lit [1, 2, 0, 5, 10, 11] _ 6 rfl rfl _ _ _ a _ _ hrd (by omega) (by simp) (by simp) rfl).mono ?_
        rintro e wA ⟨pp, rfl, _, hA, gA⟩
        have oA := hown.kept gA (.inr (hown.neBlock hRl.2))
        have tA := hgr.trans gA
        clear hrd hown hgr gA
        go_wp2_with fail
        refine (one_lit [10, 4, 3, 1, 0] _ 5 rfl rfl _ _ _ a _ _ hA (by omega) (by simp) (by simp) rfl).mono ?_
        rintro e wB ⟨bb, rfl, _, hB, gB⟩
        have oB := oA.kept gB (.inr (oA.neBlock hRl.2))
        have tB := tA.trans gB
        have b9 := below_reader b1 tB
        have O := Lib.hid (oB.base b1.size)
        clear hA oA tA gB hB oB tB
        go_wp2
        go_ret3
        exact ⟨_, _, _, _, rfl, O.out, hx7, b9⟩

end Go.Proofs.Ytfgafbjofkicdaa
