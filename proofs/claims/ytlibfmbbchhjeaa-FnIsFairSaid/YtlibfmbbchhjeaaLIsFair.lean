/- The law FnIsFair: the walk. -/
import Derived.Test.YtlibfmbbchhjeaaDrawFair
import Derived.Test.YtlibfmbbchhjeaaLShareByRest
namespace Go.Proofs.Ytlibfmbbchhjeaa
open Go.RowKit

theorem Small.sumFits {ys : List Int} (h : Small ys) : SumFits ys := by
  intro k
  have := tot_abs (ys.take k) 200000000 (fun x hx => by have := h.2 x (List.mem_of_mem_take hx); omega)
  have hl : (ys.take k).length ≤ 8 := by have := h.1; simp; omega
  omega

theorem fairL_iff (t : Int) (xs ys : List Int) : fairL t xs ys = true ↔ cShare t xs = true ∧ ys.length = xs.length ∧ (∀ k, k < xs.length → okAt t xs ys k = true) ∧ tot ys = t := by
  unfold fairL
  simp only [Bool.and_eq_true, decide_eq_true_eq, List.all_eq_true, List.mem_range]
  constructor
  · rintro ⟨⟨⟨h1, h2⟩, h3⟩, h4⟩; exact ⟨h1, h2, h3, h4⟩
  · rintro ⟨h1, h2, h3, h4⟩; exact ⟨⟨⟨h1, h2⟩, h3⟩, h4⟩

theorem tot_reverse (xs : List Int) : tot xs.reverse = tot xs := by
  unfold tot
  induction xs with
  | nil => rfl
  | cons a l ih => rw [List.reverse_cons, List.sum_append, ih, List.sum_cons]; simp; omega

theorem cShare_reverse (t : Int) (xs : List Int) : cShare t xs.reverse = cShare t xs := by
  unfold cShare vParts allR
  rw [List.length_reverse, List.all_reverse, tot_reverse]

theorem getD_reverse (xs : List Int) (k : Nat) (h : k < xs.length) : xs.reverse.getD k 0 = xs.getD (xs.length - 1 - k) 0 := by
  rw [List.getD_eq_getElem?_getD, List.getD_eq_getElem?_getD, List.getElem?_reverse h]

theorem okAt_reverse (t : Int) (xs ys : List Int) (hl : ys.length = xs.length) (k : Nat) (h : k < xs.length) : okAt t xs.reverse ys.reverse k = okAt t xs ys (xs.length - 1 - k) := by
  unfold okAt
  rw [getD_reverse xs k h, getD_reverse ys k (by omega), tot_reverse, hl]

theorem fairL_reverse (t : Int) (xs ys : List Int) (hl : ys.length = xs.length) : fairL t xs.reverse ys.reverse = fairL t xs ys := by
  rw [Bool.eq_iff_iff, fairL_iff, fairL_iff, cShare_reverse, List.length_reverse, List.length_reverse, tot_reverse]
  constructor
  · rintro ⟨h1, h2, h3, h4⟩
    refine ⟨h1, h2, fun k hk => ?_, h4⟩
    have := h3 (xs.length - 1 - k) (by omega)
    rw [okAt_reverse t xs ys hl _ (by omega)] at this
    have e : xs.length - 1 - (xs.length - 1 - k) = k := by omega
    rwa [e] at this
  · rintro ⟨h1, h2, h3, h4⟩
    refine ⟨h1, h2, fun k hk => ?_, h4⟩
    rw [okAt_reverse t xs ys hl k hk]
    exact h3 _ (by omega)

theorem drop_rev (xs : List Int) (m : Nat) (h : m < xs.length) : (xs.drop (m + 1)).reverse ++ [xs[m]] = (xs.drop m).reverse := by
  rw [List.drop_eq_getElem_cons h, List.reverse_cons]

set_option maxRecDepth 100000 in
set_option maxHeartbeats 3200000 in
theorem FnIsFair_walk (a : Option Addr) (n cap : Nat) (w : World) (h : IsBytes w a n) (hc : n ≤ cap) :
    Calls Try.prog 7 #[.slice a n cap] w fun e w' => e = .returned (.bool true) ∧ Below w.heap.size w w' := by
  by_cases hbig : (1048576 : Int) < (n : Int)
  · go_enter Try.func7, Try.ntmps7
    go_wp2
    go_ret
    exact ⟨rfl, Below.refl _ _⟩
  · go_enter Try.func7, Try.ntmps7
    go_wp2_with fail
    refine (DrawIsFair_any a n cap w h hc).mono ?_
    rintro e w1 ⟨t, v, xs, u, ys, rfl, ht, ov1, wx, ou1, sy, b1⟩
    have hl9 := wx.1
    have hy8 := sy.1
    have hl : xs.length ≤ 9223372036854775807 := by omega
    have hly : ys.length ≤ 9223372036854775807 := by omega
    have hfy := sy.fits
    have hfx := wx.fits
    have SY := Lib.hid sy
    have HFX := Lib.hid hfx
    go_wp2_with fail
    refine (IsFair_impl t v u xs ys _ ov1.ints hl ou1.ints hly hfy).mono ?_
    rintro e w2 ⟨rfl, hb2⟩
    have b2 : Below w.heap.size w w2 := b1.trans (hb2.mono b1.size)
    have ov2 := ov1.below hb2
    have ou2 := ou1.below hb2
    clear ov1 ou1 hb2 b1 sy hfx
    go_wp2_with fail
    refine (IsFair_spec t v u xs ys _ ov2.ints hl ou2.ints hfy).mono ?_
    rintro e w' ⟨rfl, rfl⟩
    have hvx := ov2.ints
    have hvy := ou2.ints
    obtain ⟨ax, cx, rfl, _⟩ := ov2.ints
    obtain ⟨ay, cy, rfl, _⟩ := ou2.ints
    clear ov2 ou2
    have hbb : (fairL t xs ys != fairL t xs ys) = false := by simp
    by_cases hgo : vParts xs = true ∧ ys.length = xs.length
    · obtain ⟨hvp, hlen⟩ := hgo
      have hne : ((ys.length : Int) != (xs.length : Int)) = false := by simp; omega
      have HL := Lib.hid hlen
      have HREV := Lib.hid (fairL_reverse t xs ys hlen)
      have hs2 := b2.size
      have bE1 : Below w2.heap.size w2 (w2.alloc (.cells #[] 3)) := (Below.refl _ _).alloc (Nat.le_refl _) _
      have bE2 : Below w2.heap.size w2 ((w2.alloc (.cells #[] 3)).alloc (.cells #[] 3)) := bE1.alloc (by simp) _
      have oa : Own ((w2.alloc (.cells #[] 3)).alloc (.cells #[] 3)) w2.heap.size (sl w2.heap.size 0 0) [] := (own_empty w2 w2.heap.size (Nat.le_refl _)).below ((Below.refl _ _).alloc (Nat.le_refl _) _)
      have ob : Own ((w2.alloc (.cells #[] 3)).alloc (.cells #[] 3)) w2.heap.size (sl (w2.heap.size + 1) 0 0) [] := by
        have := own_empty (w2.alloc (.cells #[] 3)) w2.heap.size (by simp)
        simpa using this
      have hap : Apart (sl w2.heap.size 0 0) (sl (w2.heap.size + 1) 0 0) := .inr (by simp [Value.ownBlock])
      have hvp' := hvp
      clear hlen bE1
      go_wp2_with (go_at_call 18; refine (ValidParts_impl _ _ _ hvx hl).mono ?_; rw [hvp']; rintro e w' ⟨rfl, rfl⟩)
      go_loopw [7, 8, 9] (fun va vb i wr => ∃ (m : Nat) (z : Int), m ≤ xs.length ∧ z = (m : Int) - 1 ∧ i = .int .i64 z ∧ Own wr w2.heap.size va (xs.drop m).reverse ∧ Own wr w2.heap.size vb (ys.drop m).reverse ∧ Apart va vb ∧ Below w2.heap.size w2 wr)
        (fun _ _ i _ => (intOf i + 1).toNat)
      case atStart => exact ⟨xs.length, _, Nat.le_refl _, rfl, rfl, by simpa using oa, by have := HL.out; rw [← this]; simpa using ob, hap, bE2⟩
      case round =>
        clear oa ob hap bE2
        obtain ⟨m, z, hm, hz, rfl, hoa, hob, hap, hbr⟩ := hrel
        have hszr := hbr.size
        cases m with
        | zero =>
          obtain rfl : z = -1 := by omega
          rw [List.drop_zero] at hoa hob
          have bw : Below w.heap.size w wr := b2.trans (hbr.mono hs2)
          have hvyr := hvy.below hbr
          have hvar := hoa.ints
          have hvbr := hob.ints
          have hlr1 : xs.reverse.length ≤ 9223372036854775807 := by rw [List.length_reverse]; exact hl
          have hlr2 : ys.reverse.length ≤ 9223372036854775807 := by rw [List.length_reverse]; exact hly
          have hfr2 : Fits ys.reverse := fun x hx => hfy x (by simpa using hx)
          have hsf := SY.out.sumFits
          clear hz
          go_wp2_with fail
          refine (IsFair_impl t _ _ xs.reverse ys.reverse _ hvar hlr1 hvbr hlr2 hfr2).mono ?_
          rw [HREV.out]
          rintro e w5 ⟨rfl, hb5⟩
          have b5 : Below w.heap.size w w5 := bw.trans (hb5.mono bw.size)
          have hvy5 := hvyr.below hb5
          clear hb5 hvar hvbr hvyr hoa hob
          have hbb2 : (fairL t xs ys == fairL t xs ys) = true := by simp
          cases hfl : fairL t xs ys
          · go_wp2
            go_ret
            exact ⟨rfl, b5⟩
          · have htt := ((fairL_iff t xs ys).1 hfl).2.2.2
            have HT := Lib.hid htt
            clear htt
            go_wp2_with fail
            refine (total_any _ _ _ hvy5 hly hsf).mono ?_
            rw [HT.out]
            rintro e w' ⟨rfl, rfl⟩
            go_wp2
            go_ret
            exact ⟨ret_bool (by simp), b5⟩
        | succ m =>
          obtain rfl : z = (m : Int) := by omega
          have hmx : m < xs.length := by omega
          have hmy : m < ys.length := by rw [HL.out]; exact hmx
          obtain ⟨ax', cx', ex, hcx⟩ := hvx.below hbr
          obtain ⟨ay', cy', ey, hcy⟩ := hvy.below hbr
          simp only [Value.slice.injEq, true_and] at ex ey
          obtain ⟨rfl, rfl⟩ := ex
          obtain ⟨rfl, rfl⟩ := ey
          obtain ⟨bx, fx, rfl, cx1⟩ := hcx m hmx
          obtain ⟨by', fy, rfl, cy1⟩ := hcy m hmy
          have lby : by' < wr.heap.size := World.block_lt_of_cell? wr _ cy1
          obtain ⟨_, _, ey2, cy0⟩ := hvy
          simp only [Value.slice.injEq, true_and] at ey2
          obtain ⟨rfl, rfl⟩ := ey2
          obtain ⟨_, _, ey3, cy2⟩ := cy0 m hmy
          simp only [Option.some.injEq, Addr.mk.injEq, and_true] at ey3
          obtain ⟨rfl, rfl⟩ := ey3
          have lby2 : by' < w2.heap.size := World.block_lt_of_cell? w2 _ cy2
          have e1 := drop_rev xs m hmx
          have e2 := drop_rev ys m hmy
          have gx : xs.getD m 0 = xs[m] := by simp [List.getD, hmx]
          have gy : ys.getD m 0 = ys[m] := by simp [List.getD, hmy]
          rw [gx] at cx1
          rw [gy] at cy1
          have i1 : (m : Int) < (xs.length : Int) := by omega
          have i2 : (m : Int) < (ys.length : Int) := by omega
          have E1 := Lib.hid e1
          have E2 := Lib.hid e2
          have la : ((xs.drop (m + 1)).reverse).length ≤ 1048576 := by simp; omega
          have lb : ((ys.drop (m + 1)).reverse).length ≤ 1048576 := by simp; omega
          clear e1 e2 gx gy hcx hcy cy0 cy2 hvx hz
          go_wp2_with (at_builtin; refine wpList_push hoa la hszr (h := ?_))
          intro va2 w6 oa6 g6 m6
          have b6 : Below w2.heap.size w2 w6 := hbr.trans (hoa.pushed_below g6 hszr)
          have ob6 := hob.kept g6 hap.symm
          have ap6 := hap.symm.moved m6 hob
          have cy6 : w6.cell? ⟨by', fy + m, none⟩ = some (.int .i64 ys[m]) := g6.cell cy1 (fun e => by have := (hoa.lt by' e.symm).1; omega)
          have hs6 := b6.size
          rw [E1.out] at oa6
          clear hoa hob hap g6 m6 hbr hszr cx1
          go_wp2_with (at_builtin; refine wpList_push ob6 lb hs6 (h := ?_))
          intro vb2 w7 ob7 g7 m7
          have b7 : Below w2.heap.size w2 w7 := b6.trans (ob6.pushed_below g7 hs6)
          have oa7 := oa6.kept g7 ap6.symm
          have ap7 : Apart va2 vb2 := ap6.symm.moved m7 oa6
          rw [E2.out] at ob7
          clear oa6 ob6 g7 m7 cy6 cy1
          go_wp2
          go_roundw
          case rel => exact ⟨m, _, by omega, rfl, by go_num, oa7, ob7, ap7, b7⟩
          case measure => simp [intOf] <;> omega
    · have hfinal : ∀ b : Bool, (b == b) = true := fun b => by simp
      by_cases hvp : vParts xs = true
      · have hlen : ¬ ys.length = xs.length := fun e => hgo ⟨hvp, e⟩
        have hne : ((ys.length : Int) != (xs.length : Int)) = true := by simp; omega
        clear hgo hfinal
        go_wp2_with (first | (go_at_call 18; refine (ValidParts_impl _ _ _ hvx hl).mono ?_; rw [hvp]; rintro e w' ⟨rfl, rfl⟩) | (go_at_call 33; refine (IsFair_spec t _ _ xs ys _ hvx hl hvy hfy).mono ?_; rintro e w' ⟨rfl, rfl⟩))
        go_ret
        exact ⟨ret_bool (by simp), b2⟩
      · have hvf : vParts xs = false := by simpa using hvp
        clear hgo hfinal hvp
        go_wp2_with (first | (go_at_call 18; refine (ValidParts_impl _ _ _ hvx hl).mono ?_; rw [hvf]; rintro e w' ⟨rfl, rfl⟩) | (go_at_call 33; refine (IsFair_spec t _ _ xs ys _ hvx hl hvy hfy).mono ?_; rintro e w' ⟨rfl, rfl⟩))
        go_ret
        exact ⟨ret_bool (by simp), b2⟩

end Go.Proofs.Ytlibfmbbchhjeaa
