/- Balances behind payments, in the program. -/
import Derived.Test.YtbedjebnllimpaaAftS
import Derived.Test.YtbedjebnllimpaaSlI
import Derived.Test.YtbedjebnllimpaaBalI
import Derived.Test.YtbedjebnllimpaaSettle
import Derived.StillTailTactics
namespace Go.Proofs.Ytbedjebnllimpaa
open Go.RowKit

theorem applyP_stl (ys : List Int) (f t : Nat) (x : Int) : applyP ys (f : Int) (t : Int) x = stl ys f t x := by simp [applyP, stl]

/-- The payments are some of n friends. -/
def allPay (n : Nat) (st : List (Int × Int × Int)) (k : Nat) : Prop := ∀ i, i < k → payOK n (pF st i) (pT st i) (pA st i) = true

theorem afterF_bad (n : Nat) (st : List (Int × Int × Int)) (i : Nat) (hb : payOK n (pF st i) (pT st i) (pA st i) = false) : ∀ r k ys, ys.length = n → k ≤ i → i < k + r → afterF st r k ys = none
  | 0, k, ys, _, h1, h2 => absurd h2 (by omega)
  | r + 1, k, ys, hl, h1, h2 => by
    rw [afterF, hl]
    by_cases e : k = i
    · subst e; rw [hb]; rfl
    · split
      · exact afterF_bad n st i hb r (k + 1) _ (by rw [applyP_length]; exact hl) (by omega) (by omega)
      · rfl

set_option maxHeartbeats 1600000 in
theorem isAmong_impl (f t a : Int) (n : Nat) (w : World) (hn : 1 ≤ n ∧ n ≤ 6) :
    Calls Try.prog 99 #[pv f t a, .int .i64 n] w fun e w' => e = .returned (.bool (payOK n f t a)) ∧ Below w.heap.size w w' := by
  have wn : IntKind.i64.wrap ((n : Int) - 1) = (n : Int) - 1 := IntWalk.i64_in _ (by omega)
  have hb : Below w.heap.size w (w.alloc (.cells #[.int .i64 f, .int .i64 t, .int .i64 a] 42)) := (Below.refl _ _).alloc (Nat.le_refl _) _
  have HC : ∀ (x lo hi : Int) (r : Bool) (w : World), inR x lo hi = r → Calls Try.prog 66 #[.int .i64 x, .int .i64 lo, .int .i64 hi] w fun e w' => e = .returned (.bool r) ∧ w = w' := fun x lo hi r w h => by subst h; exact inRange_impl _ _ _ _
  have HCC := Lib.hid HC
  clear HC
  cases h1 : inR f 0 ((n : Int) - 1)
  · have E : Hid (payOK n f t a = false) := by show _ = _; unfold payOK; rw [h1]; rfl
    go_enter Try.func99, Try.ntmps99
    go_wp2_with (go_at_call 66; refine (HCC.out _ _ _ _ _ h1).mono ?_; rintro e w' ⟨rfl, rfl⟩)
    go_ret
    exact ⟨ret_bool E.out.symm, hb⟩
  cases h2 : inR t 0 ((n : Int) - 1)
  · have E : Hid (payOK n f t a = false) := by show _ = _; unfold payOK; rw [h1, h2]; rfl
    go_enter Try.func99, Try.ntmps99
    go_wp2_with (go_at_call 66; (first | (with_reducible refine (HCC.out f _ _ _ _ h1).mono ?_) | (with_reducible refine (HCC.out t _ _ _ _ h2).mono ?_)); rintro e w' ⟨rfl, rfl⟩)
    go_ret
    exact ⟨ret_bool E.out.symm, hb⟩
  by_cases h3 : f = t
  · have E : Hid (payOK n f t a = false) := by show _ = _; unfold payOK; rw [h1, h2, decide_eq_true h3]; rfl
    have h3b : (f != t) = false := by simp [h3]
    clear h3
    go_enter Try.func99, Try.ntmps99
    go_wp2_with (go_at_call 66; (first | (with_reducible refine (HCC.out f _ _ _ _ h1).mono ?_) | (with_reducible refine (HCC.out t _ _ _ _ h2).mono ?_)); rintro e w' ⟨rfl, rfl⟩)
    go_ret
    exact ⟨ret_bool E.out.symm, hb⟩
  · have E : Hid (payOK n f t a = inR a 1 600) := by show _ = _; unfold payOK; rw [h1, h2, decide_eq_false h3]; simp
    have h3b : (f != t) = true := by simp [h3]
    clear h3
    go_enter Try.func99, Try.ntmps99
    go_wp2_with (go_at_call 66; (first | (with_reducible refine (HCC.out f _ _ _ _ h1).mono ?_) | (with_reducible refine (HCC.out t _ _ _ _ h2).mono ?_) | (with_reducible refine (HCC.out a _ _ _ _ rfl).mono ?_)); rintro e w' ⟨rfl, rfl⟩)
    go_ret
    exact ⟨ret_bool E.out.symm, hb⟩

set_option maxHeartbeats 3200000 in
theorem canPay_impl (u : Value) (st : List (Int × Int × Int)) (n : Nat) (w : World) (hu : IsPays w u st) (hl : st.length ≤ 9223372036854775807) (hn : 1 ≤ n ∧ n ≤ 6) :
    Calls Try.prog 85 #[u, .int .i64 n] w fun e w' => (e = .returned (.bool true) ∧ st.length ≤ 12 ∧ allPay n st st.length ∨ e = .returned (.bool false) ∧ ¬ (st.length ≤ 12 ∧ allPay n st st.length)) ∧ Below w.heap.size w w' := by
  have HU := Lib.hid hu
  obtain ⟨a, cap, rfl, hc⟩ := hu
  by_cases hm : (12 : Int) < (st.length : Int)
  · clear hc
    go_enter Try.func85, Try.ntmps85
    go_wp2
    go_ret
    exact ⟨.inr ⟨rfl, fun h => by omega⟩, Below.refl _ _⟩
  · have HC := Lib.hid hc
    clear hc
    go_enter Try.func85, Try.ntmps85
    go_wp2
    go_loopw [12] (fun s wr => ∃ i : Nat, i ≤ st.length ∧ s = .int .i64 i ∧ allPay n st i ∧ Below w.heap.size w wr) (fun s _ => st.length - (intOf s).toNat)
    case atStart => exact ⟨0, Nat.zero_le _, rfl, fun j hj => absurd hj (Nat.not_lt_zero _), Below.refl _ _⟩
    case round =>
      obtain ⟨i, hi, rfl, hall, hbl⟩ := hrel
      rename World => wo
      have HAL := Lib.hid hall
      clear hall
      by_cases hlt : i < st.length
      · have i1 : (i : Int) < (st.length : Int) := by omega
        obtain ⟨b, off, rfl, c0, c1, c2⟩ := HC.out i hlt
        have hbb : b < w.heap.size := World.block_lt_of_cell? w _ c0
        have d0 := (hbl.cell (p := ⟨b, off + i * 3, none⟩) hbb).trans c0
        have d1 := (hbl.cell (p := ⟨b, off + i * 3 + 1, none⟩) hbb).trans c1
        have d2 := (hbl.cell (p := ⟨b, off + i * 3 + 2, none⟩) hbb).trans c2
        clear c0 c1 c2
        have HNX : Hid (payOK n (pF st i) (pT st i) (pA st i) = true → allPay n st (i + 1)) := fun h j hj => by
          by_cases e : j = i
          · subst e; exact h
          · exact HAL.out j (by omega)
        have HNO : Hid (payOK n (pF st i) (pT st i) (pA st i) = false → ¬ (st.length ≤ 12 ∧ allPay n st st.length)) := fun h hh => by
          have := hh.2 i hlt
          rw [h] at this; cases this
        generalize pF st i = f at *
        generalize pT st i = t at *
        generalize pA st i = am at *
        have bB : Below w.heap.size w (wo.alloc (.cells #[.int .i64 f, .int .i64 t, .int .i64 am] 42)) := hbl.alloc hbl.size _
        have HI := Lib.hid (isAmong_impl f t am n (wo.alloc (.cells #[.int .i64 f, .int .i64 t, .int .i64 am] 42)) hn)
        cases hok : payOK n f t am
        · have HN := Lib.hid (HNO.out hok)
          have h := HI.out
          rw [hok] at h
          have HI2 := Lib.hid h
          clear h HNO HNX hok
          go_wp2_with (go_at_call 99; refine HI2.out.mono ?_)
          rintro e w2 ⟨rfl, hb2⟩
          have hb3 : Below w.heap.size w w2 := bB.trans (hb2.mono bB.size)
          go_wp2
          go_ret
          exact ⟨.inr ⟨rfl, HN.out⟩, hb3⟩
        · have HN := Lib.hid (HNX.out hok)
          have h := HI.out
          rw [hok] at h
          have HI2 := Lib.hid h
          clear h HNO HNX hok
          go_wp2_with (go_at_call 99; refine HI2.out.mono ?_)
          rintro e w2 ⟨rfl, hb2⟩
          have hb3 : Below w.heap.size w w2 := bB.trans (hb2.mono bB.size)
          go_wp2
          go_roundw
          case rel => exact ⟨i + 1, by omega, by go_num, HN.out, hb3⟩
          case measure => simp [intOf]; omega
      · have hie : i = st.length := by omega
        subst hie
        go_wp2
        go_ret
        exact ⟨.inl ⟨rfl, by omega, HAL.out⟩, hbl⟩

set_option maxRecDepth 100000 in
set_option maxHeartbeats 6400000 in
theorem AfterPays_impl (v u : Value) (xs : List Int) (st : List (Int × Int × Int)) (w : World) (hv : IsInts w v xs) (hl : xs.length ≤ 9223372036854775807) (hu : IsPays w u st) (hlu : st.length ≤ 9223372036854775807) :
    Calls Try.prog 44 #[v, u] w fun e w' => ∃ v', e = .returned (.tuple #[v', .bool (afterL xs st).isSome]) ∧ Own w' w.heap.size v' ((afterL xs st).getD []) ∧ Below w.heap.size w w' := by
  have H := Lib.hid (areBalances_impl v xs w hv hl)
  cases hd : vBal xs
  · have E : Hid (afterL xs st = none) := by show afterL xs st = none; rw [afterL, if_neg (by rw [hd]; simp)]
    have h := H.out
    rw [hd] at h
    have H2 := Lib.hid h
    obtain ⟨a, cap, rfl, _⟩ := hv
    obtain ⟨a2, cap2, rfl, _⟩ := hu
    clear h hd
    go_enter Try.func44, Try.ntmps44
    go_wp2_with fail
    refine H2.out.mono ?_
    rintro e w' ⟨rfl, rfl⟩
    go_wp2
    go_ret2
    exact ⟨_, by rw [E.out]; rfl, by rw [E.out]; exact ⟨rfl, .inl ⟨rfl, rfl⟩⟩, Below.refl _ _⟩
  · have hn := ((vBal_iff xs).1 hd).2.1
    have h := H.out
    rw [hd] at h
    have H2 := Lib.hid h
    have hwi : Within 300 xs := ((vBal_iff xs).1 hd).1
    have HWI := Lib.hid hwi
    have HCP := Lib.hid (canPay_impl u st xs.length w hu hlu hn)
    have HE1 : Hid (¬ (st.length ≤ 12 ∧ allPay xs.length st st.length) → afterL xs st = none) := fun hno => by
      by_cases h12 : st.length ≤ 12
      · have : ∃ i, i < st.length ∧ payOK xs.length (pF st i) (pT st i) (pA st i) = false := Classical.byContradiction fun hc => hno ⟨h12, fun i hi => by
          cases hp : payOK xs.length (pF st i) (pT st i) (pA st i)
          · exact absurd ⟨i, hi, hp⟩ hc
          · rfl⟩
        obtain ⟨i, hi, hb⟩ := this
        rw [afterL, if_pos ⟨hd, h12⟩, afterF_bad xs.length st i hb st.length 0 xs rfl (Nat.zero_le _) (by omega)]
        rfl
      · rw [afterL, if_neg (fun hh => h12 hh.2)]
    have HE2 : Hid (st.length ≤ 12 → afterL xs st = okBal (afterF st st.length 0 xs)) := fun h12 => by rw [afterL, if_pos ⟨hd, h12⟩]
    have HV := Lib.hid hv
    have HU0 := Lib.hid hu
    obtain ⟨a, cap, rfl, _⟩ := hv
    obtain ⟨a2, cap2, rfl, hcu⟩ := hu
    have HU := Lib.hid hcu
    clear h hd hcu hwi
    go_enter Try.func44, Try.ntmps44
    go_wp2_with fail
    refine H2.out.mono ?_
    rintro e w' ⟨rfl, rfl⟩
    go_wp2_with fail
    refine HCP.out.mono ?_
    rintro e w1 ⟨⟨rfl, h12, hall⟩ | ⟨rfl, hno⟩, hb1⟩
    · have E := Lib.hid (HE2.out h12)
      have HAL := Lib.hid hall
      clear HE1 HE2 hall HCP
      have HCL := Lib.hid (Clone_impl _ xs w1 (HV.out.below hb1) hn.1 (by omega))
      have hs1 := hb1.size
      go_wp2_with fail
      refine HCL.out.mono ?_
      rintro e w2 ⟨g, capg, rfl, hg1, ho2, hb2⟩
      have hb02 : Below w.heap.size w w2 := hb1.trans (hb2.mono hb1.size)
      have hgw : w.heap.size ≤ g := by omega
      have o2 : Own w2 w.heap.size (sl g xs.length capg) xs := ho2.base hs1
      clear ho2 hb2 HCL
      go_wp2
      go_loopw [23] (fun s wr => ∃ (i : Nat) (ys : List Int), i ≤ st.length ∧ s = .int .i64 i ∧ ys.length = xs.length ∧ afterF st (st.length - i) i ys = afterF st st.length 0 xs ∧ Within (300 + 600 * i) ys ∧ Own wr w.heap.size (sl g xs.length capg) ys ∧ Below w.heap.size w wr) (fun s _ => st.length - (intOf s).toNat)
      case atStart => exact ⟨0, xs, Nat.zero_le _, rfl, rfl, rfl, by simpa using HWI.out, o2, hb02⟩
      case round =>
        obtain ⟨i, ys, hi, rfl, hyl, haf, hwy, hown, hbl⟩ := hrel
        rename World => wo
        clear o2 hb02
        have HYL := Lib.hid hyl
        have HAF := Lib.hid haf
        have HWY := Lib.hid hwy
        clear hyl haf hwy
        by_cases hlt : i < st.length
        · have i1 : (i : Int) < (st.length : Int) := by omega
          obtain ⟨b, off, rfl, c0, c1, c2⟩ := HU.out i hlt
          have hbb : b < w.heap.size := World.block_lt_of_cell? w _ c0
          have d0 := (hbl.cell (p := ⟨b, off + i * 3, none⟩) hbb).trans c0
          have d1 := (hbl.cell (p := ⟨b, off + i * 3 + 1, none⟩) hbb).trans c1
          have d2 := (hbl.cell (p := ⟨b, off + i * 3 + 2, none⟩) hbb).trans c2
          clear c0 c1 c2
          have hok := HAL.out i hlt
          have hst : afterF st (st.length - i) i ys = afterF st (st.length - (i + 1)) (i + 1) (applyP ys (pF st i) (pT st i) (pA st i)) := by
            rw [show st.length - i = (st.length - (i + 1)) + 1 by omega, afterF, HYL.out, if_pos hok]
          have HST := Lib.hid hst
          clear hst
          generalize pF st i = f at *
          generalize pT st i = t at *
          generalize pA st i = am at *
          obtain ⟨k1, k2, k3, k4⟩ := payOK_iff.1 hok
          obtain ⟨fn, rfl⟩ : ∃ q : Nat, f = q := ⟨f.toNat, by omega⟩
          obtain ⟨tn, rfl⟩ : ∃ q : Nat, t = q := ⟨t.toNat, by omega⟩
          have hfn : fn < xs.length := by omega
          have htn : tn < xs.length := by omega
          have hfi : (fn : Int) < (xs.length : Int) := by omega
          have hti : (tn : Int) < (xs.length : Int) := by omega
          have HST2 : Hid (afterF st (st.length - (i + 1)) (i + 1) (applyP ys fn tn am) = afterF st st.length 0 xs) := by
            show _ = _; rw [← HAF.out, HST.out]
          have HWA := Lib.hid (HWY.out.apply (by omega) (f := (fn : Int)) (t := (tn : Int)) k4)
          have wb1 := HWY.out.getD (by omega) fn
          have wb2 := HWY.out.getD (by omega) tn
          have hb3 : -10000 ≤ (ys.set fn (ys.getD fn 0 + am)).getD tn 0 - am ∧ (ys.set fn (ys.getD fn 0 + am)).getD tn 0 - am ≤ 10000 := by
            rw [getD_setI _ _ _ _ (by rw [HYL.out]; exact htn)]
            split <;> omega
          have hbB : Below wo.heap.size wo (wo.alloc (.cells #[.int .i64 fn, .int .i64 tn, .int .i64 am] 42)) := (Below.refl _ _).alloc (Nat.le_refl _) _
          have oB := (hown.below hbB).kept (grown_drewA (World.grownBy.refl _ none)) (.inr (by simp [Value.ownBlock]))
          have bB : Below w.heap.size w (wo.alloc (.cells #[.int .i64 fn, .int .i64 tn, .int .i64 am] 42)).drew := (hbl.alloc hbl.size _).drew
          have hxB : (wo.alloc (.cells #[.int .i64 fn, .int .i64 tn, .int .i64 am] 42)).heap[wo.heap.size]? = some (.cells #[.int .i64 fn, .int .i64 tn, .int .i64 am] 42 (0, 0)) := heap_alloc_new _ _
          have x0 : (wo.alloc (.cells #[.int .i64 fn, .int .i64 tn, .int .i64 am] 42)).cell? ⟨wo.heap.size, 0, none⟩ = some (.int .i64 (fn : Int)) := by rw [cell_of_row _ _ 0 _ _ _ hxB]; rfl
          have x1 : (wo.alloc (.cells #[.int .i64 fn, .int .i64 tn, .int .i64 am] 42)).cell? ⟨wo.heap.size, 1, none⟩ = some (.int .i64 (tn : Int)) := by rw [cell_of_row _ _ 1 _ _ _ hxB]; rfl
          have x2 : (wo.alloc (.cells #[.int .i64 fn, .int .i64 tn, .int .i64 am] 42)).cell? ⟨wo.heap.size, 2, none⟩ = some (.int .i64 am) := by rw [cell_of_row _ _ 2 _ _ _ hxB]; rfl
          have X0 := Lib.hid x0
          have X1 := Lib.hid x1
          have X2 := Lib.hid x2
          clear hxB x0 x1 x2
          have HSE := Lib.hid (settle_impl g xs.length capg ys fn tn am w.heap.size _ oB HYL.out hfn htn (by omega) (by omega))
          have BB := Lib.hid bB
          clear k1 k2 k3 k4 hok hbB oB hb3 wb1 wb2 hown HST HAF hbl bB
          go_wp2
          have x0 := X0.out
          have x1 := X1.out
          have x2 := X2.out
          clear X0 X1 X2 d0 d1 d2 HU0
          generalize wo.alloc (.cells #[.int .i64 fn, .int .i64 tn, .int .i64 am] 42) = wa at *
          go_still_tail 10, (by kernel_rfl)
          change wpList _ _ _ _ _ wa.drew
          go_wp2_with (go_at_call 69; refine HSE.out.mono ?_)
          rintro e w3 ⟨rfl, ho3, hg3⟩
          have hb3 : Below w.heap.size w w3 := BB.out.trans (below_grown hg3 BB.out.size (fun k hk => by cases hk; exact hgw))
          have O3 := Lib.hid ho3
          clear ho3 hg3 x0 x1 x2
          go_wp2
          go_roundw
          case rel => exact ⟨i + 1, _, by omega, by go_num, by rw [stl_len]; exact HYL.out, by rw [← applyP_stl]; exact HST2.out, by rw [← applyP_stl]; have h := HWA.out; rw [show (300 : Int) + 600 * ((i + 1 : Nat) : Int) = 300 + 600 * (i : Int) + 600 by omega]; exact h, O3.out, hb3⟩
          case measure => simp [intOf]; omega
        · have hie : i = st.length := by omega
          subst hie
          have haf := HAF.out
          rw [Nat.sub_self] at haf
          change some ys = _ at haf
          have E2 : Hid (afterL xs st = if vBal ys = true then some ys else none) := by show _ = _; rw [E.out, ← haf]; rfl
          have HVB := Lib.hid (areBalances_impl (sl g xs.length capg) ys wo (by have h := hown.ints; exact h) (by rw [HYL.out]; omega))
          clear haf HAF E
          cases hvb : vBal ys
          · have E3 : Hid (afterL xs st = none) := by show _ = _; rw [E2.out, hvb]; rfl
            have h := HVB.out
            rw [hvb] at h
            have HV3 := Lib.hid h
            clear h hown hvb
            go_wp2_with fail
            refine HV3.out.mono ?_
            rintro e w' ⟨rfl, rfl⟩
            go_wp2
            go_ret2
            exact ⟨_, by rw [E3.out]; rfl, by rw [E3.out]; exact ⟨rfl, .inl ⟨rfl, rfl⟩⟩, hbl⟩
          · have E3 : Hid (afterL xs st = some ys) := by show _ = _; rw [E2.out, if_pos hvb]
            have h := HVB.out
            rw [hvb] at h
            have HV3 := Lib.hid h
            have HO := Lib.hid hown
            clear h hown hvb
            go_wp2_with fail
            refine HV3.out.mono ?_
            rintro e w' ⟨rfl, rfl⟩
            go_wp2
            go_ret2
            exact ⟨_, by rw [E3.out]; rfl, by rw [E3.out]; exact HO.out, hbl⟩
    · have E := Lib.hid (HE1.out hno)
      clear hno HE1 HE2 HCP
      go_wp2
      go_ret2
      exact ⟨_, by rw [E.out]; rfl, by rw [E.out]; exact ⟨rfl, .inl ⟨rfl, rfl⟩⟩, hb1⟩

end Go.Proofs.Ytbedjebnllimpaa
