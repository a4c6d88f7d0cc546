/- Balances behind payments, in the model: the walk. -/
import Derived.Test.YtbedjebnllimpaaAftM
import Derived.Test.YtbedjebnllimpaaSpread
import Derived.BigRegion
import Derived.IntWalk
import Derived.Deep.LoopGhost
namespace Go.Proofs.Ytbedjebnllimpaa
open Go.RowKit

theorem grown_drewA {w w' : World} {row : Option Nat} (h : w.grownBy w' row) : w.grownBy w'.drew row := ⟨h.os, h.tape, h.output, h.size, h.block⟩

/-- A row read, or nil. -/
def OptOwn (w : World) (B : Nat) (v : Value) (R : Option (List Int)) : Prop := Own w B v (R.getD [])

set_option maxRecDepth 100000 in
set_option maxHeartbeats 6400000 in
theorem AfterPays_spec (v u : Value) (xs : List Int) (st : List (Int × Int × Int)) (w : World) (hv : IsInts w v xs) (hl : xs.length ≤ 9223372036854775807) (hu : IsPays w u st) (hlu : st.length ≤ 9223372036854775807) :
    Calls Try.prog 46 #[v, u] w fun e w' => ∃ v', e = .returned (.tuple #[v', .bool (afterL xs st).isSome]) ∧ Own w' w.heap.size v' ((afterL xs st).getD []) ∧ Below w.heap.size w w' := by
  have H := Lib.hid (validBalances_spec v xs w hv hl)
  obtain ⟨a2, cap2, rfl, hcu⟩ := id hu
  have HU := Lib.hid hcu
  clear hcu
  cases hd : vBal xs
  · have E : Hid (afterL xs st = none) := by show afterL xs st = none; rw [afterL, if_neg (by rw [hd]; simp)]
    have h := H.out
    rw [hd] at h
    have H2 := Lib.hid h
    obtain ⟨a, cap, rfl, _⟩ := hv
    clear h hd hu
    go_enter Try.func46, Try.ntmps46
    go_wp2_with fail
    refine H2.out.mono ?_
    rintro e w' ⟨rfl, rfl⟩
    go_wp2
    go_ret2
    exact ⟨_, by rw [E.out]; rfl, by rw [E.out]; exact ⟨rfl, .inl ⟨rfl, rfl⟩⟩, Below.refl _ _⟩
  · by_cases hm : (12 : Int) < (st.length : Int)
    · have E : Hid (afterL xs st = none) := by show afterL xs st = none; rw [afterL, if_neg (by omega)]
      have h := H.out
      rw [hd] at h
      have H2 := Lib.hid h
      obtain ⟨a, cap, rfl, _⟩ := hv
      clear h hd hu
      go_enter Try.func46, Try.ntmps46
      go_wp2_with fail
      refine H2.out.mono ?_
      rintro e w' ⟨rfl, rfl⟩
      go_wp2
      go_ret2
      exact ⟨_, by rw [E.out]; rfl, by rw [E.out]; exact ⟨rfl, .inl ⟨rfl, rfl⟩⟩, Below.refl _ _⟩
    · have E : Hid (afterL xs st = okBal (afterF st st.length 0 xs)) := by show afterL xs st = _; rw [afterL, if_pos ⟨hd, by omega⟩]
      have h := H.out
      rw [hd] at h
      have H2 := Lib.hid h
      obtain ⟨hxb, hn, _⟩ := (vBal_iff xs).1 hd
      obtain ⟨a, cap, rfl, _⟩ := id hv
      have hwi : Within 300 xs := hxb
      have HWI := Lib.hid hwi
      clear h hd hu hxb hwi
      go_enter Try.func46, Try.ntmps46
      go_wp2_with fail
      refine H2.out.mono ?_
      rintro e w' ⟨rfl, rfl⟩
      have oe := own_empty w w.heap.size (Nat.le_refl _)
      have hba : Below w.heap.size w (w.alloc (.cells #[] 3)) := (Below.refl _ _).alloc (Nat.le_refl _) _
      have r1 := hv.below hba
      have hsz : w.heap.size ≤ (w.alloc (.cells #[] 3)).heap.size := hba.size
      clear hv
      go_wp2_with (at_builtin; refine wpList_spread oe r1 (by omega) (by simp; omega) hsz (h := ?_))
      intro rv w1 o1 g1 m1
      have hb1 : Below w.heap.size w w1 := hba.trans (below_grown g1 hsz (fun k hk => by simp [Value.ownBlock] at hk; omega))
      rcases id o1.2 with ⟨_, hz⟩ | ⟨g, capg, curg, rfl, _⟩
      · omega
      have hgl := o1.lt g rfl
      have o2 : Own w1 w.heap.size (sl g xs.length capg) xs := by simpa using o1
      clear oe r1 g1 m1 o1 hba hsz
      go_wp2
      go_loopw [7, 8] (fun s _ wr => ∃ (i : Nat) (ys : List Int), i ≤ st.length ∧ s = .int .i64 i ∧ ys.length = xs.length ∧ afterF st (st.length - i) i ys = afterF st st.length 0 xs ∧ Within (300 + 600 * i) ys ∧ Own wr w.heap.size (sl g xs.length capg) ys ∧ Below w.heap.size w wr) (fun s _ _ => st.length - (intOf s).toNat)
      case atStart => exact ⟨0, xs, Nat.zero_le _, rfl, rfl, rfl, by simpa using HWI.out, by simpa using o2, hb1⟩
      case round =>
        obtain ⟨i, ys, hi, rfl, hyl, haf, hwy, hown, hbl⟩ := hrel
        rename World => wo
        clear o2 hb1
        have HYL := Lib.hid hyl
        have HAF := Lib.hid haf
        have HWY := Lib.hid hwy
        clear hyl haf hwy
        by_cases hlt : i < st.length
        · have i1 : (i : Int) < (st.length : Int) := by omega
          obtain ⟨b, off, rfl, c0, c1, c2⟩ := HU.out i hlt
          have hbb : b < w.heap.size := World.block_lt_of_cell? w _ c0
          have d0 := (hbl.cell (p := ⟨b, off + i * 3, none⟩) hbb).trans c0
          have d1 := (hbl.cell (p := ⟨b, off + i * 3 + 1, none⟩) hbb).trans c1
          have d2 := (hbl.cell (p := ⟨b, off + i * 3 + 2, none⟩) hbb).trans c2
          clear c0 c1 c2
          have hst : afterF st (st.length - i) i ys = if payOK xs.length (pF st i) (pT st i) (pA st i) = true then afterF st (st.length - (i + 1)) (i + 1) (applyP ys (pF st i) (pT st i) (pA st i)) else none := by
            rw [show st.length - i = (st.length - (i + 1)) + 1 by omega, afterF, HYL.out]
          have HST := Lib.hid hst
          clear hst
          generalize pF st i = f at *
          generalize pT st i = t at *
          generalize pA st i = am at *
          have HNO : Hid (payOK xs.length f t am = false → afterL xs st = none) := fun h => by rw [E.out, ← HAF.out, HST.out, if_neg (by rw [h]; decide)]; rfl
          cases h1 : inR f 0 ((xs.length : Int) - 1)
          · have HN : Hid (afterL xs st = none) := HNO.out (by unfold payOK; rw [h1]; rfl)
            go_wp2_with (go_at_call 88; refine (inRange_spec _ _ _ _).mono ?_; rintro e w' ⟨rfl, rfl⟩)
            go_ret2
            exact ⟨_, by rw [HN.out]; rfl, by rw [HN.out]; exact ⟨rfl, .inl ⟨rfl, rfl⟩⟩, hbl.alloc hbl.size _⟩
          cases h2 : inR t 0 ((xs.length : Int) - 1)
          · have HN : Hid (afterL xs st = none) := HNO.out (by unfold payOK; rw [h1, h2]; rfl)
            go_wp2_with (go_at_call 88; refine (inRange_spec _ _ _ _).mono ?_; rintro e w' ⟨rfl, rfl⟩)
            go_ret2
            exact ⟨_, by rw [HN.out]; rfl, by rw [HN.out]; exact ⟨rfl, .inl ⟨rfl, rfl⟩⟩, hbl.alloc hbl.size _⟩
          by_cases h3 : f = t
          · have HN : Hid (afterL xs st = none) := HNO.out (by unfold payOK; rw [h1, h2, decide_eq_true h3]; rfl)
            have h3b : (f == t) = true := by simp [h3]
            clear h3
            go_wp2_with (go_at_call 88; refine (inRange_spec _ _ _ _).mono ?_; rintro e w' ⟨rfl, rfl⟩)
            go_ret2
            exact ⟨_, by rw [HN.out]; rfl, by rw [HN.out]; exact ⟨rfl, .inl ⟨rfl, rfl⟩⟩, hbl.alloc hbl.size _⟩
          have h3b : (f == t) = false := by simp [h3]
          cases h4 : inR am 1 600
          · have HN : Hid (afterL xs st = none) := HNO.out (by unfold payOK; rw [h1, h2, decide_eq_false h3, h4]; rfl)
            clear h3
            go_wp2_with (go_at_call 88; refine (inRange_spec _ _ _ _).mono ?_; rintro e w' ⟨rfl, rfl⟩)
            go_ret2
            exact ⟨_, by rw [HN.out]; rfl, by rw [HN.out]; exact ⟨rfl, .inl ⟨rfl, rfl⟩⟩, hbl.alloc hbl.size _⟩
          have hok : payOK xs.length f t am = true := by unfold payOK; rw [h1, h2, decide_eq_false h3, h4]; rfl
          obtain ⟨k1, k2, k3, k4⟩ := payOK_iff.1 hok
          obtain ⟨fn, rfl⟩ : ∃ q : Nat, f = q := ⟨f.toNat, by omega⟩
          obtain ⟨tn, rfl⟩ : ∃ q : Nat, t = q := ⟨t.toNat, by omega⟩
          have hfn : fn < xs.length := by omega
          have htn : tn < xs.length := by omega
          have hfi : (fn : Int) < (xs.length : Int) := by omega
          have hti : (tn : Int) < (xs.length : Int) := by omega
          have HST2 : Hid (afterF st (st.length - (i + 1)) (i + 1) (applyP ys fn tn am) = afterF st st.length 0 xs) := by
            show _ = _; rw [← HAF.out, HST.out, if_pos hok]
          have HAP : Hid (applyP ys fn tn am = (ys.set fn (ys.getD fn 0 + am)).set tn ((ys.set fn (ys.getD fn 0 + am)).getD tn 0 - am)) := rfl
          have HWA := Lib.hid (HWY.out.apply (by omega) (f := (fn : Int)) (t := (tn : Int)) k4)
          have wb1 := HWY.out.getD (by omega) fn
          have wb2 := HWY.out.getD (by omega) tn
          have hne : tn ≠ fn := fun e => k3 (by rw [e])
          clear hok k1 k2 k3 h3 HNO HST HAF
          have hbB : Below wo.heap.size wo (wo.alloc (.cells #[.int .i64 fn, .int .i64 tn, .int .i64 am] 42)) := (Below.refl _ _).alloc (Nat.le_refl _) _
          have oB := hown.below hbB
          have hgo : g < wo.heap.size := (hown.lt g rfl).2
          have bB : Below w.heap.size w (wo.alloc (.cells #[.int .i64 fn, .int .i64 tn, .int .i64 am] 42)) := hbl.alloc hbl.size _
          have hxB : (wo.alloc (.cells #[.int .i64 fn, .int .i64 tn, .int .i64 am] 42)).heap[wo.heap.size]? = some (.cells #[.int .i64 fn, .int .i64 tn, .int .i64 am] 42 (0, 0)) := heap_alloc_new _ _
          have cF := oB.cell HYL.out fn hfn
          have fF' := oB.frozen HYL.out fn
          have s1 := oB.set HYL.out fn (ys.getD fn 0 + am)
          have l1 : (ys.set fn (ys.getD fn 0 + am)).length = xs.length := by rw [List.length_set]; exact HYL.out
          have o1 := s1.1.kept (grown_drewA (World.grownBy.refl _ none)) (.inr (by simp [Value.ownBlock]))
          have cT := o1.cell l1 tn htn
          have fT := o1.frozen l1 tn
          have hTv : (ys.set fn (ys.getD fn 0 + am)).getD tn 0 = ys.getD tn 0 := by rw [getD_setI _ _ _ _ (by rw [HYL.out]; exact htn), if_neg hne]
          have s2 := o1.set l1 tn ((ys.set fn (ys.getD fn 0 + am)).getD tn 0 - am)
          rw [← HAP.out] at s2
          rw [hTv] at cT s2
          have hbx1 : ∀ q, q < 3 → (((wo.alloc (.cells #[.int .i64 fn, .int .i64 tn, .int .i64 am] 42)).setCell ⟨g, fn, none⟩ (.int .i64 (ys.getD fn 0 + am))).drew).cell? ⟨wo.heap.size, q, none⟩ = (wo.alloc (.cells #[.int .i64 fn, .int .i64 tn, .int .i64 am] 42)).cell? ⟨wo.heap.size, q, none⟩ := fun q _ => by
            have hx2 := (heap_setCell_other (wo.alloc (.cells #[.int .i64 fn, .int .i64 tn, .int .i64 am] 42)) ⟨g, fn, none⟩ wo.heap.size (.int .i64 (ys.getD fn 0 + am)) (by simp; omega)).trans hxB
            rw [cell_of_row _ _ q _ _ _ hxB]
            exact cell_of_row _ _ q _ _ _ hx2
          have x0 := (hbx1 0 (by decide)).trans (show _ = some (.int .i64 (fn : Int)) by rw [cell_of_row _ _ 0 _ _ _ hxB]; rfl)
          have x1 := (hbx1 1 (by decide)).trans (show _ = some (.int .i64 (tn : Int)) by rw [cell_of_row _ _ 1 _ _ _ hxB]; rfl)
          have x2 := (hbx1 2 (by decide)).trans (show _ = some (.int .i64 am) by rw [cell_of_row _ _ 2 _ _ _ hxB]; rfl)
          have b1 : Below w.heap.size w ((wo.alloc (.cells #[.int .i64 fn, .int .i64 tn, .int .i64 am] 42)).setCell ⟨g, fn, none⟩ (.int .i64 (ys.getD fn 0 + am))).drew := (bB.setCell (by exact hgl.1) _).drew
          clear hbx1 hxB hTv l1
          generalize ys.getD fn 0 = yf at *
          generalize ys.getD tn 0 = yt at *
          have HCM : Hid ((wo.alloc (.cells #[.int .i64 fn, .int .i64 tn, .int .i64 am] 42)).setCell ⟨g, fn, none⟩ (.int .i64 (yf + am)) = (wo.setCell ⟨g, fn, none⟩ (.int .i64 (yf + am))).alloc (.cells #[.int .i64 fn, .int .i64 tn, .int .i64 am] 42)) := by show _ = _; go_simp
          have S2 := Lib.hid s2
          have B1 := Lib.hid b1
          have X0 := Lib.hid x0
          have X1 := Lib.hid x1
          have X2 := Lib.hid x2
          have CT := Lib.hid cT
          have FT := Lib.hid fT
          clear s1 s2 o1 b1 x0 x1 x2 cT fT hown oB hbl bB
          go_wp2_with (go_at_call 88; refine (inRange_spec _ _ _ _).mono ?_; rintro e w' ⟨rfl, rfl⟩)
          go_region
          have b1 := B1.out
          have x0 := X0.out
          have x1 := X1.out
          have x2 := X2.out
          have cT := CT.out
          have fT := FT.out
          have hcomm : (wo.alloc (.cells #[.int .i64 fn, .int .i64 tn, .int .i64 am] 42)).setCell ⟨g, fn, none⟩ (.int .i64 (yf + am)) = (wo.setCell ⟨g, fn, none⟩ (.int .i64 (yf + am))).alloc (.cells #[.int .i64 fn, .int .i64 tn, .int .i64 am] 42) := HCM.out
          rw [hcomm] at b1 x0 x1 x2 cT fT S2
          generalize ((wo.setCell ⟨g, fn, none⟩ (.int .i64 (yf + am))).alloc (.cells #[.int .i64 fn, .int .i64 tn, .int .i64 am] 42)).drew = W1 at *
          clear hcomm HCM
          clear B1 X0 X1 X2 CT FT cF fF' hbB
          go_wp2
          go_region
          have b2 : Below w.heap.size w (W1.setCell ⟨g, tn, none⟩ (.int .i64 (yt - am))).drew := (b1.setCell (by exact hgl.1) _).drew
          have o2 := S2.out.1.kept (grown_drewA (World.grownBy.refl _ none)) (.inr (by simp [Value.ownBlock]))
          have O2 := Lib.hid o2
          clear o2 S2 cT fT x0 x1 x2
          go_wp2
          go_roundw
          case rel => exact ⟨i + 1, _, by omega, by go_num, by rw [applyP_length]; exact HYL.out, HST2.out, by have h := HWA.out; rw [show (300 : Int) + 600 * ((i + 1 : Nat) : Int) = 300 + 600 * (i : Int) + 600 by omega]; exact h, O2.out, b2⟩
          case measure => simp [intOf]; omega
        · have hie : i = st.length := by omega
          subst hie
          have haf := HAF.out
          rw [Nat.sub_self] at haf
          change some ys = _ at haf
          have E2 : Hid (afterL xs st = if vBal ys = true then some ys else none) := by show _ = _; rw [E.out, ← haf]; rfl
          have HVB := Lib.hid (validBalances_spec (sl g xs.length capg) ys wo (by have h := hown.ints; exact h) (by rw [HYL.out]; omega))
          clear haf HAF E
          cases hvb : vBal ys
          · have E3 : Hid (afterL xs st = none) := by show _ = _; rw [E2.out, hvb]; rfl
            have h := HVB.out
            rw [hvb] at h
            have HV3 := Lib.hid h
            clear h hown hvb
            go_wp2_with fail
            refine HV3.out.mono ?_
            rintro e w' ⟨rfl, rfl⟩
            go_wp2
            go_ret2
            exact ⟨_, by rw [E3.out]; rfl, by rw [E3.out]; exact ⟨rfl, .inl ⟨rfl, rfl⟩⟩, hbl⟩
          · have E3 : Hid (afterL xs st = some ys) := by show _ = _; rw [E2.out, if_pos hvb]
            have h := HVB.out
            rw [hvb] at h
            have HV3 := Lib.hid h
            have HO := Lib.hid hown
            clear h hown hvb
            go_wp2_with fail
            refine HV3.out.mono ?_
            rintro e w' ⟨rfl, rfl⟩
            go_wp2
            go_ret2
            exact ⟨_, by rw [E3.out]; rfl, by rw [E3.out]; exact HO.out, hbl⟩

end Go.Proofs.Ytbedjebnllimpaa
