/- The law FnAfterPays: the walk, out of the contract of the program's function that is handed in. -/
import Derived.Test.YtbedjebnllimpaaOwnH
import Derived.Test.YtbedjebnllimpaaAftS
import Derived.Test.YtbedjebnllimpaaAftP
import Derived.Test.YtbedjebnllimpaaAftD
import Derived.Test.YtbedjebnllimpaaPaySt
import Derived.Test.YtbedjebnllimpaaTotC
import Derived.Test.YtbedjebnllimpaaEqQuiet
namespace Go.Proofs.Ytbedjebnllimpaa
open Go.RowKit

def AfterC2 : Prop := ∀ (v u : Value) (xs : List Int) (st : List (Int × Int × Int)) (w : World), IsInts w v xs → xs.length ≤ 9223372036854775807 → IsPays w u st → st.length ≤ 9223372036854775807 → Calls Try.prog 44 #[v, u] w fun e w' => ∃ v', e = .returned (.tuple #[v', .bool (afterL xs st).isSome]) ∧ IsInts w' v' ((afterL xs st).getD []) ∧ Below w.heap.size w w'

theorem afterL_some {xs ys : List Int} {st : List (Int × Int × Int)} (h : afterL xs st = some ys) : vBal xs = true ∧ st.length ≤ 12 ∧ vBal ys = true ∧ afterL ys (backP st) = some xs := by
  unfold afterL at h
  by_cases e : vBal xs = true ∧ st.length ≤ 12
  · rw [if_pos e, afterF_list] at h
    cases hr : afterR st xs with
    | none => rw [hr] at h; cases h
    | some zs =>
      rw [hr] at h
      change (if vBal zs = true then some zs else none) = some ys at h
      by_cases e2 : vBal zs = true
      · rw [if_pos e2] at h
        simp only [Option.some.injEq] at h
        subst h
        refine ⟨e.1, e.2, e2, ?_⟩
        have hb := afterR_back st xs zs hr
        have hlb : (backP st).length ≤ 12 := by unfold backP; simp; exact e.2
        rw [afterL, if_pos ⟨e2, hlb⟩, afterF_list, hb]
        change (if vBal xs = true then some xs else none) = some xs
        rw [if_pos e.1]
      · rw [if_neg e2] at h; cases h
  · rw [if_neg e] at h; cases h

theorem backP_drop (st : List (Int × Int × Int)) (q : Nat) (hq : q < st.length) : backP (st.drop q) = backP (st.drop (q + 1)) ++ [(pT st q, pF st q, pA st q)] := by
  rw [List.drop_eq_getElem_cons hq]
  unfold backP
  rw [List.map_cons, List.reverse_cons]
  have e : st[q] = (pF st q, pT st q, pA st q) := by simp [pF, pT, pA, List.getD, hq]
  rw [e]
theorem backP_length (st : List (Int × Int × Int)) : (backP st).length = st.length := by simp [backP]

set_option maxRecDepth 100000 in
set_option maxHeartbeats 6400000 in
theorem FnAfterPays_of (AI : AfterC2) (a : Option Addr) (n cap : Nat) (w : World) (h : IsBytes w a n) (hc : n ≤ cap) :
    Calls Try.prog 9 #[.slice a n cap] w fun e w' => e = .returned (.bool true) ∧ Below w.heap.size w w' := by
  by_cases hbig : (1048576 : Int) < (n : Int)
  · clear AI
    go_enter Try.func9, Try.ntmps9
    go_wp2
    go_ret
    exact ⟨rfl, Below.refl _ _⟩
  · have HAI := Lib.hid AI
    clear AI
    go_enter Try.func9, Try.ntmps9
    go_wp2_with fail
    refine (DrawAfterPays_any a n cap w h hc).mono ?_
    rintro e w1 ⟨v, xs, z, st, rfl, i1, hb, z1, pb, b1⟩
    have hx6 := hb.1
    have hs6 := pb.1
    have HPB := Lib.hid pb
    have I1 := Lib.hid i1
    have Z1 := Lib.hid z1
    obtain ⟨av, cv, rfl, _⟩ := i1
    obtain ⟨az, cz, rfl, _⟩ := z1
    go_wp2_with fail
    refine (HAI.out _ _ xs st _ I1.out (by omega) Z1.out (by omega)).mono ?_
    rintro e w2 ⟨v1, rfl, r2, hb2⟩
    have b2 : Below w.heap.size w w2 := b1.trans (hb2.mono b1.size)
    have i2 := I1.out.below hb2
    have z2 := Z1.out.below hb2
    clear I1 Z1 hb2
    go_wp2_with fail
    refine (AfterPays_spec _ _ xs st _ i2 (by omega) z2 (by omega)).mono ?_
    rintro e w3 ⟨v2, rfl, r3, hb3⟩
    have b3 : Below w.heap.size w w3 := b2.trans (hb3.mono b2.size)
    have i3 := i2.below hb3
    have z3 := z2.below hb3
    have r2b := r2.below hb3
    clear i2 z2 r2 hb3
    cases hR : afterL xs st with
    | none =>
      rw [hR] at r2b r3
      rw [Option.isSome_none]
      have R2 := Lib.hid r2b
      have R3 := Lib.hid r3
      go_wp2_with fail
      refine (equalInts_any _ _ [] [] _ R2.out R3.out.ints (by decide)).mono ?_
      rw [decide_eq_true rfl]
      rintro e w4 ⟨rfl, hb4⟩
      have b4 : Below w.heap.size w w4 := b3.trans (hb4.mono b3.size)
      go_wp2_with fail
      refine (equalInts_any _ _ [] [] _ (R2.out.below hb4) (R3.out.ints.below hb4) (by decide)).mono ?_
      rw [decide_eq_true rfl]
      rintro e w5 ⟨rfl, hb5⟩
      have b5 : Below w.heap.size w w5 := b4.trans (hb5.mono b4.size)
      go_wp2
      go_ret
      exact ⟨rfl, b5⟩
    | some ys =>
      rw [hR] at r2b r3
      rw [Option.isSome_some]
      rw [Option.getD_some] at r2b r3
      obtain ⟨hv, hl12, hvy, hback⟩ := afterL_some hR
      obtain ⟨hyb, hyn, hyt⟩ := (vBal_iff ys).1 hvy
      have HBK := Lib.hid hback
      have HYT := Lib.hid hyt
      have HSF : Hid (SumFits ys) := sumFits_abs ys 300 hyb (by decide) (by omega)
      clear hv hvy hback hyt hyb hR
      go_wp2_with fail
      refine (equalInts_any _ _ ys ys _ r2b r3.ints (by omega)).mono ?_
      rw [decide_eq_true rfl]
      rintro e w4 ⟨rfl, hb4⟩
      have b4 : Below w.heap.size w w4 := b3.trans (hb4.mono b3.size)
      have i4 := i3.below hb4
      have z4 := z3.below hb4
      have r4 := r2b.below hb4
      clear i3 z3 r2b r3 hb4
      have I4 := Lib.hid i4
      have R4 := Lib.hid r4
      obtain ⟨a1, c1, rfl, _⟩ := r4
      obtain ⟨az', cz', ez, hcz⟩ := z4
      simp only [Value.slice.injEq, true_and] at ez
      obtain ⟨rfl, rfl⟩ := ez
      have HCZ := Lib.hid hcz
      have op := own_emptyP w4 w4.heap.size (Nat.le_refl _)
      have hb5 : Below w4.heap.size w4 (w4.alloc (.cells #[] 42)) := (Below.refl _ _).alloc (Nat.le_refl _) _
      clear hcz i4
      go_wp2
      go_loopg [9, 10] st.length (fun gq bv iv wr => gq ≤ st.length ∧ iv = .int .i64 ((gq : Int) - 1) ∧ OwnP wr w4.heap.size bv (backP (st.drop gq)) ∧ Below w4.heap.size w4 wr)
      case atStart => exact ⟨Nat.le_refl _, by go_num, by simpa [backP] using op, hb5⟩
      case round =>
        obtain ⟨hq, rfl, hown, hbl⟩ := hrel
        rename World => wr
        clear op hb5
        have hlb := backP_length (st.drop gk)
        have hld : (backP (st.drop gk)).length ≤ 6 := by rw [hlb, List.length_drop]; omega
        clear hlb
        cases gk with
        | succ q =>
          rw [show (((q + 1 : Nat) : Int) - 1) = (q : Int) by omega]
          have hql : q < st.length := by omega
          obtain ⟨b, off, rfl, k0, k1, k2⟩ := HCZ.out q hql
          have hbb : b < w4.heap.size := World.block_lt_of_cell? w4 _ k0
          have d0 := (hbl.cell (p := ⟨b, off + q * 3, none⟩) hbb).trans k0
          have d1 := (hbl.cell (p := ⟨b, off + q * 3 + 1, none⟩) hbb).trans k1
          have d2 := (hbl.cell (p := ⟨b, off + q * 3 + 2, none⟩) hbb).trans k2
          have i1 : (q : Int) < (st.length : Int) := by omega
          have HBD := Lib.hid (backP_drop st q hql)
          clear k0 k1 k2
          generalize pF st q = f at *
          generalize pT st q = t at *
          generalize pA st q = am at *
          have bL : Below wr.heap.size wr (wr.alloc (.cells #[.int .i64 t, .int .i64 f, .int .i64 am] 42)).drew := ((Below.refl wr.heap.size wr).alloc (Nat.le_refl _) _).drew
          have oA := Lib.hid (hown.below bL)
          have hx : (wr.alloc (.cells #[.int .i64 t, .int .i64 f, .int .i64 am] 42)).drew.heap[wr.heap.size]? = some (.cells #[.int .i64 t, .int .i64 f, .int .i64 am] 42 (0, 0)) := heap_alloc_new _ _
          have x0 : Hid ((wr.alloc (.cells #[.int .i64 t, .int .i64 f, .int .i64 am] 42)).drew.cell? ((⟨wr.heap.size, 0, none⟩ : Addr).add 0) = some (.int .i64 t)) := by show _ = _; rw [Go.WideShapes.add_plain, cell_of_row _ _ _ _ _ _ hx]; rfl
          have x1 : Hid ((wr.alloc (.cells #[.int .i64 t, .int .i64 f, .int .i64 am] 42)).drew.cell? ((⟨wr.heap.size, 0, none⟩ : Addr).add 1) = some (.int .i64 f)) := by show _ = _; rw [Go.WideShapes.add_plain, cell_of_row _ _ _ _ _ _ hx]; rfl
          have x2 : Hid ((wr.alloc (.cells #[.int .i64 t, .int .i64 f, .int .i64 am] 42)).drew.cell? ((⟨wr.heap.size, 0, none⟩ : Addr).add 2) = some (.int .i64 am)) := by show _ = _; rw [Go.WideShapes.add_plain, cell_of_row _ _ _ _ _ _ hx]; rfl
          have hsA : w4.heap.size ≤ (wr.alloc (.cells #[.int .i64 t, .int .i64 f, .int .i64 am] 42)).drew.heap.size := Nat.le_trans hbl.size bL.size
          have hsr := hbl.size
          clear hx hown
          go_wp2
          go_region_held3 (fun w' => w'.cell? ⟨b, off + q * 3, none⟩ = some (.int .i64 f) ∧ w'.cell? ⟨b, off + q * 3 + 1, none⟩ = some (.int .i64 t) ∧ w'.cell? ⟨b, off + q * 3 + 2, none⟩ = some (.int .i64 am))
            (first
              | go_keep
              | (go_split_ands
                 exact ⟨(hbl2.cell (by exact hbb)).trans (by assumption), (hbl2.cell (by exact hbb)).trans (by assumption), (hbl2.cell (by exact hbb)).trans (by assumption)⟩))
            (first
              | (refine step_pushP (s := .tmp 62) (B := w4.heap.size) oA.out x0.out x1.out x2.out (by omega) hsA (h := ?_); intro v7 w7 own2 hgrow2 hbl2))
          have O7 : Hid (OwnP w7 w4.heap.size v7 (backP (st.drop q))) := by show OwnP _ _ _ _; rw [HBD.out]; exact own2
          have b7 : Below w4.heap.size w4 w7 := (hbl.trans (bL.mono hsr)).trans hbl2
          clear own2 hgrow2 hbl2 oA x0 x1 x2
          go_wp2
          go_roundg q
          case measure => omega
          case rel => exact ⟨by omega, by go_num, O7.out, b7⟩
        | zero =>
          have b8 : Below w.heap.size w wr := b4.trans (hbl.mono b4.size)
          have r8 := R4.out.below hbl
          have i8 := I4.out.below hbl
          rw [List.drop_zero] at hown
          have hcall := HAI.out _ _ ys (backP st) wr r8 (by omega) hown.pays (by rw [backP_length]; omega)
          rw [HBK.out, Option.isSome_some] at hcall
          have HCALL := Lib.hid hcall
          have hneg : ¬ ((0 : Int) ≤ ((0 : Nat) : Int) - 1) := by decide
          obtain ⟨ab, cb, rfl, _⟩ := hown.pays
          clear hcall hown
          go_wp2_with fail
          refine HCALL.out.mono ?_
          rintro e w9 ⟨v9, rfl, i9, hb9⟩
          rw [Option.getD_some] at i9
          have b9 : Below w.heap.size w w9 := b8.trans (hb9.mono b8.size)
          have r9 := r8.below hb9
          have li9 := i8.below hb9
          have HT := total_any _ ys w9 r9 (by omega) HSF.out
          rw [HYT.out] at HT
          have HT2 := Lib.hid HT
          clear HT r8 i8 hb9
          go_wp2_with fail
          refine HT2.out.mono ?_
          rintro e w' ⟨rfl, rfl⟩
          go_wp2_with fail
          refine (equalInts_any _ _ xs xs _ i9 li9 (by omega)).mono ?_
          rw [decide_eq_true rfl]
          rintro e w10 ⟨rfl, hb10⟩
          go_wp2
          go_ret
          exact ⟨rfl, b9.trans (hb10.mono b9.size)⟩

end Go.Proofs.Ytbedjebnllimpaa
