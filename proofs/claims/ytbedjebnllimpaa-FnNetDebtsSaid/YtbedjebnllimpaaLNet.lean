/- The law FnNetDebts: the walk. -/
import Derived.Test.YtbedjebnllimpaaOwnH
import Derived.Test.YtbedjebnllimpaaNetI
import Derived.Test.YtbedjebnllimpaaNetS
import Derived.Test.YtbedjebnllimpaaGoI
import Derived.Test.YtbedjebnllimpaaDebtDD
import Derived.BigQuiet
namespace Go.Proofs.Ytbedjebnllimpaa
open Go.RowKit

theorem sized_debts {g : List (List Int)} (h : vDebts g = true) : g.length ≤ 9223372036854775807 ∧ ∀ i, i < g.length → (rowOf g i).length ≤ 9223372036854775807 := by
  have h6 := ((vDebts_iff g).1 h).1.2
  exact ⟨by omega, fun i hi => by rw [vDebts_sq h i hi]; omega⟩

set_option maxRecDepth 100000 in
set_option maxHeartbeats 6400000 in
theorem FnNetDebts_walk (a : Option Addr) (n cap : Nat) (w : World) (h : IsBytes w a n) (hc : n ≤ cap) :
    Calls Try.prog 5 #[.slice a n cap] w fun e w' => e = .returned (.bool true) ∧ Below w.heap.size w w' := by
  by_cases hbig : (1048576 : Int) < (n : Int)
  · go_enter Try.func5, Try.ntmps5
    go_wp2
    go_ret
    exact ⟨rfl, Below.refl _ _⟩
  · go_enter Try.func5, Try.ntmps5
    go_wp2_with fail
    refine (DrawNetDebts_any a n cap w h hc).mono ?_
    rintro e w1 ⟨v, g, rfl, g1, r67, b1⟩
    have hsz := sized_rows r67.sized
    cases hv : vDebts g
    · have e0 : netL g = [] := by rw [netL, hv]; rfl
      have HI := Lib.hid (NetDebts_impl v g _ g1 hsz.1 hsz.2)
      go_wp2_with fail
      refine HI.out.mono ?_
      rw [e0]
      rintro e w2 ⟨z, rfl, z2, hb2⟩
      have b2 : Below w.heap.size w w2 := b1.trans (hb2.mono b1.size)
      have g2 := g1.below hb2
      have zg2 := z2.grid
      clear g1 hb2 z2
      have HS := Lib.hid (NetDebts_spec v g _ g2 hsz.1 hsz.2)
      go_wp2_with fail
      refine HS.out.mono ?_
      rw [e0]
      rintro e w3 ⟨y, rfl, y3, hb3⟩
      have b3 : Below w.heap.size w w3 := b2.trans (hb3.mono b2.size)
      have g3 := g2.below hb3
      have z3 := zg2.below hb3
      have HE := Lib.hid (equalLists_same _ _ [] _ z3 y3.grid (Nat.zero_le _) (fun i hi => absurd hi (Nat.not_lt_zero _)))
      clear g2 zg2 hb3 y3
      go_wp2_with fail
      refine HE.out.mono ?_
      rintro e w4 ⟨rfl, hb4⟩
      have b4 : Below w.heap.size w w4 := b3.trans (hb4.mono b3.size)
      have g4 := g3.below hb4
      have z4 := z3.below hb4
      have Z4 := Lib.hid z4
      obtain ⟨az, cz, rfl, _⟩ := z4
      have HS4 := Lib.hid (NetDebts_spec v g _ g4 hsz.1 hsz.2)
      clear g3 z3 hb4
      go_wp2_with fail
      refine HS4.out.mono ?_
      rw [e0]
      rintro e w5 ⟨y5, rfl, o5, hb5⟩
      have b5 : Below w.heap.size w w5 := b4.trans (hb5.mono b4.size)
      have HE5 := Lib.hid (equalLists_same _ _ [] _ (Z4.out.below hb5) o5.grid (Nat.zero_le _) (fun i hi => absurd hi (Nat.not_lt_zero _)))
      go_wp2_with fail
      refine HE5.out.mono ?_
      rintro e w6 ⟨rfl, hb6⟩
      have b6 : Below w.heap.size w w6 := b5.trans (hb6.mono b5.size)
      go_wp2
      go_ret
      exact ⟨rfl, b6⟩
    · obtain ⟨f1, f2, f3, f4, f5, f6⟩ := net_facts hv
      have hn := ((vDebts_iff g).1 hv).1
      have hn6 : g.length ≤ 6 := hn.2
      have sO := sized_debts f1
      have HGN := Lib.hid (goes_none f1 f3)
      have HSQ : Hid (∀ i, i < g.length → (rowOf g i).length = g.length) := fun i hi => vDebts_sq hv i hi
      have HSQ2 : Hid (∀ i, i < g.length → (rowOf (netL g) i).length = g.length) := fun i hi => by
        have := vDebts_sq f1 i (by rw [f2]; exact hi)
        rw [f2] at this; exact this
      have HB1 : Hid (balancesL g = balL g) := by show _ = _; rw [balancesL, if_pos hv]
      have HB2 : Hid (balancesL (netL g) = balL g) := by show _ = _; rw [balancesL, if_pos f1, f5]
      have HF6 := Lib.hid f6
      have HF1 := Lib.hid f1
      have HLE : Hid (∀ x y, x < g.length → y < g.length → cellOf (netL g) x y ≤ cellOf g x y) := f4
      have hbl : (balL g).length ≤ 9223372036854775807 := by rw [balL_len]; omega
      have HL2 := Lib.hid f2
      have hz0 : ((g.length : Int) == 0) = false := beq_eq_false_iff_ne.2 (by omega)
      clear f1 f2 f3 f4 f5 f6 hn
      have HI := Lib.hid (NetDebts_impl v g _ g1 hsz.1 hsz.2)
      go_wp2_with fail
      refine HI.out.mono ?_
      rintro e w2 ⟨z, rfl, z2, hb2⟩
      have b2 : Below w.heap.size w w2 := b1.trans (hb2.mono b1.size)
      have g2 := g1.below hb2
      have zg2 := z2.grid
      clear g1 hb2 z2
      have HS := Lib.hid (NetDebts_spec v g _ g2 hsz.1 hsz.2)
      go_wp2_with fail
      refine HS.out.mono ?_
      rintro e w3 ⟨y, rfl, y3, hb3⟩
      have b3 : Below w.heap.size w w3 := b2.trans (hb3.mono b2.size)
      have g3 := g2.below hb3
      have z3 := zg2.below hb3
      have HE := Lib.hid (equalLists_same _ _ (netL g) _ z3 y3.grid sO.1 sO.2)
      clear g2 zg2 hb3 y3
      go_wp2_with fail
      refine HE.out.mono ?_
      rintro e w4 ⟨rfl, hb4⟩
      have b4 : Below w.heap.size w w4 := b3.trans (hb4.mono b3.size)
      have g4 := g3.below hb4
      have z4 := z3.below hb4
      have Z4 := Lib.hid z4
      have G4 := Lib.hid g4
      clear g3 z3 hb4 HI HS HE
      obtain ⟨az, cz, rfl, _⟩ := z4
      obtain ⟨av, cv, rfl, _⟩ := g4
      rw [HL2.out]
      go_wp2
      go_loopw [5] (fun s wr => ∃ i : Nat, i ≤ g.length ∧ s = .int .i64 i ∧ Below w4.heap.size w4 wr) (fun s _ => g.length - (intOf s).toNat)
      case atStart => exact ⟨0, Nat.zero_le _, rfl, Below.refl _ _⟩
      case round =>
        obtain ⟨i, hi, rfl, hbw⟩ := hrel
        rename World => wo
        by_cases hlt : i < g.length
        · have i1 : (i : Int) < (g.length : Int) := by omega
          go_wp2
          go_loopw [6] (fun s wr => ∃ k : Nat, k ≤ g.length ∧ s = .int .i64 k ∧ Below w4.heap.size w4 wr) (fun s _ => g.length - (intOf s).toNat)
          case atStart => exact ⟨0, Nat.zero_le _, rfl, hbw⟩
          case round =>
            clear hbw
            obtain ⟨k, hk, rfl, hbw⟩ := hrel
            rename World => wi
            by_cases hlk : k < g.length
            · have k1 : (k : Int) < (g.length : Int) := by omega
              have zi := Z4.out.below hbw
              have gi := G4.out.below hbw
              rw [HL2.out] at zi
              obtain ⟨b, off, ar, cr, rfl, ci, cc⟩ := zi.row i (by rw [HL2.out]; exact hlt)
              obtain ⟨br, fr, rfl, ck⟩ := cc k (by rw [HSQ2.out i hlt]; exact hlk)
              obtain ⟨b2', off2, ar2, cr2, rfl, ci2, cc2⟩ := gi.row i hlt
              obtain ⟨br2, fr2, rfl, ck2⟩ := cc2 k (by rw [HSQ.out i hlt]; exact hlk)
              rw [HSQ2.out i hlt] at ci
              rw [HSQ.out i hlt] at ci2
              have hle := HLE.out i k hlt hlk
              have hnl : ¬ (cellOf g i k < cellOf (netL g) i k) := by omega
              have hnl2 : decide (cellOf g i k < cellOf (netL g) i k) = false := decide_eq_false hnl
              clear cc cc2 zi gi hle
              generalize cellOf g i k = x at *
              generalize cellOf (netL g) i k = y at *
              go_wp2
              go_quiet (fail)
              clear ck ck2 ci ci2 hnl hnl2
              go_wp2
              go_roundw
              case rel => exact ⟨k + 1, by omega, by go_num, below_drewN hbw _⟩
              case measure => simp [intOf]; omega
            · have hke : k = g.length := by omega
              subst hke
              go_wp2
              go_roundw
              case rel => exact ⟨i + 1, by omega, by go_num, hbw⟩
              case measure => simp [intOf]; omega
        · have hie : i = g.length := by omega
          subst hie
          have zi := Z4.out.below hbw
          have gi := G4.out.below hbw
          rw [HL2.out] at zi
          have b5 : Below w.heap.size w wo := b4.trans (hbw.mono b4.size)
          have hb1c := BalancesOf_impl _ (netL g) wo zi sO.1 sO.2
          rw [HB2.out] at hb1c
          have HBC := Lib.hid hb1c
          have ZI := Lib.hid zi
          have GI := Lib.hid gi
          clear zi gi hb1c
          go_wp2_with fail
          refine HBC.out.mono ?_
          rintro e w5 ⟨t5, rfl, o5, hb5⟩
          have b6 : Below w.heap.size w w5 := b5.trans (hb5.mono b5.size)
          have g6 := GI.out.below hb5
          have z6 := ZI.out.below hb5
          have hb2c := BalancesOf_impl _ g w5 g6 hsz.1 hsz.2
          rw [HB1.out] at hb2c
          have HBC2 := Lib.hid hb2c
          have Z6 := Lib.hid z6
          clear hb2c g6 z6 hb5
          go_wp2_with fail
          refine HBC2.out.mono ?_
          rintro e w6 ⟨t6, rfl, o6, hb6⟩
          have b7 : Below w.heap.size w w6 := b6.trans (hb6.mono b6.size)
          have z7 := Z6.out.below hb6
          have heq := equalInts_any _ _ (balL g) (balL g) _ (o5.below hb6).ints o6.ints hbl
          rw [decide_eq_true rfl] at heq
          have HEQ := Lib.hid heq
          clear heq
          have Z7 := Lib.hid z7
          clear z7 hb6 o5 o6
          go_wp2_with fail
          refine HEQ.out.mono ?_
          rintro e w7 ⟨rfl, hb7⟩
          have b8 : Below w.heap.size w w7 := b7.trans (hb7.mono b7.size)
          have z8 := Z7.out.below hb7
          have hgr := goesRound_any _ (netL g) w7 z8 HF1.out
          rw [HGN.out] at hgr
          have HGR := Lib.hid hgr
          have hni := NetDebts_impl _ (netL g) w7 z8 sO.1 sO.2
          rw [HF6.out] at hni
          have HNI := Lib.hid hni
          have Z8 := Lib.hid z8
          clear z8 hb7 hgr hni
          go_wp2_with (first | (go_at_call 32; refine HGR.out.mono ?_; rintro e w' ⟨rfl, rfl⟩) | (go_at_call 29; refine HNI.out.mono ?_))
          rintro e w9 ⟨t9, rfl, o9, hb9⟩
          have b9 : Below w.heap.size w w9 := b8.trans (hb9.mono b8.size)
          have HEL := Lib.hid (equalLists_same _ _ (netL g) _ o9.grid (Z8.out.below hb9) sO.1 sO.2)
          clear o9 hb9
          go_wp2_with fail
          refine HEL.out.mono ?_
          rintro e w10 ⟨rfl, hb10⟩
          have b10 : Below w.heap.size w w10 := b9.trans (hb10.mono b9.size)
          go_wp2
          go_ret
          exact ⟨rfl, b10⟩

end Go.Proofs.Ytbedjebnllimpaa
