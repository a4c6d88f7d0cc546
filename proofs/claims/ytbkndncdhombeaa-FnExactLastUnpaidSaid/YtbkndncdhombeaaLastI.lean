/- LastUnpaid, the program's contract. -/
import Derived.Test.YtbkndncdhombeaaBoolT
import Derived.Test.YtbkndncdhombeaaCoinI
import Derived.Test.YtbkndncdhombeaaCoinB
namespace Go.Proofs.Ytbkndncdhombeaa
open Go.RowKit

set_option maxRecDepth 100000 in
set_option maxHeartbeats 1600000 in
theorem commonDivisor_impl (v : Value) (cs : List Int) (w : World) (hv : IsInts w v cs) (h1 : vCoins cs = true) :
    Calls Try.prog 56 #[v] w fun e w' => e = .returned (.int .i64 (gcdL cs)) ∧ Below w.heap.size w w' := by
  obtain ⟨l1, l5⟩ := vc_len h1
  obtain ⟨b, off, cap, rfl, hbw, hc⟩ := id (hv.at0 l1)
  have HC := Lib.hid hc
  have HAT := Lib.hid (fun (i : Nat) => vc_at h1 (i := i))
  have HGL := Lib.hid (fun (i : Nat) => gcdL_le h1 i)
  have HGS : Hid (∀ i, i < cs.length → gcdL (cs.take (i + 1)) = ((Nat.gcd (gcdL (cs.take i)).toNat (cs.getD i 0).toNat : Nat) : Int)) := fun i hi => by
    rw [take_snoc cs hi, gcdL_snoc]
  have HG0 : Hid (gcdL (cs.take 0) = 0) := by show _ = _; simp [gcdL]
  clear hc h1 hv
  go_enter Try.func56, Try.ntmps56
  go_wp2
  go_loopw [3, 5, 8] (fun gv _ iv wr => ∃ i : Nat, i ≤ cs.length ∧ iv = .int .i64 i ∧ gv = .int .i64 (gcdL (cs.take i)) ∧ Below w.heap.size w wr) (fun _ _ iv _ => cs.length - (intOf iv).toNat)
  case atStart => exact ⟨0, Nat.zero_le _, rfl, by rw [HG0.out], Below.refl _ _⟩
  case round =>
    obtain ⟨i, hi, rfl, rfl, hbl⟩ := hrel
    rename World => wr
    by_cases hlt : i < cs.length
    · have i1 : (i : Int) < (cs.length : Int) := by omega
      have ci := (hbl.cell (p := ⟨b, off + i, none⟩) hbw).trans (HC.out i hlt)
      have hat := HAT.out i hlt
      have hgl := HGL.out i
      have HN := Lib.hid (HGS.out i hlt)
      obtain ⟨c, hcn⟩ : ∃ c : Nat, cs.getD i 0 = c := ⟨(cs.getD i 0).toNat, by omega⟩
      obtain ⟨g, hgn⟩ : ∃ g : Nat, gcdL (cs.take i) = g := ⟨(gcdL (cs.take i)).toNat, by omega⟩
      rw [hcn] at ci hat
      rw [hgn] at hgl ⊢
      have HN2 : Hid (gcdL (cs.take (i + 1)) = ((Nat.gcd g c : Nat) : Int)) := by
        have := HN.out
        rw [hcn, hgn] at this
        exact this
      clear hcn hgn HN
      go_wp2
      go_loopw [3, 5] (fun xv yv wx => ∃ x y : Nat, xv = .int .i64 x ∧ yv = .int .i64 y ∧ x ≤ 30 ∧ y ≤ 30 ∧ Nat.gcd x y = Nat.gcd g c ∧ Below w.heap.size w wx) (fun _ yv _ => (intOf yv).toNat)
      case atStart => exact ⟨g, c, rfl, rfl, by omega, by omega, rfl, hbl⟩
      case round =>
        clear hbl ci
        obtain ⟨x, y, rfl, rfl, hx, hy, hg, hbl⟩ := hrel
        rename World => wx
        have HG := Lib.hid hg
        clear hg
        by_cases h : y = 0
        · subst h
          have HX : Hid (gcdL (cs.take (i + 1)) = (x : Int)) := by show _ = _; rw [HN2.out, ← HG.out, Nat.gcd_zero_right]
          have hb0 : (((0 : Nat) : Int) != 0) = false := by simp
          go_wp2
          go_roundw
          case rel => exact ⟨i + 1, by omega, by go_num, by rw [HX.out], hbl⟩
          case measure => simp [intOf]; omega
        · have y1 : (0 : Int) < (y : Int) := by omega
          have y2 : (y : Int) ≠ 0 := by omega
          have hb0 : ((y : Int) != 0) = true := by simp; omega
          have hm0 := Int.emod_nonneg (x : Int) y2
          have hm1 := Int.emod_lt_of_pos (x : Int) y1
          have l3 : x % y < y := Nat.mod_lt _ (by omega)
          have HNG : Hid (Nat.gcd y (x % y) = Nat.gcd g c) := by
            show _ = _
            rw [← HG.out, Nat.gcd_comm y (x % y), ← Nat.gcd_rec y x, Nat.gcd_comm]
          have hbz := hbl.size
          have HBD : Hid (∀ q, Below w.heap.size w (wx.drewN q)) := fun q => below_drewNC hbl hbz q
          go_wp2
          go_quiet (fail)
          go_wp2
          go_roundw
          case rel => exact ⟨y, x % y, rfl, by go_num, by omega, by omega, HNG.out, HBD.out _⟩
          case measure => simp [intOf]; omega
    · obtain rfl : i = cs.length := by omega
      rw [List.take_length]
      go_wp2
      go_ret
      exact ⟨rfl, hbl⟩

theorem enter_or (args : Array Value) (w : World) : (callFunc 59 args).run Try.prog w = .ok (.enter 59 args) w := by rfl

set_option maxHeartbeats 800000 in
theorem or_impl (u y z : Bool) (w : World) (h : z = (u || y)) :
    Calls Try.prog 59 #[.bool u, .bool y] w fun e w' => e = .returned (.bool z) ∧ w = w' := by
  subst h
  cases u <;> cases y <;>
  · go_enter Try.func59, Try.ntmps59
    go_wp2
    go_ret
    exact ⟨rfl, rfl⟩

set_option maxRecDepth 100000 in
set_option maxHeartbeats 3200000 in
theorem LastUnpaid_impl (v : Value) (cs : List Int) (w : World) (hv : IsInts w v cs) (hl : cs.length ≤ 9223372036854775807) :
    Calls Try.prog 35 #[v] w fun e w' => e = .returned (.tuple #[.int .i64 (lastP cs).1, .int .i64 (lastP cs).2, .bool (cLast cs)]) ∧ Below w.heap.size w w' := by
  have HVC := Lib.hid (fun r => ValidCoins_iat v cs r w hv hl)
  have HNO : Hid (cLast cs = false → (lastP cs).1 = 0 ∧ (lastP cs).2 = 0) := fun h => by unfold lastP; rw [h]; exact ⟨rfl, rfl⟩
  cases h1 : vCoins cs
  · have E : Hid (cLast cs = false) := by show _ = _; unfold cLast; rw [h1]; rfl
    go_enter Try.func35, Try.ntmps35
    go_wp2_with (go_at_call 16; refine (HVC.out _ h1).mono ?_; rintro e w' ⟨rfl, hd⟩)
    go_ret3
    exact ⟨ret_last (HNO.out E.out).1.symm (HNO.out E.out).2.symm E.out.symm, hd.below⟩
  obtain ⟨l1, l5⟩ := vc_len h1
  have hp := vc_pos h1
  have HGP : 1 ≤ gcdL cs := gcdL_pos hp (by intro h; rw [h] at l1; simp at l1)
  have HV := Lib.hid hv
  have HCD := Lib.hid (fun (w1 : World) (hv1 : IsInts w1 v cs) => commonDivisor_impl v cs w1 hv1 h1)
  have H1 := Lib.hid h1
  by_cases hg : gcdL cs = 1
  · have E1 : Hid (cLast cs = true) := by show _ = _; unfold cLast; rw [h1, decide_eq_true hg]; rfl
    have E2 : Hid (lastP cs = lastU (fun x => pyB cs x) 900) := by show _ = _; unfold lastP; rw [if_pos E1.out]
    have HW := Lib.hid (fun w1 => withoutCoins_bool 900 true false w1 (by omega))
    have HT0 : Hid (tabZ (fun j => if j = 0 then true else false) 900 = tabZ (pyB []) 900) := tabZ_congr (fun j _ => by rw [py_nil]; by_cases h : (j : Int) = 0 <;> simp [h])
    have HB : Hid (∀ (g cap : Nat) (w0 w2 : World), IsInts w0 v cs → Below w0.heap.size w0 w2 → w0.heap.size ≤ g → OwnZ w2 w0.heap.size (sl g (900 + 1) cap) (tabZ (fun j => if j = 0 then true else false) 900) → Calls Try.prog 57 #[v, sl g (900 + 1) cap, .func (.func 59) #[] #[]] w2 fun e w' => e = .returned (sl g (900 + 1) cap) ∧ OwnZ w' w0.heap.size (sl g (900 + 1) cap) (tabZ (pyB cs) 900) ∧ Below w0.heap.size w0 w') := fun g cap w0 w2 hv0 hb hg0 ho => by
      rw [HT0.out] at ho
      refine byCoins_bool _ enter_or pyB cs v 900 g cap w0 w2 hv0 (fun i hi => vc_at h1 hi) l5 hb hg0 ho (by omega) (fun i hi j h1' h2 => ?_) (fun i hi x h1' h2 wx => ?_)
      · have hp' : Pos (cs.take i ++ [cs.getD i 0]) := by rw [← take_snoc cs hi]; exact hp.take _
        rw [take_snoc cs hi]
        exact py_snoc_less hp' h1'
      · have hp' : Pos (cs.take i ++ [cs.getD i 0]) := by rw [← take_snoc cs hi]; exact hp.take _
        refine or_impl _ _ _ wx ?_
        rw [take_snoc cs hi]
        exact py_snoc hp'
    rw [hg] at HCD
    have hg1 : decide ((1 : Int) < 1) = false := by decide
    obtain ⟨av, cp, rfl, _⟩ := id hv
    clear hp HGP hg h1 hv
    go_enter Try.func35, Try.ntmps35
    go_wp2_with (first
      | (go_at_call 16; refine (HVC.out _ H1.out).mono ?_; rintro e w1 ⟨rfl, hd⟩; have hv1 := HV.out.below hd.below)
      | (go_at_call 56; refine (HCD.out _ hv1).mono ?_; rintro e w2 ⟨rfl, hb2⟩)
      | (go_at_call 58; refine (HW.out _).mono ?_; rintro e w3 ⟨g, cap, rfl, hg, hown, hb3⟩)
      | fail)
    have b2 : Below w.heap.size w w2 := hd.below.trans (hb2.mono hd.below.size)
    have hv2 := HV.out.below b2
    refine (HB.out g cap w2 w3 hv2 hb3 hg hown).mono ?_
    rintro e w4 ⟨rfl, ho4, hb4⟩
    have b4 : Below w.heap.size w w4 := b2.trans (hb4.mono b2.size)
    have ho5 := ho4.base b2.size
    have HLB := Lib.hid (lastU_facts (fun x : Nat => pyB cs (x : Int)))
    have HSU : Hid (∀ (t : Nat) (q : Bool), pyB cs ((t + 1 : Nat) : Int) = q → lastU (fun x : Nat => pyB cs (x : Int)) (t + 1) = if q = true then lastU (fun x : Nat => pyB cs (x : Int)) t else (((t + 1 : Nat) : Int), (lastU (fun x : Nat => pyB cs (x : Int)) t).2 + 1)) := fun t q h => by rw [← h]; rfl
    have HZ0 : Hid (pyB cs ((0 : Nat) : Int) = true) := (pyB_iff (vc_pos H1.out)).2 ⟨0, .zero⟩
    clear hown hb3 hv2 hv1 hb2 hd ho4 hb4 HB HW HCD HVC
    go_wp2
    go_loopw [6, 7, 8, 9, 23] (fun lv cv _ _ iv wr => ∃ i t : Nat, i ≤ 901 ∧ t = i - 1 ∧ iv = .int .i64 i ∧ cv = .int .i64 (lastU (fun x : Nat => pyB cs (x : Int)) t).2 ∧ lv = .int .i64 (lastU (fun x : Nat => pyB cs (x : Int)) t).1 ∧ OwnZ wr w.heap.size (sl g (900 + 1) cap) (tabZ (pyB cs) 900) ∧ Below w.heap.size w wr) (fun _ _ _ _ iv _ => 901 - (intOf iv).toNat)
    case atStart => exact ⟨0, 0, by omega, rfl, rfl, rfl, rfl, ho5, b4⟩
    case round =>
      clear ho5 b4 b2
      obtain ⟨i, t, hi, ht, rfl, rfl, rfl, hown, hbl⟩ := hrel
      rename World => wr
      by_cases hlt : i < 901
      · have i1 : (i : Int) < 900 + 1 := by omega
        have i2 : (i : Int) < 901 := by omega
        have c1 := hown.cell (tabZ_len _ _) i (by omega)
        rw [tabZ_at _ (by omega)] at c1
        have hlb := HLB.out t
        have HR : Hid (∀ q : Bool, pyB cs (i : Int) = q → lastU (fun x : Nat => pyB cs (x : Int)) i = if q = true then lastU (fun x : Nat => pyB cs (x : Int)) t else ((i : Int), (lastU (fun x : Nat => pyB cs (x : Int)) t).2 + 1)) := fun q hq => by
          cases i with
          | zero =>
            have : q = true := by rw [← hq]; exact HZ0.out
            rw [this, if_pos rfl, ht]
          | succ k =>
            have := HSU.out k q hq
            rw [this, ht, Nat.add_sub_cancel]
        have HR2 := Lib.hid (HR.out _ rfl)
        obtain ⟨g1, g2, g3, g4, _, _⟩ := hlb
        have t9 : t ≤ 900 := by omega
        have HRN : Hid (i + 1 - 1 = i) := Nat.add_sub_cancel i 1
        clear HR HLB HSU HZ0
        generalize lastU (fun x : Nat => pyB cs (x : Int)) t = L at *
        generalize pyB cs (i : Int) = q at *
        cases q
        · have HN : Hid (lastU (fun x : Nat => pyB cs (x : Int)) i = ((i : Int), L.2 + 1)) := by show _ = _; rw [HR2.out]; rfl
          clear HR2
          go_wp2
          go_roundw
          case rel => exact ⟨i + 1, i, by omega, HRN.out.symm, by go_num, by rw [HN.out], by rw [HN.out], hown, hbl⟩
          case measure => simp [intOf]; omega
        · have HN : Hid (lastU (fun x : Nat => pyB cs (x : Int)) i = L) := by show _ = _; rw [HR2.out]; rfl
          clear HR2
          go_wp2
          go_roundw
          case rel => exact ⟨i + 1, i, by omega, HRN.out.symm, by go_num, by rw [HN.out], by rw [HN.out], hown, hbl⟩
          case measure => simp [intOf]; omega
      · obtain rfl : i = 901 := by omega
        obtain rfl : t = 900 := by omega
        go_wp2
        go_ret3
        exact ⟨ret_last (by rw [E2.out]) (by rw [E2.out]) E1.out.symm, hbl⟩
  · have g2 : (1 : Int) < gcdL cs := by omega
    have E : Hid (cLast cs = false) := by show _ = _; unfold cLast; rw [decide_eq_false hg, Bool.and_false]
    clear hg HGP h1 hv
    generalize gcdL cs = g at *
    go_enter Try.func35, Try.ntmps35
    go_wp2_with (first
      | (go_at_call 16; refine (HVC.out _ H1.out).mono ?_; rintro e w1 ⟨rfl, hd⟩; have hv1 := HV.out.below hd.below)
      | (go_at_call 56; refine (HCD.out _ hv1).mono ?_; rintro e w2 ⟨rfl, hb2⟩))
    go_ret3
    exact ⟨ret_last (HNO.out E.out).1.symm (HNO.out E.out).2.symm E.out.symm, hd.below.trans (hb2.mono hd.below.size)⟩

end Go.Proofs.Ytbkndncdhombeaa
