/- The law FnJoinSteps: the walk. -/
import Derived.Test.YtmeejaafbbabaaaJoinS
import Derived.Test.YtmeejaafbbabaaaMarkS
namespace Go.Proofs.Ytmeejaafbbabaaa
open Go.RowKit

set_option maxHeartbeats 800000 in
theorem DrawJoinSteps_any (a : Option Addr) (n cap : Nat) (w : World) (h : IsBytes w a n) (hc : n ≤ cap) :
    Calls Try.prog 40 #[.slice a n cap] w fun e w' => ∃ (va vb : Value) (sa sb : List (Int × Int)), e = .returned (.tuple #[va, vb]) ∧ OwnS w' w.heap.size va sa ∧ OwnS w' w.heap.size vb sb ∧ sa.length ≤ 6 ∧ sb.length ≤ 6 ∧ Below w.heap.size w w' := by
  go_enter Try.func40, Try.ntmps40
  go_wp2_with fail
  refine (newReader_any a n cap _ h hc).mono ?_
  rintro e w1 ⟨rfl, h1, b1⟩
  go_wp2_with fail
  refine (someSteps_any _ _ _ _ _ h1 (by omega)).mono ?_
  rintro e w2 ⟨va, sa, rfl, o2, l2, h2, g2⟩
  have b2 := below_reader b1 g2
  have ne2 := o2.neBlock (show w.heap.size < w1.heap.size from h1.lt.2)
  go_wp2_with fail
  refine (someSteps_any _ _ _ _ _ h2 (by omega)).mono ?_
  rintro e w3 ⟨vb, sb, rfl, o3, l3, h3, g3⟩
  have b3 := below_reader b2 g3
  have o2a := (o2.kept g3 (.inr ne2)).base b1.size
  have o3a := o3.base b2.size
  go_wp2
  go_ret2
  exact ⟨_, _, _, _, rfl, o2a, o3a, l2, l3, b3⟩

theorem joinA_true {a b J : List (Int × Int)} (h : joinA a b = (J, true)) : vSteps a = true ∧ vSteps b = true ∧ vSteps (js a b 2001) = true ∧ J = js a b 2001 := by
  unfold joinA at h
  split at h
  · next hc =>
    rw [Bool.and_eq_true, Bool.and_eq_true] at hc
    simp only [Prod.mk.injEq, and_true] at h
    exact ⟨hc.1.1, hc.1.2, hc.2, h.symm⟩
  · simp at h

theorem joinA_len {a b J : List (Int × Int)} {ok : Bool} (h : joinA a b = (J, ok)) : J.length ≤ 2001 := by
  unfold joinA at h
  split at h
  · simp only [Prod.mk.injEq] at h
    rw [← h.1]
    exact js_len a b 2001
  · simp only [Prod.mk.injEq] at h
    rw [← h.1]
    simp

set_option maxRecDepth 100000 in
set_option maxHeartbeats 1600000 in
theorem FnJoinSteps_walk (a : Option Addr) (n cap : Nat) (w : World) (h : IsBytes w a n) (hc : n ≤ cap) :
    Calls Try.prog 10 #[.slice a n cap] w fun e w' => e = .returned (.bool true) ∧ Below w.heap.size w w' := by
  by_cases hbig : (1048576 : Int) < (n : Int)
  · go_enter Try.func10, Try.ntmps10
    go_wp2
    go_ret
    exact ⟨rfl, Below.refl _ _⟩
  · go_enter Try.func10, Try.ntmps10
    go_wp2_with fail
    refine (DrawJoinSteps_any a n cap _ h hc).mono ?_
    rintro e w1 ⟨va, vb, sa, sb, rfl, o1, p1, la, lb, b1⟩
    have s1 := o1.steps
    have t1 := p1.steps
    clear o1 p1 h
    obtain ⟨J, ok, hE⟩ : ∃ J ok, joinA sa sb = (J, ok) := ⟨_, _, rfl⟩
    have hJl := joinA_len hE
    have HE := Lib.hid hE
    go_wp2_with fail
    refine (JoinSteps_impl va vb sa sb w1 s1 t1 (by omega) (by omega)).mono ?_
    rintro e w2 ⟨vo, rfl, oo, hb2⟩
    rw [HE.out] at oo ⊢
    have b2 := b1.trans (hb2.mono b1.size)
    have s2 := s1.below hb2
    have t2 := t1.below hb2
    have u2 := oo.steps
    clear hb2 s1 t1 oo
    go_wp2_with fail
    refine (JoinSteps_spec va vb sa sb w2 s2 t2 (by omega) (by omega)).mono ?_
    rintro e w3 ⟨vw, rfl, ow, hb3⟩
    rw [HE.out] at ow ⊢
    have b3 := b2.trans (hb3.mono b2.size)
    have s3 := s2.below hb3
    have t3 := t2.below hb3
    have u3 := u2.below hb3
    have x3 := ow.steps
    clear hb3 s2 t2 u2 ow
    go_wp2_with fail
    refine (equalSteps_same vo vw J w3 u3 x3 (by omega)).mono ?_
    rintro e w4 ⟨rfl, hd4⟩
    have b4 := b3.trans (hd4.below.mono b3.size)
    have s4 := s3.below hd4.below
    have t4 := t3.below hd4.below
    have u4 := u3.below hd4.below
    have x4 := x3.below hd4.below
    clear hd4 s3 t3 u3 x3
    cases ok
    · clear hE HE
      go_wp2_with fail
      refine (equalSteps_same vo vw J w4 u4 x4 (by omega)).mono ?_
      rintro e w5 ⟨rfl, hd5⟩
      have b5 := b4.trans (hd5.below.mono b4.size)
      go_wp2
      go_ret
      exact ⟨rfl, b5⟩
    · obtain ⟨v1, v2, v3, hJ⟩ := joinA_true hE
      have hs1 := vSteps_iff.1 v1
      have hs2 := vSteps_iff.1 v2
      have hs3 := vSteps_iff.1 v3
      have V1 := Lib.hid v1
      have V2 := Lib.hid v2
      have V3 : Hid (vSteps J = true) := by show vSteps J = true; rw [hJ]; exact v3
      have TX : Hid (∀ k : Nat, k ≤ 2000 → taxT J k = taxT sa k + taxT sb k) := fun k hk => by rw [hJ]; exact js_tax hs1 hs2 hs3 k hk
      have RT : Hid (∀ i, 0 < i → i < J.length → rat J i ≠ rat J (i - 1)) := by show ∀ i, 0 < i → i < J.length → rat J i ≠ rat J (i - 1); rw [hJ]; exact (js_facts hs1 hs2 2000).2.2.2
      clear hE HE v1 v2 v3 hJ x4 hs3
      go_wp2
      go_loopw [9] (fun s wr => ∃ k : Nat, k ≤ 2097 ∧ s = .int .i64 k ∧ IsSteps wr va sa ∧ IsSteps wr vb sb ∧ IsSteps wr vo J ∧ Below w.heap.size w wr) (fun s _ => 3000 - (intOf s).toNat)
      case atStart => exact ⟨0, Nat.zero_le _, rfl, s4, t4, u4, b4⟩
      case round =>
        clear s4 t4 u4 b4
        obtain ⟨k, hk, rfl, s5, t5, u5, b5⟩ := hrel
        by_cases hlt : (k : Int) ≤ 2000
        · have hcan : ∀ st : List (Int × Int), vSteps st = true → hundA st k = taxT st k := fun st hv => by rw [hundA, if_pos (canT_iff.2 ⟨hv, by omega, by omega⟩)]
          have E1 := Lib.hid (hcan J V3.out)
          have E2 := Lib.hid (hcan sa V1.out)
          have E3 := Lib.hid (hcan sb V2.out)
          have hx := TX.out k (by omega)
          have ba := hs1.tax_bounds (show 0 ≤ (k : Int) by omega)
          have bb := hs2.tax_bounds (show 0 ≤ (k : Int) by omega)
          rw [hx] at E1
          clear hcan hx
          go_wp2_with fail
          refine (HundredTax_impl vo J k _ u5 (by omega)).mono ?_
          rintro e w6 ⟨rfl, hb6⟩
          rw [E1.out]
          have b6 := b5.trans (hb6.mono b5.size)
          have s6 := s5.below hb6
          have t6 := t5.below hb6
          have u6 := u5.below hb6
          clear hb6 s5 t5 u5
          go_wp2_with fail
          refine (HundredTax_impl va sa k _ s6 (by omega)).mono ?_
          rintro e w7 ⟨rfl, hb7⟩
          rw [E2.out]
          have b7 := b6.trans (hb7.mono b6.size)
          have s7 := s6.below hb7
          have t7 := t6.below hb7
          have u7 := u6.below hb7
          clear hb7 s6 t6 u6
          go_wp2_with fail
          refine (HundredTax_impl vb sb k _ t7 (by omega)).mono ?_
          rintro e w8 ⟨rfl, hb8⟩
          rw [E3.out]
          have b8 := b7.trans (hb8.mono b7.size)
          have s8 := s7.below hb8
          have t8 := t7.below hb8
          have u8 := u7.below hb8
          clear hb8 s7 t7 u7 E1 E2 E3
          go_wp2
          go_roundw
          case rel => exact ⟨k + 97, by omega, by go_num, s8, t8, u8, b8⟩
          case measure => simp [intOf]; omega
        · obtain ⟨ao, co, rfl, hco⟩ := id u5
          have HC := Lib.hid hco
          clear hco s5 t5
          go_wp2
          go_loopw [10] (fun s wq => ∃ i : Nat, 1 ≤ i ∧ i ≤ J.length + 1 ∧ s = .int .i64 i ∧ Drawn wr wq) (fun s _ => J.length + 1 - (intOf s).toNat)
          case atStart => exact ⟨1, Nat.le_refl _, by omega, rfl, Drawn.refl _⟩
          case round =>
            obtain ⟨i, hi1, hi, rfl, hdr⟩ := hrel
            by_cases hli : i < J.length
            · obtain ⟨b, off, rfl, _, c1⟩ := HC.out i hli
              obtain ⟨b', off', e, _, p1⟩ := HC.out (i - 1) (by omega)
              simp only [Option.some.injEq, Addr.mk.injEq, and_true] at e
              obtain ⟨rfl, rfl⟩ := e
              have d1 : wr.cell? ⟨b, off + i * 2 + 1, none⟩ = some (.int .i64 (rat J i)) := (hdr.cell _).trans c1
              have dp : wr.cell? ⟨b, off + (i - 1) * 2 + 1, none⟩ = some (.int .i64 (rat J (i - 1))) := (hdr.cell _).trans p1
              have i1 : (i : Int) < (J.length : Int) := by omega
              have m1 : 1 ≤ (i : Int) := by omega
              have m2 : (i : Int) - 1 < (J.length : Int) := by omega
              have m3 : ((i : Int) - 1).toNat = i - 1 := by omega
              have hne : (rat J i == rat J (i - 1)) = false := by simpa using RT.out i (by omega) hli
              clear c1 p1
              go_wp2
              go_quiet (fail)
              go_wp2
              go_roundw
              case rel => exact ⟨i + 1, by omega, by omega, by go_num, hdr.more _⟩
              case measure => simp [intOf]; omega
            · go_wp2_with fail
              refine (ValidSteps_impl _ J wr (u5.below hdr.below) (by omega)).mono ?_
              rintro e w9 ⟨rfl, hb9⟩
              rw [V3.out]
              go_wp2
              go_ret
              exact ⟨rfl, (b5.trans (hdr.below.mono b5.size)).trans (hb9.mono (b5.trans (hdr.below.mono b5.size)).size)⟩

end Go.Proofs.Ytmeejaafbbabaaa
