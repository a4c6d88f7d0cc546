/- Two taxes joined, in the model. -/
import Derived.Test.YtmeejaafbbabaaaJoinI
import Derived.Test.YtmeejaafbbabaaaTaxL
import Derived.Test.YtmeejaafbbabaaaDrawS
import Derived.Test.YtmeejaafbbabaaaAnsS
namespace Go.Proofs.Ytmeejaafbbabaaa
open Go.RowKit

/-- One of the first n steps begins at x. -/
def hereI (st : List (Int × Int)) (x : Int) : Nat → Bool
  | 0 => false
  | n + 1 => hereI st x n || (frm st n == x)
theorem hereI_no {st : List (Int × Int)} {x : Int} {n : Nat} (h : hereI st x n = false) : ∀ i, i < n → frm st i ≠ x := by
  induction n with
  | zero => intro i hi; omega
  | succ n ih =>
    unfold hereI at h
    rw [Bool.or_eq_false_iff] at h
    intro i hi
    by_cases e : i = n
    · subst e; simpa using h.2
    · exact ih h.1 i (by omega)

theorem js_skip {a b : List (Int × Int)} (ha : Steps a) (hb : Steps b) {k : Nat} (h1 : hereI a k a.length = false) (h2 : hereI b k b.length = false) : js a b (k + 1) = js a b k := by
  have n1 := hereI_no h1
  have n2 := hereI_no h2
  cases k with
  | zero => exact absurd ha.zero (n1 0 ha.len1)
  | succ k =>
    refine js_succ_same ?_
    rw [joinF_snd]
    unfold joinR
    have e : ((k + 1 : Nat) : Int) = (k : Int) + 1 := by omega
    rw [e] at n1 n2 ⊢
    rw [rate_same ha (by omega) n1, rate_same hb (by omega) n2]

/-- Is the income k to begin a step of the joined ones? -/
theorem js_take {a b : List (Int × Int)} (ha : Steps a) (hb : Steps b) (k : Nat) :
    (js a b k = [] ∧ js a b (k + 1) = js a b k ++ [((k : Int), joinR a b k)]) ∨
    (0 < (js a b k).length ∧ rat (js a b k) ((js a b k).length - 1) = joinR a b k ∧ js a b (k + 1) = js a b k) ∨
    (0 < (js a b k).length ∧ rat (js a b k) ((js a b k).length - 1) ≠ joinR a b k ∧ js a b (k + 1) = js a b k ++ [((k : Int), joinR a b k)]) := by
  cases k with
  | zero =>
    have h0 := joinR_nonneg ha hb 0
    exact .inl ⟨rfl, js_succ_new (show joinR a b ((0 : Nat) : Int) ≠ (joinF a b (incs 0)).2 by show joinR a b 0 ≠ -1; omega)⟩
  | succ k =>
    obtain ⟨f1, f2, _, _⟩ := js_facts ha hb k
    by_cases h : joinR a b ((k + 1 : Nat) : Int) = (joinF a b (incs (k + 1))).2
    · exact .inr (.inl ⟨f1, by rw [f2, h, joinF_snd], js_succ_same h⟩)
    · exact .inr (.inr ⟨f1, by rw [f2]; rw [joinF_snd] at h; exact fun e => h e.symm, js_succ_new h⟩)

set_option maxRecDepth 100000 in
set_option maxHeartbeats 3200000 in
theorem JoinSteps_spec (va vb : Value) (a b : List (Int × Int)) (w : World) (ha : IsSteps w va a) (hb : IsSteps w vb b) (hla : a.length ≤ 9223372036854775807) (hlb : b.length ≤ 9223372036854775807) :
    Calls Try.prog 42 #[va, vb] w (JoinOut w (joinA a b)) := by
  have ha0 := ha
  have hb0 := hb
  obtain ⟨aa, ca, rfl, hca⟩ := ha
  obtain ⟨ab, cb, rfl, hcb⟩ := hb
  cases h1 : vSteps a
  · have E : Hid (joinA a b = ([], false)) := by show joinA a b = _; unfold joinA; rw [h1]; rfl
    go_enter Try.func42, Try.ntmps42
    go_wp2_with fail
    refine (validSteps_spec _ _ _ ha0 hla).mono ?_
    rintro e w1 ⟨rfl, hd⟩
    rw [h1]
    go_wp2
    go_ret2
    exact ⟨.slice none 0 0, by rw [E.out]; rfl, by rw [E.out]; exact ownS_nil _ _, hd.below⟩
  cases h2 : vSteps b
  · have E : Hid (joinA a b = ([], false)) := by show joinA a b = _; unfold joinA; rw [h1, h2]; rfl
    go_enter Try.func42, Try.ntmps42
    go_wp2_with fail
    refine (validSteps_spec _ _ _ ha0 hla).mono ?_
    rintro e w1 ⟨rfl, hd⟩
    rw [h1]
    go_wp2_with fail
    refine (validSteps_spec _ _ _ (hb0.below hd.below) hlb).mono ?_
    rintro e w2 ⟨rfl, hd2⟩
    rw [h2]
    go_wp2
    go_ret2
    exact ⟨.slice none 0 0, by rw [E.out]; rfl, by rw [E.out]; exact ownS_nil _ _, (hd.trans hd2).below⟩
  have hs1 := vSteps_iff.1 h1
  have hs2 := vSteps_iff.1 h2
  have l1 := hs1.len5
  have l2 := hs2.len5
  go_enter Try.func42, Try.ntmps42
  go_wp2_with fail
  refine (validSteps_spec _ _ _ ha0 hla).mono ?_
  rintro e w1 ⟨rfl, hd⟩
  rw [h1]
  go_wp2_with fail
  refine (validSteps_spec _ _ _ (hb0.below hd.below) hlb).mono ?_
  rintro e w2 ⟨rfl, hd2⟩
  rw [h2]
  have hb2 : Below w.heap.size w w2 := (hd.trans hd2).below
  have o0 := own_emptyS w2 w.heap.size hb2.size
  have hb3 : Below w.heap.size w (w2.alloc (.cells #[] 33)) := hb2.alloc hb2.size _
  go_wp2
  go_loopw [6, 7] (fun v s wr => ∃ k : Nat, k ≤ 2001 ∧ s = .int .i64 k ∧ OwnS wr w.heap.size v (js a b k) ∧ Below w.heap.size w wr) (fun _ s _ => 2001 - (intOf s).toNat)
  case atStart => exact ⟨0, Nat.zero_le _, rfl, o0, hb3⟩
  case round =>
    clear o0 hb3 hb2 hd hd2
    obtain ⟨k, hk, rfl, hown, hbl⟩ := hrel
    have hsz := hbl.size
    have hjl := js_len a b k
    obtain ⟨av, cv, rfl, _⟩ := id hown.steps
    by_cases hlt : (k : Int) ≤ 2000
    · have qa : ∀ i, i < a.length → ∃ b' off, aa = some ⟨b', off, none⟩ ∧ wr.cell? ⟨b', off + i * 2, none⟩ = some (.int .i64 (frm a i)) := fun i hi => by
        obtain ⟨b', off, e, c0, _⟩ := hca i hi
        exact ⟨b', off, e, (hbl.cell (p := ⟨b', off + i * 2, none⟩) (World.block_lt_of_cell? w _ c0)).trans c0⟩
      have qb : ∀ i, i < b.length → ∃ b' off, ab = some ⟨b', off, none⟩ ∧ wr.cell? ⟨b', off + i * 2, none⟩ = some (.int .i64 (frm b i)) := fun i hi => by
        obtain ⟨b', off, e, c0, _⟩ := hcb i hi
        exact ⟨b', off, e, (hbl.cell (p := ⟨b', off + i * 2, none⟩) (World.block_lt_of_cell? w _ c0)).trans c0⟩
      have QA := Lib.hid qa
      have QB := Lib.hid qb
      have HO := Lib.hid hown
      have HCA := Lib.hid hca
      have HCB := Lib.hid hcb
      clear qa qb hown hca hcb
      go_wp2
      go_loop [8, 9] (fun t s => ∃ i : Nat, i ≤ a.length ∧ s = .int .i64 i ∧ t = .bool (hereI a k i)) (fun _ s => a.length - (intOf s).toNat)
      case atStart => exact ⟨0, Nat.zero_le _, rfl, rfl⟩
      case round =>
        obtain ⟨i, hi, rfl, rfl⟩ := hrel
        by_cases hli : i < a.length
        · obtain ⟨b', off, e, c0⟩ := QA.out i hli
          subst e
          have i1 : (i : Int) < (a.length : Int) := by omega
          have HS : Hid (hereI a k (i + 1) = (hereI a k i || (frm a i == (k : Int)))) := rfl
          cases hm : hereI a k i
          · rw [hm] at HS
            clear hm
            cases he : (frm a i == (k : Int))
            · rw [he] at HS
              go_wp2
              go_round
              case rel => exact ⟨i + 1, by omega, by go_num, by rw [HS.out]; rfl⟩
              case measure => simp [intOf]; omega
            · rw [he] at HS
              go_wp2
              go_round
              case rel => exact ⟨i + 1, by omega, by go_num, by rw [HS.out]; rfl⟩
              case measure => simp [intOf]; omega
          · rw [hm] at HS
            clear hm
            go_wp2
            go_round
            case rel => exact ⟨i + 1, by omega, by go_num, by rw [HS.out]; rfl⟩
            case measure => simp [intOf]; omega
        · have hil : i = a.length := by omega
          subst hil
          go_wp2
          go_loop [8, 10] (fun t s => ∃ i : Nat, i ≤ b.length ∧ s = .int .i64 i ∧ t = .bool (hereI a k a.length || hereI b k i)) (fun _ s => b.length - (intOf s).toNat)
          case atStart => exact ⟨0, Nat.zero_le _, rfl, by simp [hereI]⟩
          case round =>
            obtain ⟨i, hi, rfl, rfl⟩ := hrel
            by_cases hli : i < b.length
            · obtain ⟨b', off, e, c0⟩ := QB.out i hli
              subst e
              have i1 : (i : Int) < (b.length : Int) := by omega
              have HS : Hid ((hereI a k a.length || hereI b k (i + 1)) = ((hereI a k a.length || hereI b k i) || (frm b i == (k : Int)))) := (Bool.or_assoc _ _ _).symm
              cases hm : (hereI a k a.length || hereI b k i)
              · rw [hm] at HS
                clear hm
                cases he : (frm b i == (k : Int))
                · rw [he] at HS
                  go_wp2
                  go_round
                  case rel => exact ⟨i + 1, by omega, by go_num, by rw [HS.out]; rfl⟩
                  case measure => simp [intOf]; omega
                · rw [he] at HS
                  go_wp2
                  go_round
                  case rel => exact ⟨i + 1, by omega, by go_num, by rw [HS.out]; rfl⟩
                  case measure => simp [intOf]; omega
              · rw [hm] at HS
                clear hm
                go_wp2
                go_round
                case rel => exact ⟨i + 1, by omega, by go_num, by rw [HS.out]; rfl⟩
                case measure => simp [intOf]; omega
            · have hil : i = b.length := by omega
              subst hil
              cases hm : (hereI a k a.length || hereI b k b.length)
              · rw [Bool.or_eq_false_iff] at hm
                have HJ := Lib.hid (js_skip hs1 hs2 hm.1 hm.2)
                clear hm
                go_wp2
                go_roundw
                case rel => exact ⟨k + 1, by omega, by go_num, by rw [HJ.out]; exact HO.out, hbl⟩
                case measure => simp [intOf]; omega
              · clear hm
                have EA : Hid (rateA a k = rateT a k) := by show rateA a k = _; rw [rateA, if_pos (canT_iff.2 ⟨h1, by omega, by omega⟩)]
                have EB : Hid (rateA b k = rateT b k) := by show rateA b k = _; rw [rateA, if_pos (canT_iff.2 ⟨h2, by omega, by omega⟩)]
                have ra := hs1.rate_bounds k
                have rb := hs2.rate_bounds k
                have HT := Lib.hid (js_take hs1 hs2 k)
                go_wp2_with fail
                refine (RateAt_spec _ a k wr (ha0.below hbl) hla).mono ?_
                rintro e w3 ⟨rfl, hd3⟩
                rw [EA.out]
                have b3 : Below w.heap.size w w3 := hbl.trans (hd3.below.mono hsz)
                go_wp2_with fail
                refine (RateAt_spec _ b k w3 (hb0.below b3) hlb).mono ?_
                rintro e w4 ⟨rfl, hd4⟩
                rw [EB.out]
                have b4 : Below w.heap.size w w4 := b3.trans (hd4.below.mono b3.size)
                have o4 : OwnS w4 w.heap.size (.slice av (js a b k).length cv) (js a b k) := (HO.out.below hd3.below).below hd4.below
                have hs4 : w.heap.size ≤ w4.heap.size := b4.size
                have ER : Hid (joinR a b k = rateT a k + rateT b k) := rfl
                clear hd3 hd4 b3 EA EB
                rcases HT.out with ⟨he, hj⟩ | ⟨hp, hr, hj⟩ | ⟨hp, hr, hj⟩
                · have hl0 : (((js a b k).length : Int) == 0) = true := by rw [he]; rfl
                  have HJ := Lib.hid hj
                  clear he hj HT
                  go_wp2_with (at_builtin; refine wpList_pushS (f := (k : Int)) (r := rateT a k + rateT b k) o4 (by omega) hs4 (h := ?_))
                  intro v6 w6 o6 g6 m6
                  have b6 : Below w.heap.size w w6 := b4.trans (below_grownS g6 hs4 (fun q hq => (o4.lt q hq).1))
                  clear o4 g6 m6
                  go_wp2
                  go_roundw
                  case rel => exact ⟨k + 1, by omega, by go_num, by rw [HJ.out, ER.out]; exact o6, b6⟩
                  case measure => simp [intOf]; omega
                · have hl0 : (((js a b k).length : Int) == 0) = false := by simp; intro e; rw [e] at hp; simp at hp
                  have HJ := Lib.hid hj
                  obtain ⟨g, cap, hav, _, _⟩ := o4.form hp
                  simp only [Value.slice.injEq] at hav
                  obtain ⟨rfl, _, rfl⟩ := hav
                  have c1 := (o4.at rfl ((js a b k).length - 1) (by omega)).1.2
                  rw [hr, ER.out] at c1
                  have m1 : 1 ≤ ((js a b k).length : Int) := by omega
                  have m2 : ((js a b k).length : Int) - 1 < ((js a b k).length : Int) := by omega
                  have m3 : (((js a b k).length : Int) - 1).toNat = (js a b k).length - 1 := by omega
                  clear hr hj HT
                  go_wp2
                  go_roundw
                  case rel => exact ⟨k + 1, by omega, by go_num, by rw [HJ.out]; exact o4, b4⟩
                  case measure => simp [intOf]; omega
                · have hl0 : (((js a b k).length : Int) == 0) = false := by simp; intro e; rw [e] at hp; simp at hp
                  have HJ := Lib.hid hj
                  obtain ⟨g, cap, hav, _, _⟩ := o4.form hp
                  simp only [Value.slice.injEq] at hav
                  obtain ⟨rfl, _, rfl⟩ := hav
                  have c1 := (o4.at rfl ((js a b k).length - 1) (by omega)).1.2
                  have hne : (rat (js a b k) ((js a b k).length - 1) != rateT a k + rateT b k) = true := by rw [bne_iff_ne, ← ER.out]; exact hr
                  have m1 : 1 ≤ ((js a b k).length : Int) := by omega
                  have m2 : ((js a b k).length : Int) - 1 < ((js a b k).length : Int) := by omega
                  have m3 : (((js a b k).length : Int) - 1).toNat = (js a b k).length - 1 := by omega
                  clear hr hj HT
                  go_wp2_with (at_builtin; refine wpList_pushS (f := (k : Int)) (r := rateT a k + rateT b k) o4 (by omega) hs4 (h := ?_))
                  intro v6 w6 o6 g6 m6
                  have b6 : Below w.heap.size w w6 := b4.trans (below_grownS g6 hs4 (fun q hq => (o4.lt q hq).1))
                  clear o4 g6 m6 c1 hne
                  go_wp2
                  go_roundw
                  case rel => exact ⟨k + 1, by omega, by go_num, by rw [HJ.out, ER.out]; exact o6, b6⟩
                  case measure => simp [intOf]; omega
    · have hk2 : k = 2001 := by omega
      subst hk2
      go_wp2_with fail
      refine (validSteps_spec _ (js a b 2001) wr hown.steps (by omega)).mono ?_
      rintro e w3 ⟨rfl, hd3⟩
      have o3 := hown.below hd3.below
      have b3 : Below w.heap.size w w3 := hbl.trans (hd3.below.mono hsz)
      cases h3 : vSteps (js a b 2001)
      · have E : Hid (joinA a b = ([], false)) := by show joinA a b = _; unfold joinA; rw [h1, h2, h3]; rfl
        clear h3
        go_wp2
        go_ret2
        exact ⟨.slice none 0 0, by rw [E.out]; rfl, by rw [E.out]; exact ownS_nil _ _, b3⟩
      · have E : Hid (joinA a b = (js a b 2001, true)) := by show joinA a b = _; unfold joinA; rw [h1, h2, h3]; rfl
        clear h3
        go_wp2
        go_ret2
        exact ⟨.slice av (js a b 2001).length cv, by rw [E.out]; rfl, by rw [E.out]; exact o3, b3⟩

end Go.Proofs.Ytmeejaafbbabaaa
