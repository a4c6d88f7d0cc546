/- The drawn arguments of the law of payments made. -/
import Derived.Test.YtbedjebnllimpaaPlanS
import Derived.Test.YtbedjebnllimpaaBillD
namespace Go.Proofs.Ytbedjebnllimpaa
open Go.RowKit

/-- Payments of small numbers. -/
def PB (st : List (Int × Int × Int)) : Prop := st.length ≤ 6 ∧ ∀ p ∈ st, (0 ≤ p.1 ∧ p.1 ≤ 6) ∧ (0 ≤ p.2.1 ∧ p.2.1 ≤ 6) ∧ (0 ≤ p.2.2 ∧ p.2.2 ≤ 601)

theorem planF_small : ∀ (f : Nat) (xs : List Int), vBal xs = true → ∀ p ∈ planF f xs, (0 ≤ p.1 ∧ p.1 ≤ 6) ∧ (0 ≤ p.2.1 ∧ p.2.1 ≤ 6) ∧ (0 ≤ p.2.2 ∧ p.2.2 ≤ 601)
  | 0, _, _, p, hp => by cases hp
  | f + 1, xs, hv, p, hp => by
    rw [planF] at hp
    by_cases h : loV xs = hiV xs
    · rw [if_pos h] at hp; cases hp
    · rw [if_neg h] at hp
      obtain ⟨hs, hx⟩ := step_vBal hv h
      obtain ⟨_, hn, _⟩ := (vBal_iff xs).1 hv
      obtain ⟨p1, p2, _⟩ := plan_bounds hv
      rcases List.mem_cons.1 hp with rfl | hp
      · simp only; omega
      · exact planF_small f (stepP xs) hs p hp

theorem planL_small (xs : List Int) : PB (planL xs) := by
  unfold planL
  cases hv : vBal xs
  · exact ⟨Nat.zero_le _, fun p hp => by cases hp⟩
  · rw [if_pos rfl]
    obtain ⟨_, hn, _⟩ := (vBal_iff xs).1 hv
    have hk := kC_nonneg xs xs.length
    have hs := plan_short xs.length xs hv hk.2
    refine ⟨?_, planF_small _ xs hv⟩
    rcases hs with hs | hs
    · omega
    · rw [hs]; decide

theorem PB.at {st : List (Int × Int × Int)} (h : PB st) (i : Nat) : (0 ≤ pF st i ∧ pF st i ≤ 6) ∧ (0 ≤ pT st i ∧ pT st i ≤ 6) ∧ (0 ≤ pA st i ∧ pA st i ≤ 601) := by
  by_cases hi : i < st.length
  · have := h.2 (st[i]) (List.getElem_mem hi)
    simpa [pF, pT, pA, List.getD, hi] using this
  · simp [pF, pT, pA, List.getD, Nat.not_lt.1 hi]

theorem PB.set {st : List (Int × Int × Int)} (h : PB st) (i : Nat) {p : Int × Int × Int} (hp : (0 ≤ p.1 ∧ p.1 ≤ 6) ∧ (0 ≤ p.2.1 ∧ p.2.1 ≤ 6) ∧ (0 ≤ p.2.2 ∧ p.2.2 ≤ 601)) : PB (st.set i p) :=
  ⟨by rw [List.length_set]; exact h.1, fun q hq => by
    rcases List.mem_or_eq_of_mem_set hq with hq | hq
    · exact h.2 q hq
    · subst hq; exact hp⟩

theorem PB.take {st : List (Int × Int × Int)} (h : PB st) (k : Nat) : PB (st.take k) :=
  ⟨by rw [List.length_take]; have := h.1; omega, fun q hq => h.2 q (List.mem_of_mem_take hq)⟩

theorem IsPays.take {w : World} {a : Option Addr} {n cap : Nat} {st : List (Int × Int × Int)} (h : IsPays w (.slice a n cap) st) (hn : st.length = n) (k : Nat) (hk : k ≤ n) : IsPays w (.slice a k cap) (st.take k) := by
  obtain ⟨a', cap', e, hc⟩ := h
  simp only [Value.slice.injEq] at e
  obtain ⟨rfl, _, rfl⟩ := e
  have hl : (st.take k).length = k := by rw [List.length_take]; omega
  refine ⟨a, cap, by rw [hl], fun j hj => ?_⟩
  rw [hl] at hj
  obtain ⟨b, off, ha, c0, c1, c2⟩ := hc j (by omega)
  have e : pF (st.take k) j = pF st j ∧ pT (st.take k) j = pT st j ∧ pA (st.take k) j = pA st j := by
    simp [pF, pT, pA, List.getD, hj]
  rw [e.1, e.2.1, e.2.2]
  exact ⟨b, off, ha, c0, c1, c2⟩

set_option maxRecDepth 100000 in
set_option maxHeartbeats 3200000 in
theorem DrawAfterPays_any (a : Option Addr) (n cap : Nat) (w : World) (h : IsBytes w a n) (hc : n ≤ cap) :
    Calls Try.prog 45 #[.slice a n cap] w fun e w' => ∃ v xs z st, e = .returned (.tuple #[v, z]) ∧ IsInts w' v xs ∧ Bals xs ∧ IsPays w' z st ∧ PB st ∧ Below w.heap.size w w' := by
  go_enter Try.func45, Try.ntmps45
  go_wp2_with fail
  refine (newReader_any a n cap _ h hc).mono ?_
  rintro e w1 ⟨rfl, h1, b1⟩
  have hRl := h1.lt
  go_wp2_with fail
  refine (someBalances_any _ _ _ _ _ h1 (by omega)).mono ?_
  rintro e w2 ⟨v, xs, rfl, o2, hb, h2, g2⟩
  have b2 := below_reader b1 g2
  have hx6 := hb.1
  have hs2 : w.heap.size < w2.heap.size := by have := h2.lt.2; exact this
  clear h1
  go_wp2_with fail
  refine (PayPlan_spec v xs _ o2.ints (by omega)).mono ?_
  rintro e w3 ⟨z, rfl, p3, hb3⟩
  have h3 := h2.later hb3
  have o3 := o2.below hb3
  have b3 := b2.trans (hb3.mono b2.size)
  have hpb := planL_small xs
  have hz := p3.pays
  generalize planL xs = st at *
  have HPB := Lib.hid hpb
  have hs6 := hpb.1
  have hnv : v.ownBlock ≠ some w.heap.size := fun e => by have := (o2.lt _ e).1; omega
  have hnz : z.ownBlock ≠ some w.heap.size := fun e => by have := (p3.lt _ e).1; omega
  have hvlt : ∀ q, v.ownBlock = some q → q < w2.heap.size := fun q hq => (o2.lt q hq).2
  clear o2 h2 g2 hb3 hpb
  obtain ⟨av, cv, rfl, _⟩ := o3.ints
  by_cases hl : 0 < st.length
  · rcases id p3.2 with ⟨_, h0⟩ | ⟨gz, capz, curz, rfl, _⟩
    · omega
    have hgz2 : w2.heap.size ≤ gz := (p3.lt gz rfl).1
    have hav : (Value.slice av xs.length cv).ownBlock = none ∨ (Value.slice av xs.length cv).ownBlock ≠ some gz := .inr fun e => by have := hvlt gz e; omega
    have hli : (0 : Int) < (st.length : Int) := by omega
    have hd : decide ((0 : Int) < (st.length : Int)) = true := decide_eq_true hli
    clear hz
    go_wp2_with fail
    refine (pick_has 3 _ _ _ _ _ h3 (by omega) (by omega)).mono ?_
    rintro e w4 ⟨y1, rfl, ⟨r0, r1, _⟩, h4, g4⟩
    have o4 := o3.kept g4 (.inr hnv)
    have p4 := p3.kept g4 (.inr hnz)
    have b4 := below_reader b3 g4
    clear o3 p3 h3 g4 r1
    by_cases hy : y1 = 0
    · subst hy
      go_wp2_with fail
      refine (pick_has (st.length : Int) _ _ _ _ _ h4 (by omega) (by omega)).mono ?_
      rintro e w5 ⟨k, rfl, ⟨k0, k1, _⟩, h5, g5⟩
      have k2 := k1 (by omega)
      obtain ⟨k, rfl⟩ : ∃ q : Nat, k = q := ⟨k.toNat, by omega⟩
      have kl : k < st.length := by omega
      have o5 := o4.kept g5 (.inr hnv)
      have p5 := p4.kept g5 (.inr hnz)
      have b5 := below_reader b4 g5
      clear o4 p4 h4 g5 k1
      go_wp2_with fail
      refine (pick_has 4 _ _ _ _ _ h5 (by omega) (by omega)).mono ?_
      rintro e w6 ⟨y2, rfl, ⟨s0, s1, _⟩, h6, g6⟩
      have o6 := o5.kept g6 (.inr hnv)
      have p6 := p5.kept g6 (.inr hnz)
      have b6 := below_reader b5 g6
      clear o5 p5 h5 g6 s1
      have hpk := HPB.out.at k
      have hgz := p6.lt gz rfl
      by_cases e0 : y2 = 0
      · subst e0
        go_wp2_with fail
        refine (one_lit [0, 1, 601, 5] _ 4 rfl rfl _ _ _ _ _ _ h6 (by omega) (by simp) (by simp) rfl).mono ?_
        rintro e w7 ⟨y, rfl, hy, h7, g7⟩
        have hyb : 0 ≤ y ∧ y ≤ 601 := by
          simp only [List.mem_cons, List.not_mem_nil, or_false] at hy
          omega
        have o7 := o6.kept g7 (.inr hnv)
        have p7 := p6.kept g7 (.inr hnz)
        have b7 := below_reader b6 g7
        obtain ⟨⟨c0, c1, c2⟩, f0⟩ := p7.at rfl k kl
        have f2 := f0 (k * 3 + 2)
        have s2 := (p7.set1 rfl k kl y).2.2
        have o8 := o7.kept s2.2 hav
        have b8 := b7.trans (below_grown s2.2 b7.size (fun q hq => by cases hq; omega))
        have P := Lib.hid s2.1.pays
        have O := Lib.hid o8.ints
        have PT := Lib.hid (HPB.out.set k (p := (pF st k, pT st k, y)) ⟨hpk.1, hpk.2.1, hyb⟩)
        have B8 := Lib.hid b8
        clear s2 o8 b8 b7 o7 p7 h7 g7 o6 p6 h6 f0
        generalize pF st k = x0 at *
        generalize pT st k = x1 at *
        generalize pA st k = x2 at *
        go_wp2
        go_ret2
        exact ⟨_, _, _, _, rfl, O.out, hb, by have h := P.out; exact h, PT.out, B8.out⟩
      · by_cases e1 : y2 = 1
        · subst e1
          obtain ⟨⟨c0, _, _⟩, _⟩ := p6.at rfl k kl
          have hpk0 := hpk.1
          go_wp2_with fail
          refine (one_lit [pF st k, 6, 0] _ 3 rfl rfl _ _ _ _ _ _ h6 (by omega) (by simp) (by simp) rfl).mono ?_
          rintro e w7 ⟨y, rfl, hy, h7, g7⟩
          have hyb : 0 ≤ y ∧ y ≤ 6 := by
            simp only [List.mem_cons, List.not_mem_nil, or_false] at hy
            omega
          have o7 := o6.kept g7 (.inr hnv)
          have p7 := p6.kept g7 (.inr hnz)
          have b7 := below_reader b6 g7
          obtain ⟨⟨d0, d1, d2⟩, f0⟩ := p7.at rfl k kl
          have f2 := f0 (k * 3 + 1)
          have s2 := (p7.set1 rfl k kl y).2.1
          have o8 := o7.kept s2.2 hav
          have b8 := b7.trans (below_grown s2.2 b7.size (fun q hq => by cases hq; omega))
          have P := Lib.hid s2.1.pays
          have O := Lib.hid o8.ints
          have PT := Lib.hid (HPB.out.set k (p := (pF st k, y, pA st k)) ⟨hpk.1, hyb, hpk.2.2⟩)
          have B8 := Lib.hid b8
          clear s2 o8 b8 b7 o7 p7 h7 g7 o6 p6 h6 f0 hy
          generalize pF st k = x0 at *
          generalize pT st k = x1 at *
          generalize pA st k = x2 at *
          go_wp2
          go_ret2
          exact ⟨_, _, _, _, rfl, O.out, hb, by have h := P.out; exact h, PT.out, B8.out⟩
        · have f0 : (y2 == 0) = false := by simpa using e0
          have f1 : (y2 == 1) = false := by simpa using e1
          have O := Lib.hid o6.ints
          have P := Lib.hid (p6.pays.take rfl k (by omega))
          have PT := Lib.hid (HPB.out.take k)
          have kc : (k : Int) ≤ (capz : Int) := by
            have := p6.2
            rcases this with ⟨h0, _⟩ | ⟨g', c', cu', hv, _, _, hle, _⟩
            · cases h0
            · simp only [Value.slice.injEq] at hv; omega
          clear o6 p6 e0 e1
          go_wp2
          go_quiet (fail)
          go_wp2
          go_ret2
          have hq := below_drewN (Below.refl w6.heap.size w6) nq
          exact ⟨_, _, _, _, rfl, O.out.below hq, hb, P.out.below hq, PT.out, below_drewN b6 _⟩
    · have f1 : (y1 == 0) = false := by simpa using hy
      have O := Lib.hid o4.ints
      have P := Lib.hid p4.pays
      clear o4 p4
      go_wp2
      go_ret2
      exact ⟨_, _, _, _, rfl, O.out, hb, P.out, HPB.out, b4⟩
  · have hd : decide ((0 : Int) < (st.length : Int)) = false := decide_eq_false (by omega)
    have O := Lib.hid o3.ints
    have P := Lib.hid hz
    obtain ⟨az, cz, rfl, _⟩ := hz
    clear o3 p3
    go_wp2
    go_ret2
    exact ⟨_, _, _, _, rfl, O.out, hb, P.out, HPB.out, b3⟩

end Go.Proofs.Ytbedjebnllimpaa
