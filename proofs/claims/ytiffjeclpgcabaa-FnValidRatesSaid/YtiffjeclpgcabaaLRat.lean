/- The laws of rates: what they ask, and the common divisor of the laws. -/
import Derived.Test.YtiffjeclpgcabaaBstJ
import Derived.Test.YtiffjeclpgcabaaRatD
import Derived.Test.YtiffjeclpgcabaaDrawC
import Derived.IntWalk
namespace Go.Proofs.Ytiffjeclpgcabaa
open Go.RowKit

set_option maxHeartbeats 1600000 in
theorem divisor_law (a b : Nat) (w : World) (ha : a ≤ 1000000) (hb : b ≤ 1000000) :
    Calls Try.prog 25 #[.int .i64 (a : Int), .int .i64 (b : Int)] w fun e w' => e = .returned (.int .i64 ((Nat.gcd a b : Nat) : Int)) ∧ w = w' := by
  go_enter Try.func25, Try.ntmps25
  go_wp2
  go_loopw [0, 1, 5] (fun av bv _ wr => ∃ x y : Nat, av = .int .i64 x ∧ bv = .int .i64 y ∧ x ≤ 1000000 ∧ y ≤ 1000000 ∧ Nat.gcd x y = Nat.gcd a b ∧ wr = w) (fun _ bv _ _ => (intOf bv).toNat)
  case atStart => exact ⟨a, b, rfl, rfl, ha, hb, rfl, rfl⟩
  case round =>
    obtain ⟨x, y, rfl, rfl, hx, hy, hg, rfl⟩ := hrel
    have HG := Lib.hid hg
    clear hg
    by_cases h : 0 < y
    · have y1 : (0 : Int) < (y : Int) := by omega
      have y2 : (y : Int) ≠ 0 := by omega
      have hm0 := Int.emod_nonneg (x : Int) y2
      have hm1 := Int.emod_lt_of_pos (x : Int) y1
      have l3 : x % y < y := Nat.mod_lt _ h
      have HN : Hid (Nat.gcd y (x % y) = Nat.gcd a b) := by
        show _ = _
        rw [← HG.out, Nat.gcd_comm y (x % y), ← Nat.gcd_rec y x, Nat.gcd_comm]
      go_wp2
      go_roundw
      case rel => exact ⟨y, x % y, rfl, by go_num, hy, by omega, HN.out, trivial⟩
      case measure => simp [intOf]; omega
    · have y0 : y = 0 := by omega
      subst y0
      have HN : Hid (((Nat.gcd a b : Nat) : Int) = (x : Int)) := by show _ = _; rw [← HG.out, Nat.gcd_zero_right]
      have y1 : ¬ (0 : Int) < ((0 : Nat) : Int) := by omega
      go_wp2
      go_ret
      exact ⟨ret_int HN.out.symm, rfl⟩

/-- Two numbers without a common factor: the divisor is 1. -/
theorem divisor_one {u d m : Int} (hb : rB (u, d) m) (hm : m ≤ 1000000) (hc : rCo (u, d)) (w : World) :
    Calls Try.prog 25 #[.int .i64 u, .int .i64 d] w fun e w' => e = .returned (.int .i64 1) ∧ w = w' := by
  have h1 := hb.1.1
  have h2 := hb.1.2
  have h3 := hb.2.1
  have h4 := hb.2.2
  simp only at h1 h2 h3 h4
  have := divisor_law u.toNat d.toNat w (by omega) (by omega)
  rw [Int.toNat_of_nonneg (by omega), Int.toNat_of_nonneg (by omega)] at this
  unfold rCo at hc
  simp only at hc
  rw [hc] at this
  exact this

/-- Products of bounded numbers. -/
theorem mul_bd {a b x y : Int} (ha : 0 ≤ a ∧ a ≤ x) (hb : 0 ≤ b ∧ b ≤ y) (hx : 0 ≤ x) : 0 ≤ a * b ∧ a * b ≤ x * y :=
  ⟨Int.mul_nonneg ha.1 hb.1, Int.mul_le_mul ha.2 hb.2 hb.1 hx⟩

/-- A best rate that is told. -/
theorem bestV_ok {g : List (List (Int × Int))} {a b bu bd : Int} (h : bestV g a b = ((bu, bd), true)) : Rates g ∧ ∃ i j : Nat, a = i ∧ b = j ∧ i < g.length ∧ j < g.length ∧ rB (bu, bd) 8000 ∧ rCo (bu, bd) ∧ rLe (cellX g i j) (bu, bd) ∧ (i = j → bu = 1 ∧ bd = 1) ∧ (i ≠ j → bestD (cellX g) g.length i j = (bu, bd)) := by
  unfold bestV at h
  split at h
  · rename_i hc
    rw [Bool.and_eq_true, Bool.and_eq_true] at hc
    have hR := vRates_iff.1 hc.1.1
    have ha : 0 ≤ a ∧ a ≤ (g.length : Int) - 1 := of_decide_eq_true hc.1.2
    have hb : 0 ≤ b ∧ b ≤ (g.length : Int) - 1 := of_decide_eq_true hc.2
    have h4 := hR.len4
    refine ⟨hR, a.toNat, b.toNat, by omega, by omega, by omega, by omega, ?_⟩
    simp only [Prod.mk.injEq, and_true] at h
    have hi : a.toNat < g.length := by omega
    have hj : b.toNat < g.length := by omega
    by_cases e : a = b
    · subst e
      rw [if_pos rfl] at h
      obtain ⟨rfl, rfl⟩ : 1 = bu ∧ 1 = bd := by simpa using h
      refine ⟨⟨⟨by decide, by decide⟩, by decide, by decide⟩, by simp [rCo], ?_, fun _ => ⟨rfl, rfl⟩, fun hn => absurd rfl hn⟩
      rw [hR.one _ hi]
      exact rLe_refl _
    · rw [if_neg e] at h
      have hne : a.toNat ≠ b.toNat := by omega
      have hge := bestD_ge hR.bd h4 hi hj hne
      have hbd := bestD_bd hR.bd hi hj
      have hco := bestD_co hR.bd hi hj
      rw [h] at hge hbd hco
      exact ⟨hbd, hco, hge, fun x => absurd x hne, fun _ => h⟩
  · simp at h

set_option maxRecDepth 100000 in
set_option maxHeartbeats 3200000 in
theorem FnBestRate_walk (a : Option Addr) (n cap : Nat) (w : World) (h : IsBytes w a n) (hc : n ≤ cap) :
    Calls Try.prog 4 #[.slice a n cap] w fun e w' => e = .returned (.bool true) ∧ Below w.heap.size w w' := by
  by_cases hbig : (1048576 : Int) < (n : Int)
  · go_enter Try.func4, Try.ntmps4
    go_wp2
    go_ret
    exact ⟨rfl, Below.refl _ _⟩
  · go_enter Try.func4, Try.ntmps4
    go_wp2_with fail
    refine (DrawBestRate_any a n cap w h hc).mono ?_
    rintro e w1 ⟨v, g, x, y, rfl, g1, r45, hx, hy, b1⟩
    have hsz := r45.sized
    have HIM := Lib.hid (BestRate_impl v g x y w1 g1 hsz.1 hsz.2)
    have HSP := Lib.hid (fun wx hb => BestRate_spec v g x y wx (g1.below (w := w1) hb) hsz.1 hsz.2)
    have HOK := Lib.hid (fun bu bd => bestV_ok (g := g) (a := x) (b := y) (bu := bu) (bd := bd))
    clear hsz r45
    generalize bestV g x y = BV at *
    obtain ⟨⟨bu, bd⟩, bo⟩ := BV
    simp only at HSP HIM
    go_wp2_with fail
    refine HIM.out.mono ?_
    rintro e w2 ⟨rfl, d2⟩
    have x6 := IsBoxR.new w2 bu bd
    have a2 := d2.alloc d2.size (.cells #[.int .i64 bu, .int .i64 bd] 31)
    have l6 : w1.heap.size ≤ w2.heap.size := d2.size
    clear HIM d2
    go_wp2_with fail
    generalize w2.alloc (.cells #[.int .i64 bu, .int .i64 bd] 31) = w3 at *
    generalize w2.heap.size = c6 at *
    refine (HSP.out _ a2).mono ?_
    rintro e w4 ⟨rfl, d4⟩
    have x64 := x6.below d4
    have a4 := a2.trans (d4.mono a2.size)
    have j0 : (w4.alloc (.cells #[.int .i64 bu, .int .i64 bd] 31)).cell? ⟨c6, 0, none⟩ = some (.int .i64 bu) := cell_alloc x64.cells.1.1
    have j1 : (w4.alloc (.cells #[.int .i64 bu, .int .i64 bd] 31)).cell? ⟨c6, 1, none⟩ = some (.int .i64 bd) := cell_alloc x64.cells.1.2
    have a5 := a4.alloc a4.size (.cells #[.int .i64 bu, .int .i64 bd] 31)
    clear HSP x6 a2 d4
    cases bo
    · have B5 := Lib.hid (b1.trans (a5.mono b1.size))
      clear HOK a5 a4 x64
      go_wp2
      go_ret
      exact ⟨rfl, B5.out⟩
    · obtain ⟨hR, i, j, rfl, rfl, hi, hj, hbb, hco, hle, hii, hij⟩ := HOK.out bu bd rfl
      have x65 := x64.alloc (.cells #[.int .i64 bu, .int .i64 bd] 31)
      have g5 := g1.below a5
      have b5 := b1.trans (a5.mono b1.size)
      have HDV := Lib.hid (fun wx => divisor_one hbb (by decide) hco wx)
      obtain ⟨av, cp, rfl, _⟩ := id g5
      obtain ⟨b, off, ar, cr, rfl, ci, hrow⟩ := g5.row i hi
      have hlk := hR.row i hi
      obtain ⟨br, fr, rfl, e0, e1⟩ := hrow.at j (by omega)
      have hcb := hR.bd i j hi hj
      have i1 : (i : Int) < (g.length : Int) := by omega
      have j2 : (j : Int) < ((rowR g i).length : Int) := by omega
      have hle2 : rUp (rowR g i) j * bd ≤ bu * rDn (rowR g i) j := hle
      have q1 : 1 ≤ rUp (rowR g i) j ∧ rUp (rowR g i) j ≤ 20 := hcb.1
      have q2 : 1 ≤ rDn (rowR g i) j ∧ rDn (rowR g i) j ≤ 20 := hcb.2
      have q3 : 1 ≤ bu ∧ bu ≤ 8000 := hbb.1
      have q4 : 1 ≤ bd ∧ bd ≤ 8000 := hbb.2
      have p1 := mul_bd (a := rUp (rowR g i) j) (b := bd) (x := 20) (y := 8000) (by omega) (by omega) (by decide)
      have p2 := mul_bd (a := bu) (b := rDn (rowR g i) j) (x := 8000) (y := 20) (by omega) (by omega) (by decide)
      have HII := Lib.hid hii
      have HLK := Lib.hid hlk
      clear HOK hco hij a4 g1 b1 a5 hle hcb hrow hR hii hlk hbb g5 x64
      have hij2 : ((i : Int) != (j : Int)) = true ∨ (i = j ∧ ((i : Int) != (j : Int)) = false) := by
        by_cases e : i = j
        · exact .inr ⟨e, by simp [e]⟩
        · exact .inl (by simp; omega)
      generalize rUp (rowR g i) j = xu at *
      generalize rDn (rowR g i) j = xd at *
      have k0 : ((w4.alloc (.cells #[.int .i64 bu, .int .i64 bd] 31)).alloc (.cells #[.int .i64 xu, .int .i64 xd] 31)).cell? ⟨c6, 0, none⟩ = some (.int .i64 bu) := cell_alloc x65.cells.1.1
      have k1 : ((w4.alloc (.cells #[.int .i64 bu, .int .i64 bd] 31)).alloc (.cells #[.int .i64 xu, .int .i64 xd] 31)).cell? ⟨c6, 1, none⟩ = some (.int .i64 bd) := cell_alloc x65.cells.1.2
      have B6 := Lib.hid (b5.trans ((Below.refl (w4.alloc (.cells #[.int .i64 bu, .int .i64 bd] 31)).heap.size (w4.alloc (.cells #[.int .i64 bu, .int .i64 bd] 31))).alloc (Nat.le_refl _) (.cells #[.int .i64 xu, .int .i64 xd] 31) |>.mono b5.size))
      clear x65 b5
      go_wp2_with fail
      refine (HDV.out _).mono ?_
      rintro e w' ⟨rfl, rfl⟩
      rcases hij2 with hie | ⟨rfl, hie⟩
      · clear HII
        go_wp2
        go_ret
        exact ⟨rfl, B6.out⟩
      · obtain ⟨rfl, rfl⟩ := HII.out rfl
        clear HII
        go_wp2
        go_ret
        exact ⟨rfl, B6.out⟩

end Go.Proofs.Ytiffjeclpgcabaa
