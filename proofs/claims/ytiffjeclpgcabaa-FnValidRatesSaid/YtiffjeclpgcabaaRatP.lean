/- Products of ratios, and the greater of two: in the model and in the program. -/
import Derived.Test.YtiffjeclpgcabaaRatM
import Derived.Test.YtiffjeclpgcabaaRaS
import Derived.Test.YtiffjeclpgcabaaSpread
import Derived.Test.YtiffjeclpgcabaaReadH
import Derived.Deep.QuietTactic
import Derived.BigQuiet
import Derived.RegionTactic
namespace Go.Proofs.Ytiffjeclpgcabaa
open Go.RowKit

/-- The greatest common divisor of numbers. -/
def gcdR (cs : List Int) : Int := cs.foldl (fun g c => ((Nat.gcd g.toNat c.toNat : Nat) : Int)) 0

theorem gcdR_succ {cs : List Int} {i : Nat} (h : i < cs.length) : gcdR (cs.take (i + 1)) = ((Nat.gcd (gcdR (cs.take i)).toNat (cs.getD i 0).toNat : Nat) : Int) := by
  unfold gcdR
  rw [List.take_succ_eq_append_getElem h, List.foldl_append]
  simp [List.getD, h]

theorem gcdR_bd {cs : List Int} (hc : ∀ c ∈ cs, 1 ≤ c ∧ c ≤ 1000000) : ∀ i, i ≤ cs.length → 0 ≤ gcdR (cs.take i) ∧ gcdR (cs.take i) ≤ 1000000 := by
  intro i
  induction i with
  | zero => intro _; simp [gcdR]
  | succ i ih =>
    intro hi
    have h0 := ih (by omega)
    have hx := hc (cs.getD i 0) (by simp [List.getD, show i < cs.length by omega])
    rw [gcdR_succ (by omega)]
    have := Nat.gcd_le_right (gcdR (cs.take i)).toNat (show 0 < (cs.getD i 0).toNat by omega)
    omega

theorem gcdR_two (x : Int × Int) (hx : rPos x) : gcdR [x.1, x.2] = rG x := by
  have h1 := hx.1
  have h2 : max x.1 0 = x.1 := by omega
  simp [gcdR, rG, h2]

set_option maxRecDepth 100000 in
set_option maxHeartbeats 1600000 in
theorem commonDivisor_any (v : Value) (cs : List Int) (w : World) (hv : IsInts w v cs) (hl : cs.length ≤ 5) (h1 : ∀ c ∈ cs, 1 ≤ c ∧ c ≤ 1000000) :
    Calls Try.prog 85 #[v] w fun e w' => e = .returned (.int .i64 (gcdR cs)) ∧ Below w.heap.size w w' := by
  obtain ⟨a, cap, rfl, hc⟩ := hv
  have HAT : Hid (∀ i, i < cs.length → 1 ≤ cs.getD i 0 ∧ cs.getD i 0 ≤ 1000000) := fun i hi => h1 _ (by simp [List.getD, hi])
  have HGL : Hid (∀ i, i ≤ cs.length → 0 ≤ gcdR (cs.take i) ∧ gcdR (cs.take i) ≤ 1000000) := gcdR_bd h1
  have HGS : Hid (∀ i, i < cs.length → gcdR (cs.take (i + 1)) = ((Nat.gcd (gcdR (cs.take i)).toNat (cs.getD i 0).toNat : Nat) : Int)) := fun i hi => gcdR_succ hi
  have HG0 : Hid (gcdR (cs.take 0) = 0) := by show _ = _; simp [gcdR]
  clear h1
  go_enter Try.func85, Try.ntmps85
  go_wp2
  go_loopw [3, 5, 8] (fun gv _ iv wr => ∃ i : Nat, i ≤ cs.length ∧ iv = .int .i64 i ∧ gv = .int .i64 (gcdR (cs.take i)) ∧ Below w.heap.size w wr) (fun _ _ iv _ => cs.length - (intOf iv).toNat)
  case atStart => exact ⟨0, Nat.zero_le _, rfl, by rw [HG0.out], Below.refl _ _⟩
  case round =>
    obtain ⟨i, hi, rfl, rfl, hbl⟩ := hrel
    rename World => wr
    by_cases hlt : i < cs.length
    · have i1 : (i : Int) < (cs.length : Int) := by omega
      obtain ⟨b, off, rfl, c0⟩ := hc i hlt
      have ci := (hbl.cell (by exact World.block_lt_of_cell? w _ c0)).trans c0
      have hat := HAT.out i hlt
      have hgl := HGL.out i hi
      have HN := Lib.hid (HGS.out i hlt)
      clear hc c0
      obtain ⟨c, hcn⟩ : ∃ c : Nat, cs.getD i 0 = c := ⟨(cs.getD i 0).toNat, by omega⟩
      obtain ⟨g, hgn⟩ : ∃ g : Nat, gcdR (cs.take i) = g := ⟨(gcdR (cs.take i)).toNat, by omega⟩
      rw [hcn] at ci hat
      rw [hgn] at hgl ⊢
      have HN2 : Hid (gcdR (cs.take (i + 1)) = ((Nat.gcd g c : Nat) : Int)) := by
        have := HN.out
        rw [hcn, hgn] at this
        exact this
      clear hcn hgn HN
      go_wp2
      go_loopw [3, 5] (fun xv yv wx => ∃ x y : Nat, xv = .int .i64 x ∧ yv = .int .i64 y ∧ x ≤ 1000000 ∧ y ≤ 1000000 ∧ Nat.gcd x y = Nat.gcd g c ∧ Below w.heap.size w wx) (fun _ yv _ => (intOf yv).toNat)
      case atStart => exact ⟨g, c, rfl, rfl, by omega, by omega, rfl, hbl⟩
      case round =>
        clear hbl ci
        obtain ⟨x, y, rfl, rfl, hx, hy, hg, hbl⟩ := hrel
        rename World => wx
        have HG := Lib.hid hg
        clear hg
        by_cases h : y = 0
        · subst h
          have HX : Hid (gcdR (cs.take (i + 1)) = (x : Int)) := by show _ = _; rw [HN2.out, ← HG.out, Nat.gcd_zero_right]
          have hb0 : (((0 : Nat) : Int) != 0) = false := by simp
          go_wp2
          go_roundw
          case rel => exact ⟨i + 1, by omega, by go_num, by rw [HX.out], hbl⟩
          case measure => simp [intOf]; omega
        · have y1 : (0 : Int) < (y : Int) := by omega
          have y2 : (y : Int) ≠ 0 := by omega
          have hb0 : ((y : Int) != 0) = true := by simp; omega
          have hm0 := Int.emod_nonneg (x : Int) y2
          have hm1 := Int.emod_lt_of_pos (x : Int) y1
          have l3 : x % y < y := Nat.mod_lt _ (by omega)
          have HNG : Hid (Nat.gcd y (x % y) = Nat.gcd g c) := by
            show _ = _
            rw [← HG.out, Nat.gcd_comm y (x % y), ← Nat.gcd_rec y x, Nat.gcd_comm]
          have hbz := hbl.size
          have HBD : Hid (∀ q, Below w.heap.size w (wx.drewN q)) := fun q => below_drewN hbl q
          go_wp2
          go_quiet (fail)
          go_wp2
          go_roundw
          case rel => exact ⟨y, x % y, rfl, by go_num, by omega, by omega, HNG.out, HBD.out _⟩
          case measure => simp [intOf]; omega
    · obtain rfl : i = cs.length := by omega
      rw [List.take_length]
      go_wp2
      go_ret
      exact ⟨rfl, hbl⟩

set_option maxHeartbeats 1600000 in
theorem gcdR_spec (a b : Nat) (w : World) (ha : a ≤ 1000000) (hb : b ≤ 1000000) :
    Calls Try.prog 86 #[.int .i64 (a : Int), .int .i64 (b : Int)] w fun e w' => e = .returned (.int .i64 ((Nat.gcd a b : Nat) : Int)) ∧ w = w' := by
  go_enter Try.func86, Try.ntmps86
  go_wp2
  go_loopw [0, 1, 5] (fun av bv _ wr => ∃ x y : Nat, av = .int .i64 x ∧ bv = .int .i64 y ∧ x ≤ 1000000 ∧ y ≤ 1000000 ∧ Nat.gcd x y = Nat.gcd a b ∧ wr = w) (fun _ bv _ _ => (intOf bv).toNat)
  case atStart => exact ⟨a, b, rfl, rfl, ha, hb, rfl, rfl⟩
  case round =>
    obtain ⟨x, y, rfl, rfl, hx, hy, hg, rfl⟩ := hrel
    have HG := Lib.hid hg
    clear hg
    by_cases h : 0 < y
    · have y1 : (0 : Int) < (y : Int) := by omega
      have y2 : (y : Int) ≠ 0 := by omega
      have hm0 := Int.emod_nonneg (x : Int) y2
      have hm1 := Int.emod_lt_of_pos (x : Int) y1
      have l3 : x % y < y := Nat.mod_lt _ h
      have HN : Hid (Nat.gcd y (x % y) = Nat.gcd a b) := by
        show _ = _
        rw [← HG.out, Nat.gcd_comm y (x % y), ← Nat.gcd_rec y x, Nat.gcd_comm]
      go_wp2
      go_roundw
      case rel => exact ⟨y, x % y, rfl, by go_num, hy, by omega, HN.out, trivial⟩
      case measure => simp [intOf]; omega
    · have y0 : y = 0 := by omega
      subst y0
      have HN : Hid (((Nat.gcd a b : Nat) : Int) = (x : Int)) := by show _ = _; rw [← HG.out, Nat.gcd_zero_right]
      have y1 : ¬ (0 : Int) < ((0 : Nat) : Int) := by omega
      go_wp2
      go_ret
      exact ⟨ret_int HN.out.symm, rfl⟩

/-- The result lies in a box. -/
theorem ret_box {f : Func} {c : Nat} (hf : f.results = #[.cell c 31]) {ts : Array Value} {w : World} {b : Nat} {u d : Int} (hs : ts.getD c undef = .pointer (some ⟨b, 0, none⟩)) (hb : IsBoxR w b u d) {P : Ending → World → Prop} (h : P (.returned (rv u d)) w) :
    bodyPost Try.prog f P .ret { tmps := ts, defers := [] } w := by
  exact bodyPost_ret (v := rv u d) (results_cell_row hf ts _ b 31 _ (0, 0) _ hs hb Try.underlying31 rfl (by kernel_rfl)) rfl h

theorem IsBoxR.set {w : World} {b : Nat} {u d : Int} (h : IsBoxR w b u d) (u' d' : Int) : IsBoxR ((w.setCell ⟨b, 0, none⟩ (.int .i64 u')).setCell ⟨b, 1, none⟩ (.int .i64 d')) b u' d' := by
  unfold IsBoxR at *
  have h1 := heap_setCell_same w b 0 _ _ (.int .i64 u') h
  have h2 := heap_setCell_same _ b 1 _ _ (.int .i64 d') h1
  rw [h2]
  rfl

theorem IsBoxR.other {w : World} {b c : Nat} {u d : Int} (h : IsBoxR w b u d) (hne : b ≠ c) (j : Nat) (x : Value) : IsBoxR (w.setCell ⟨c, j, none⟩ x) b u d := (heap_setCell_other w ⟨c, j, none⟩ b _ hne).trans h

set_option maxRecDepth 100000 in
set_option maxHeartbeats 1600000 in
theorem greater_impl (x y : Int × Int) (w : World) (hx : rB x 1000000) (hy : rB y 1000000) :
    Calls Try.prog 67 #[rv x.1 x.2, rv y.1 y.2] w fun e w' => e = .returned (rv (rMax x y).1 (rMax x y).2) ∧ Below w.heap.size w w' := by
  obtain ⟨a, b⟩ := x
  obtain ⟨c, d⟩ := y
  obtain ⟨⟨a1, a2⟩, b1, b2⟩ := hx
  obtain ⟨⟨c1, c2⟩, d1, d2⟩ := hy
  simp only at *
  have p1 : 0 ≤ c * b := Int.mul_nonneg (by omega) (by omega)
  have p2 : c * b ≤ 1000000 * 1000000 := Int.mul_le_mul c2 b2 (by omega) (by omega)
  have q1 : 0 ≤ a * d := Int.mul_nonneg (by omega) (by omega)
  have q2 : a * d ≤ 1000000 * 1000000 := Int.mul_le_mul a2 d2 (by omega) (by omega)
  have W1 : IntKind.i64.wrap (c * b) = c * b := IntWalk.i64_in _ (by omega)
  have W2 : IntKind.i64.wrap (a * d) = a * d := IntWalk.i64_in _ (by omega)
  have HY : Hid (a * d < c * b → rMax (a, b) (c, d) = (c, d)) := fun h => by unfold rMax; rw [if_pos h]
  have HN : Hid (¬ a * d < c * b → rMax (a, b) (c, d) = (a, b)) := fun h => by unfold rMax; rw [if_neg h]
  have s2 : ∀ u v : Int, IsBoxR (((w.alloc (.cells #[.int .i64 a, .int .i64 b] 31)).alloc (.cells #[.int .i64 c, .int .i64 d] 31)).alloc (.cells #[.int .i64 u, .int .i64 v] 31)) (w.heap.size + 1 + 1) u v := fun u v => by
    have := IsBoxR.new ((w.alloc (.cells #[.int .i64 a, .int .i64 b] 31)).alloc (.cells #[.int .i64 c, .int .i64 d] 31)) u v
    simpa only [World.size_alloc] using this
  have hb : ∀ u v : Int, Below w.heap.size w (((w.alloc (.cells #[.int .i64 a, .int .i64 b] 31)).alloc (.cells #[.int .i64 c, .int .i64 d] 31)).alloc (.cells #[.int .i64 u, .int .i64 v] 31)) := fun u v => (((Below.refl _ _).alloc (Nat.le_refl _) _).alloc (by simp) _).alloc (by simp; omega) _
  have S2 := Lib.hid s2
  have HB := Lib.hid hb
  clear s2 hb
  by_cases hlt : a * d < c * b
  · have E := Lib.hid (HY.out hlt)
    go_enter Try.func67, Try.ntmps67
    go_wp2
    exact ret_box (c := 4) rfl rfl (S2.out _ _) ⟨by rw [E.out], HB.out _ _⟩
  · have E := Lib.hid (HN.out hlt)
    go_enter Try.func67, Try.ntmps67
    go_wp2
    exact ret_box (c := 4) rfl rfl (S2.out _ _) ⟨by rw [E.out], HB.out _ _⟩

set_option maxRecDepth 100000 in
set_option maxHeartbeats 1600000 in
theorem less_spec (x y : Int × Int) (w : World) (hx : rB x 1000000) (hy : rB y 1000000) :
    Calls Try.prog 69 #[rv x.1 x.2, rv y.1 y.2] w fun e w' => e = .returned (.bool (decide (x.1 * y.2 < y.1 * x.2))) ∧ Below w.heap.size w w' := by
  obtain ⟨a, b⟩ := x
  obtain ⟨c, d⟩ := y
  obtain ⟨⟨a1, a2⟩, b1, b2⟩ := hx
  obtain ⟨⟨c1, c2⟩, d1, d2⟩ := hy
  simp only at *
  have p1 : 0 ≤ c * b := Int.mul_nonneg (by omega) (by omega)
  have p2 : c * b ≤ 1000000 * 1000000 := Int.mul_le_mul c2 b2 (by omega) (by omega)
  have q1 : 0 ≤ a * d := Int.mul_nonneg (by omega) (by omega)
  have q2 : a * d ≤ 1000000 * 1000000 := Int.mul_le_mul a2 d2 (by omega) (by omega)
  have W1 : IntKind.i64.wrap (c * b) = c * b := IntWalk.i64_in _ (by omega)
  have W2 : IntKind.i64.wrap (a * d) = a * d := IntWalk.i64_in _ (by omega)
  have HB : Hid (Below w.heap.size w ((w.alloc (.cells #[.int .i64 a, .int .i64 b] 31)).alloc (.cells #[.int .i64 c, .int .i64 d] 31))) := ((Below.refl _ _).alloc (Nat.le_refl _) _).alloc (by simp) _
  go_enter Try.func69, Try.ntmps69
  go_wp2
  go_ret
  exact ⟨rfl, HB.out⟩

set_option maxRecDepth 100000 in
set_option maxHeartbeats 1600000 in
theorem product_spec (x y : Int × Int) (w : World) (hx : rPos x) (hy : rPos y) (hp : rB (rMul x y) 1000000) :
    Calls Try.prog 68 #[rv x.1 x.2, rv y.1 y.2] w fun e w' => e = .returned (rv (rProd x y).1 (rProd x y).2) ∧ Below w.heap.size w w' := by
  have hg := (rG_facts hp.pos).1
  have hq := rRed_bd hp
  obtain ⟨⟨p1, p2⟩, q1, q2⟩ := hp
  have HE : Hid ((rProd x y).1 = (rMul x y).1 / rG (rMul x y) ∧ (rProd x y).2 = (rMul x y).2 / rG (rMul x y)) := ⟨rfl, rfl⟩
  have HG : Hid (rG (rMul x y) = ((Nat.gcd (rMul x y).1.toNat (rMul x y).2.toNat : Nat) : Int)) := rfl
  obtain ⟨a, b⟩ := x
  obtain ⟨c, d⟩ := y
  simp only [rMul] at p1 p2 q1 q2 HG HE hg
  have W1 : IntKind.i64.wrap (a * c) = a * c := IntWalk.i64_in _ (by omega)
  have W2 : IntKind.i64.wrap (b * d) = b * d := IntWalk.i64_in _ (by omega)
  have s2 : ∀ u v : Int, IsBoxR (((w.alloc (.cells #[.int .i64 a, .int .i64 b] 31)).alloc (.cells #[.int .i64 c, .int .i64 d] 31)).alloc (.cells #[.int .i64 u, .int .i64 v] 31)).drew (w.heap.size + 1 + 1) u v := fun u v => by
    have := IsBoxR.new ((w.alloc (.cells #[.int .i64 a, .int .i64 b] 31)).alloc (.cells #[.int .i64 c, .int .i64 d] 31)) u v
    simp only [World.size_alloc] at this
    exact this
  have hb : ∀ u v : Int, Below w.heap.size w (((w.alloc (.cells #[.int .i64 a, .int .i64 b] 31)).alloc (.cells #[.int .i64 c, .int .i64 d] 31)).alloc (.cells #[.int .i64 u, .int .i64 v] 31)).drew := fun u v => ((((Below.refl _ _).alloc (Nat.le_refl _) _).alloc (by simp) _).alloc (by simp; omega) _).drew
  have S2 := Lib.hid s2
  have HB := Lib.hid hb
  have HC : Hid (∀ wx, Calls Try.prog 86 #[.int .i64 (a * c), .int .i64 (b * d)] wx fun e w' => e = .returned (.int .i64 (rG (a * c, b * d))) ∧ wx = w') := fun wx => by
    have := gcdR_spec (a * c).toNat (b * d).toNat wx (by omega) (by omega)
    rw [Int.toNat_of_nonneg (by omega), Int.toNat_of_nonneg (by omega)] at this
    exact this
  clear s2 hb HG
  have HQ := Lib.hid hq
  have hgz : rG (a * c, b * d) ≠ 0 := by omega
  have hd1 := Int.ediv_nonneg (show 0 ≤ a * c by omega) (show 0 ≤ rG (a * c, b * d) by omega)
  have hd2 := Int.ediv_nonneg (show 0 ≤ b * d by omega) (show 0 ≤ rG (a * c, b * d) by omega)
  have hd3 := Int.ediv_le_self (rG (a * c, b * d)) (show 0 ≤ a * c by omega)
  have hd4 := Int.ediv_le_self (rG (a * c, b * d)) (show 0 ≤ b * d by omega)
  generalize rG (a * c, b * d) = g at *
  clear hq
  go_enter Try.func68, Try.ntmps68
  go_wp2_with (go_at_call 86; refine (HC.out _).mono ?_; rintro e w' ⟨rfl, rfl⟩)
  go_region
  all_goals go_wp2
  all_goals exact ret_box (c := 4) rfl rfl (S2.out _ _) ⟨by rw [HE.out.1, HE.out.2], HB.out _ _⟩

set_option maxRecDepth 100000 in
set_option maxHeartbeats 3200000 in
theorem times_impl (x y : Int × Int) (w : World) (hx : rPos x) (hy : rPos y) (hp : rB (rMul x y) 1000000) :
    Calls Try.prog 66 #[rv x.1 x.2, rv y.1 y.2] w fun e w' => e = .returned (rv (rProd x y).1 (rProd x y).2) ∧ Below w.heap.size w w' := by
  have hg := (rG_facts hp.pos).1
  have hq := rRed_bd hp
  have hcd := gcdR_two (rMul x y) hp.pos
  obtain ⟨⟨p1, p2⟩, q1, q2⟩ := hp
  have HE : Hid ((rProd x y).1 = (rMul x y).1 / rG (rMul x y) ∧ (rProd x y).2 = (rMul x y).2 / rG (rMul x y)) := ⟨rfl, rfl⟩
  obtain ⟨a, b⟩ := x
  obtain ⟨c, d⟩ := y
  simp only [rMul] at p1 p2 q1 q2 HE hg hcd
  have W1 : IntKind.i64.wrap (a * c) = a * c := IntWalk.i64_in _ (by omega)
  have W2 : IntKind.i64.wrap (b * d) = b * d := IntWalk.i64_in _ (by omega)
  have s2 : IsBoxR (((w.alloc (.cells #[.int .i64 a, .int .i64 b] 31)).alloc (.cells #[.int .i64 c, .int .i64 d] 31)).alloc (.cells #[.int .i64 0, .int .i64 0] 31)) (w.heap.size + 1 + 1) 0 0 := by
    have := IsBoxR.new ((w.alloc (.cells #[.int .i64 a, .int .i64 b] 31)).alloc (.cells #[.int .i64 c, .int .i64 d] 31)) 0 0
    simpa only [World.size_alloc] using this
  have hb : Below w.heap.size w (((w.alloc (.cells #[.int .i64 a, .int .i64 b] 31)).alloc (.cells #[.int .i64 c, .int .i64 d] 31)).alloc (.cells #[.int .i64 0, .int .i64 0] 31)) := (((Below.refl _ _).alloc (Nat.le_refl _) _).alloc (by simp) _).alloc (by simp; omega) _
  have HC : Hid (∀ v wx, IsInts wx v [a * c, b * d] → Calls Try.prog 85 #[v] wx fun e w' => e = .returned (.int .i64 (rG (a * c, b * d))) ∧ Below wx.heap.size wx w') := fun v wx hv => by
    have := commonDivisor_any v [a * c, b * d] wx hv (by simp) (by intro z hz; simp at hz; rcases hz with rfl | rfl <;> omega)
    rwa [hcd] at this
  have hgz : rG (a * c, b * d) ≠ 0 := by omega
  have hd1 := Int.ediv_nonneg (show 0 ≤ a * c by omega) (show 0 ≤ rG (a * c, b * d) by omega)
  have hd2 := Int.ediv_nonneg (show 0 ≤ b * d by omega) (show 0 ≤ rG (a * c, b * d) by omega)
  have hd3 := Int.ediv_le_self (rG (a * c, b * d)) (show 0 ≤ a * c by omega)
  have hd4 := Int.ediv_le_self (rG (a * c, b * d)) (show 0 ≤ b * d by omega)
  generalize rG (a * c, b * d) = g at *
  clear hq hcd
  go_enter Try.func66, Try.ntmps66
  go_wp2
  go_quiet (fail)
  go_wp2_with fail
  have esz : (((w.alloc (.cells #[.int .i64 a, .int .i64 b] 31)).alloc (.cells #[.int .i64 c, .int .i64 d] 31)).alloc (.cells #[.int .i64 0, .int .i64 0] 31)).heap.size = w.heap.size + 1 + 1 + 1 := by simp
  have ESZ := Lib.hid esz
  clear esz
  generalize (((w.alloc (.cells #[.int .i64 a, .int .i64 b] 31)).alloc (.cells #[.int .i64 c, .int .i64 d] 31)).alloc (.cells #[.int .i64 0, .int .i64 0] 31)) = w0 at *
  have b3 : Below w0.heap.size w0 ((w0.drewN nq).alloc (.cells #[.int .i64 (a * c), .int .i64 (b * d)] 3)) := (below_drewN (Below.refl w0.heap.size w0) nq).alloc (by simp) _
  have ol := own_lit (w0.drewN nq) 0 [a * c, b * d] #[.int .i64 (a * c), .int .i64 (b * d)] rfl (Nat.zero_le _) (by simp)
  have i3 := ol.ints
  rw [show (w0.drewN nq).heap.size = w.heap.size + 1 + 1 + 1 by rw [← ESZ.out]; simp] at i3
  have s3 := s2.below b3
  have hb3 := hb.trans (b3.mono hb.size)
  clear ol b3 s2 hb
  generalize (w0.drewN nq).alloc (.cells #[.int .i64 (a * c), .int .i64 (b * d)] 3) = w3 at *
  refine (HC.out _ _ i3).mono ?_
  rintro e w4 ⟨rfl, d4⟩
  have s4 := s3.below d4
  have hb4 := hb3.trans (d4.mono hb3.size)
  obtain ⟨⟨c0, c1⟩, f0⟩ := s4.cells
  have g0 := f0 0
  have g1 := f0 1
  have S5 : Hid (∀ u v : Int, IsBoxR ((w4.setCell ⟨w.heap.size + 1 + 1, 0, none⟩ (.int .i64 u)).setCell ⟨w.heap.size + 1 + 1, 1, none⟩ (.int .i64 v)).drew (w.heap.size + 1 + 1) u v) := fun u v => s4.set u v
  have HB5 : Hid (∀ u v : Int, Below w.heap.size w ((w4.setCell ⟨w.heap.size + 1 + 1, 0, none⟩ (.int .i64 u)).setCell ⟨w.heap.size + 1 + 1, 1, none⟩ (.int .i64 v)).drew) := fun u v => ((hb4.setCell (by show w.heap.size ≤ w.heap.size + 1 + 1; omega) _).setCell (by show w.heap.size ≤ w.heap.size + 1 + 1; omega) _).drew
  clear f0 s3 s4 d4 hb3 hb4 i3
  go_wp2
  go_region
  all_goals go_wp2
  all_goals exact ret_box (c := 4) rfl rfl (S5.out _ _) ⟨by rw [HE.out.1, HE.out.2], HB5.out _ _⟩

end Go.Proofs.Ytiffjeclpgcabaa
