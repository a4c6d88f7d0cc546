/- The best rates, in the program: all ways. -/
import Derived.Test.YtiffjeclpgcabaaBstI
import Derived.Test.YtiffjeclpgcabaaRatI
namespace Go.Proofs.Ytiffjeclpgcabaa
open Go.RowKit

section
variable {g : List (List (Int × Int))}

theorem bestTo_spec (hR : Rates g) {tt : Nat} (ht : tt < g.length) : ∀ (f : Nat) (v : Value) (l : Nat) (U : Nat → Bool) (now : Int × Int) (M : Int) (w : World), IsGridR w v g → l < g.length → l ≠ tt → rB now M → M * 20 ^ (f + 1) ≤ 8000 → freeC tt (setU U l) g.length ≤ f →
    Calls Try.prog 84 #[kv now.1 now.2 l U, v, .int .i64 tt] w fun e w' => e = .returned (rv (bestM (cellX g) g.length tt f (setU U l) l now).1 (bestM (cellX g) g.length tt f (setU U l) l now).2) ∧ Below w.heap.size w w' := by
  intro f
  induction f with
  | zero =>
    intro v l U now M w hv hl hlt hn hM hfr
    have hM1 : M ≤ 400 := by simp at hM; omega
    have h0 : freeC tt (setU U l) g.length = 0 := by omega
    have := bestTo_body (fun _ _ _ => (1, 1)) v l tt U now w hv hR hl ht hlt (hn.mono hM1) (fun k hk => ⟨by decide, by decide⟩) (fun k hk hu wx hbx => by
      by_cases e : k = tt
      · subst e
        rw [if_pos rfl]
        exact bestTo_base v k (setU U l) _ wx
      · exact absurd ⟨hu, e⟩ (freeC_none h0 hk))
    rw [bestK_none _ _ h0] at this
    exact this
  | succ f ih =>
    intro v l U now M w hv hl hlt hn hM hfr
    have hp : (1 : Int) ≤ 20 ^ (f + 1) := Int.pow_pos (by decide)
    have hM0 : 1 ≤ M := by have := hn.1; omega
    have hM2 : M * 20 * 20 ^ (f + 1) ≤ 8000 := by
      have e : M * 20 ^ (f + 1 + 1) = M * 20 * 20 ^ (f + 1) := by rw [Int.pow_succ, Int.mul_assoc, Int.mul_comm (20 ^ (f + 1)) 20]
      rwa [e] at hM
    have hM3 : M * 20 ≤ 8000 := by
      have := Int.mul_le_mul_of_nonneg_left hp (show 0 ≤ M * 20 by omega)
      omega
    have hbd : ∀ k, k < g.length → rB (rProd now (cellX g l k)) (M * 20) := fun k hk => rProd_bd hn (hR.bd l k hl hk)
    exact bestTo_body (bestM (cellX g) g.length tt f) v l tt U now w hv hR hl ht hlt (hn.mono (by omega)) (fun k hk => (bestM_bd hR.bd ht f _ k _ _ hk (hbd k hk)).mono hM2) (fun k hk hu wx hbx => by
      by_cases e : k = tt
      · subst e
        rw [if_pos rfl]
        exact bestTo_base v k (setU U l) _ wx
      · rw [if_neg e]
        have hfr' : freeC tt (setU (setU U l) k) g.length ≤ f := by
          have := @freeC_le tt (setU U l) k g.length hk ⟨hu, e⟩
          omega
        exact ih v k (setU U l) (rProd now (cellX g l k)) (M * 20) wx (hv.below hbx) hk e (hbd k hk) hM2 hfr')

theorem setU_none (a : Nat) : setU (fun _ => false) a = fun j => decide (j = a) := by
  refine funext fun j => ?_
  simp [setU]

/-- The best rate between two moneys, the program's. -/
def bestN (g : List (List (Int × Int))) (a b : Nat) : Int × Int := if a = b then (1, 1) else bestD (cellX g) g.length a b

theorem bestTo_start (hR : Rates g) {a b : Nat} (ha : a < g.length) (hb : b < g.length) (v : Value) (w : World) (hv : IsGridR w v g) :
    Calls Try.prog 84 #[.agg #[.int .i64 1, .int .i64 1, .int .i64 a, .bool false, .bool false, .bool false, .bool false], v, .int .i64 b] w fun e w' => e = .returned (rv (bestN g a b).1 (bestN g a b).2) ∧ Below w.heap.size w w' := by
  have h4 := hR.len4
  unfold bestN
  by_cases e : a = b
  · subst e
    rw [if_pos rfl]
    exact bestTo_base v a (fun _ => false) (1, 1) w
  · rw [if_neg e]
    have hf := freeC_two ⟨g.length, by omega⟩ ⟨a, by omega⟩ ⟨b, by omega⟩ ha hb e
    have := bestTo_spec hR hb 2 v a (fun _ => false) (1, 1) 1 w hv ha e ⟨by decide, by decide⟩ (by decide) (by rw [setU_none]; exact hf)
    rw [setU_none] at this
    exact this

set_option maxHeartbeats 1600000 in
theorem bestRate_impl (hR : Rates g) {a b : Nat} (ha : a < g.length) (hb : b < g.length) (v : Value) (w : World) (hv : IsGridR w v g) :
    Calls Try.prog 62 #[v, .int .i64 a, .int .i64 b] w fun e w' => e = .returned (rv (bestN g a b).1 (bestN g a b).2) ∧ Below w.heap.size w w' := by
  have HB := Lib.hid (fun wx hx => bestTo_start hR ha hb v wx (hv.below (w := w) hx))
  have x0 := (IsBoxR.new w 0 0).alloc (.cells #[.int .i64 1, .int .i64 1, .int .i64 a, .bool false, .bool false, .bool false, .bool false] 89)
  have b0 : Below w.heap.size w ((w.alloc (.cells #[.int .i64 0, .int .i64 0] 31)).alloc (.cells #[.int .i64 1, .int .i64 1, .int .i64 a, .bool false, .bool false, .bool false, .bool false] 89)) := ((Below.refl _ _).alloc (Nat.le_refl _) _).alloc (by simp) _
  go_enter Try.func62, Try.ntmps62
  go_wp2_with fail
  generalize (w.alloc (.cells #[.int .i64 0, .int .i64 0] 31)).alloc (.cells #[.int .i64 1, .int .i64 1, .int .i64 a, .bool false, .bool false, .bool false, .bool false] 89) = w1 at *
  refine (HB.out _ b0).mono ?_
  rintro e w2 ⟨rfl, d2⟩
  have x2 := x0.below d2
  have b2 := b0.trans (d2.mono b0.size)
  have f0 := x2.cells.2 0
  have f1 := x2.cells.2 1
  have c0 := x2.cells.1.1
  have c1 := x2.cells.1.2
  have XS := Lib.hid (x2.set (bestN g a b).1 (bestN g a b).2)
  have HBS := Lib.hid (below_set2 (u := .int .i64 (bestN g a b).1) (v := .int .i64 (bestN g a b).2) b2 (Nat.le_refl _))
  clear x0 b0 x2 d2 b2
  go_wp2
  exact ret_box (c := 6) rfl rfl XS.out ⟨rfl, HBS.out⟩

end

theorem inRange_atBI (x lo hi : Int) (r : Bool) (w : World) (h : inR x lo hi = r) : Calls Try.prog 58 #[.int .i64 x, .int .i64 lo, .int .i64 hi] w fun e w' => e = .returned (.bool r) ∧ w = w' := by
  subst h; exact inRange_impl _ _ _ _

set_option maxRecDepth 100000 in
set_option maxHeartbeats 3200000 in
theorem BestRate_impl (v : Value) (g : List (List (Int × Int))) (a b : Int) (w : World) (hv : IsGridR w v g) (hl : g.length ≤ 9223372036854775807) (hr : ∀ i, i < g.length → (rowR g i).length ≤ 9223372036854775807) :
    Calls Try.prog 23 #[v, .int .i64 a, .int .i64 b] w fun e w' => e = .returned (.tuple #[rv (bestV g a b).1.1 (bestV g a b).1.2, .bool (bestV g a b).2]) ∧ Below w.heap.size w w' := by
  have HVR := Lib.hid (fun wx hb => ValidRates_impl v g wx (hv.below (w := w) hb) hl hr)
  have HCC := Lib.hid inRange_atBI
  have hv' := hv
  obtain ⟨av, cap, rfl, _⟩ := hv
  have x0 := IsBoxR.new w 0 0
  have hb0 : Below w.heap.size w (w.alloc (.cells #[.int .i64 0, .int .i64 0] 31)) := (Below.refl _ _).alloc (Nat.le_refl _) _
  cases h1 : vRates g
  · have E := Lib.hid (bestV_no (a := a) (b := b) (by rw [h1]; rfl))
    go_enter Try.func23, Try.ntmps23
    go_wp2_with fail
    generalize w.alloc (.cells #[.int .i64 0, .int .i64 0] 31) = w1 at *
    refine (HVR.out _ hb0).mono ?_
    rintro e w2 ⟨rfl, d2⟩
    rw [h1]
    have x2 := x0.below d2
    have b2 := hb0.trans (d2.mono hb0.size)
    have f0 := x2.cells.2 0
    have f1 := x2.cells.2 1
    have c0 := x2.cells.1.1
    have c1 := x2.cells.1.2
    have XS := Lib.hid (x2.set 0 0)
    have HBS := Lib.hid (below_set2 (u := .int .i64 0) (v := .int .i64 0) b2 (Nat.le_refl _))
    clear x0 x2 hb0 d2 b2
    go_wp2
    exact ret_box_bool (c := 6) (s := 7) rfl rfl rfl XS.out ⟨ret_best (by rw [E.out]), HBS.out⟩
  have hR := vRates_iff.1 h1
  have hg1 := hR.len1
  have hg4 := hR.len4
  cases h2 : inR a 0 ((g.length : Int) - 1)
  · have E := Lib.hid (bestV_no (g := g) (a := a) (b := b) (by rw [h1, h2]; rfl))
    go_enter Try.func23, Try.ntmps23
    go_wp2_with fail
    generalize w.alloc (.cells #[.int .i64 0, .int .i64 0] 31) = w1 at *
    refine (HVR.out _ hb0).mono ?_
    rintro e w2 ⟨rfl, d2⟩
    rw [h1]
    have x2 := x0.below d2
    have b2 := hb0.trans (d2.mono hb0.size)
    have f0 := x2.cells.2 0
    have f1 := x2.cells.2 1
    have c0 := x2.cells.1.1
    have c1 := x2.cells.1.2
    have XS := Lib.hid (x2.set 0 0)
    have HBS := Lib.hid (below_set2 (u := .int .i64 0) (v := .int .i64 0) b2 (Nat.le_refl _))
    clear x0 x2 hb0 d2 b2
    go_wp2_with (go_at_call 58; refine (HCC.out _ _ _ _ _ h2).mono ?_; rintro e w' ⟨rfl, rfl⟩)
    exact ret_box_bool (c := 6) (s := 7) rfl rfl rfl XS.out ⟨ret_best (by rw [E.out]), HBS.out⟩
  cases h3 : inR b 0 ((g.length : Int) - 1)
  · have E := Lib.hid (bestV_no (g := g) (a := a) (b := b) (by rw [h1, h2, h3]; rfl))
    go_enter Try.func23, Try.ntmps23
    go_wp2_with fail
    generalize w.alloc (.cells #[.int .i64 0, .int .i64 0] 31) = w1 at *
    refine (HVR.out _ hb0).mono ?_
    rintro e w2 ⟨rfl, d2⟩
    rw [h1]
    have x2 := x0.below d2
    have b2 := hb0.trans (d2.mono hb0.size)
    have f0 := x2.cells.2 0
    have f1 := x2.cells.2 1
    have c0 := x2.cells.1.1
    have c1 := x2.cells.1.2
    have XS := Lib.hid (x2.set 0 0)
    have HBS := Lib.hid (below_set2 (u := .int .i64 0) (v := .int .i64 0) b2 (Nat.le_refl _))
    clear x0 x2 hb0 d2 b2
    go_wp2_with (go_at_call 58; (first | (with_reducible refine (HCC.out a _ _ _ _ h2).mono ?_) | (with_reducible refine (HCC.out b _ _ _ _ h3).mono ?_)); rintro e w' ⟨rfl, rfl⟩)
    exact ret_box_bool (c := 6) (s := 7) rfl rfl rfl XS.out ⟨ret_best (by rw [E.out]), HBS.out⟩
  have ha := inR_true h2
  have hb := inR_true h3
  obtain ⟨an, rfl⟩ : ∃ an : Nat, a = an := ⟨a.toNat, by omega⟩
  obtain ⟨bn, rfl⟩ : ∃ bn : Nat, b = bn := ⟨b.toNat, by omega⟩
  have E : Hid (bestV g an bn = (bestN g an bn, true)) := by
    show _ = _
    unfold bestV bestN
    rw [h1, h2, h3]
    by_cases e : an = bn
    · simp [e]
    · have : ¬ (an : Int) = (bn : Int) := by omega
      simp [e, this]
  have HBF := Lib.hid (fun wx hx => bestRate_impl hR (show an < g.length by omega) (show bn < g.length by omega) _ wx (hv'.below (w := w) hx))
  go_enter Try.func23, Try.ntmps23
  go_wp2_with fail
  generalize w.alloc (.cells #[.int .i64 0, .int .i64 0] 31) = w1 at *
  refine (HVR.out _ hb0).mono ?_
  rintro e w2 ⟨rfl, d2⟩
  rw [h1]
  have x2 := x0.below d2
  have b2 := hb0.trans (d2.mono hb0.size)
  have HB2 := Lib.hid (HBF.out w2 b2)
  clear x0 hb0 d2
  go_wp2_with (go_at_call 58; (first | (with_reducible refine (HCC.out (an : Int) _ _ _ _ h2).mono ?_) | (with_reducible refine (HCC.out (bn : Int) _ _ _ _ h3).mono ?_)); rintro e w' ⟨rfl, rfl⟩)
  refine HB2.out.mono ?_
  rintro e w3 ⟨rfl, d3⟩
  have x3 := x2.below d3
  have b3 := b2.trans (d3.mono b2.size)
  generalize bestN g an bn = X at *
  obtain ⟨xu, xd⟩ := X
  have f0 := x3.cells.2 0
  have f1 := x3.cells.2 1
  have c0 := x3.cells.1.1
  have c1 := x3.cells.1.2
  have XS := Lib.hid (x3.set xu xd)
  have HBS := Lib.hid (below_set2 (u := .int .i64 xu) (v := .int .i64 xd) b3 (Nat.le_refl _))
  clear x2 x3 b2 d3 b3
  go_wp2
  exact ret_box_bool (c := 6) (s := 7) rfl rfl rfl XS.out ⟨ret_best (by rw [E.out]), HBS.out⟩

end Go.Proofs.Ytiffjeclpgcabaa
