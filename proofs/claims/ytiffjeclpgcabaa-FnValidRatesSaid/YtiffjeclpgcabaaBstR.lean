/- The best rates, in the model: all ways. -/
import Derived.Test.YtiffjeclpgcabaaBstS
namespace Go.Proofs.Ytiffjeclpgcabaa
open Go.RowKit

section
variable {g : List (List (Int × Int))}

theorem bestFrom_spec (hR : Rates g) {tt : Nat} (ht : tt < g.length) : ∀ (f : Nat) (v : Value) (m a : Nat) (now : Int × Int) (M : Int) (w : World), IsGridR w v g → m < 16 → a < g.length → rB now M → M * 20 ^ (f + 1) ≤ 8000 → freeC tt (uM m) g.length ≤ f →
    Calls Try.prog 64 #[v, .int .i64 m, .int .i64 a, .int .i64 tt, rv now.1 now.2] w fun e w' => e = .returned (rv (bestM (cellX g) g.length tt f (uM m) a now).1 (bestM (cellX g) g.length tt f (uM m) a now).2) ∧ Below w.heap.size w w' := by
  intro f
  induction f with
  | zero =>
    intro v m a now M w hv hm ha hn hM hfr
    have hM1 : M ≤ 400 := by simp at hM; omega
    have h0 : freeC tt (uM m) g.length = 0 := by omega
    have := bestFrom_body (fun _ _ _ => (1, 1)) v m a tt now w hv hR hm ha ht (hn.mono hM1) (fun k hk => ⟨by decide, by decide⟩) (fun k hk hb hkt => absurd ⟨by unfold uM; rw [hb]; rfl, hkt⟩ (freeC_none h0 hk))
    rw [bestK_none _ _ h0] at this
    exact this
  | succ f ih =>
    intro v m a now M w hv hm ha hn hM hfr
    have hp : (1 : Int) ≤ 20 ^ (f + 1) := Int.pow_pos (by decide)
    have hM0 : 1 ≤ M := by have := hn.1; omega
    have hM2 : M * 20 * 20 ^ (f + 1) ≤ 8000 := by
      have e : M * 20 ^ (f + 1 + 1) = M * 20 * 20 ^ (f + 1) := by rw [Int.pow_succ, Int.mul_assoc, Int.mul_comm (20 ^ (f + 1)) 20]
      rwa [e] at hM
    have hM3 : M * 20 ≤ 8000 := by
      have := Int.mul_le_mul_of_nonneg_left hp (show 0 ≤ M * 20 by omega)
      omega
    have hbd : ∀ k, k < g.length → rB (rProd now (cellX g a k)) (M * 20) := fun k hk => rProd_bd hn (hR.bd a k ha hk)
    exact bestFrom_body (bestM (cellX g) g.length tt f) v m a tt now w hv hR hm ha ht (hn.mono (by omega)) (fun k hk => (bestM_bd hR.bd ht f _ k _ _ hk (hbd k hk)).mono hM2) (fun k hk hb hkt wx hbx => by
      have huk : uM m k = false := by unfold uM; rw [hb]; rfl
      have h4 := hR.len4
      obtain ⟨hm', hu'⟩ := uM_add hm (show k < 4 by omega) hb
      have hfr' : freeC tt (uM (m + 2 ^ k)) g.length ≤ f := by
        rw [hu']
        have := @freeC_le tt (uM m) k g.length hk ⟨huk, hkt⟩
        omega
      have := ih v (m + 2 ^ k) k (rProd now (cellX g a k)) (M * 20) wx (hv.below hbx) hm' hk (hbd k hk) hM2 hfr'
      rw [hu', show ((m + 2 ^ k : Nat) : Int) = (m : Int) + ((2 ^ k : Nat) : Int) from Int.natCast_add _ _] at this
      exact this)

theorem freeC_two : ∀ n : Fin 5, ∀ a b : Fin 4, a.val < n.val → b.val < n.val → a.val ≠ b.val → freeC b.val (fun j => decide (j = a.val)) n.val ≤ 2 := by decide

theorem uM_one : ∀ a : Fin 4, ∀ j : Fin 4, uM (2 ^ a.val) j.val = decide (j.val = a.val) := by decide

theorem uM_pow {a : Nat} (ha : a < 4) : uM (2 ^ a) = fun j => decide (j = a) := by
  refine funext fun j => ?_
  by_cases hj : j < 4
  · exact uM_one ⟨a, ha⟩ ⟨j, hj⟩
  · have h16 : 16 ≤ 2 ^ j := by
      have : 2 ^ 4 ≤ 2 ^ j := Nat.pow_le_pow_right (by decide) (by omega)
      omega
    have h8 : 2 ^ a ≤ 8 := by
      have : 2 ^ a ≤ 2 ^ 3 := Nat.pow_le_pow_right (by decide) (by omega)
      omega
    have e1 : bitN (2 ^ a) j = 0 := by unfold bitN; rw [Nat.div_eq_of_lt (by omega)]
    unfold uM
    rw [e1]
    have : ¬ j = a := by omega
    simp [this]

/-- From one money to another one: the best rate. -/
theorem bestFrom_D (hR : Rates g) {a b : Nat} (ha : a < g.length) (hb : b < g.length) (hab : a ≠ b) (v : Value) (w : World) (hv : IsGridR w v g) :
    Calls Try.prog 64 #[v, .int .i64 ((2 ^ a : Nat) : Int), .int .i64 a, .int .i64 b, rv 1 1] w fun e w' => e = .returned (rv (bestD (cellX g) g.length a b).1 (bestD (cellX g) g.length a b).2) ∧ Below w.heap.size w w' := by
  have h4 := hR.len4
  have h8 : 2 ^ a ≤ 8 := by
    have : 2 ^ a ≤ 2 ^ 3 := Nat.pow_le_pow_right (by decide) (by omega)
    omega
  have hf := freeC_two ⟨g.length, by omega⟩ ⟨a, by omega⟩ ⟨b, by omega⟩ ha hb hab
  have := bestFrom_spec hR hb 2 v (2 ^ a) a (1, 1) 1 w hv (by omega) ha ⟨by decide, by decide⟩ (by decide) (by rw [uM_pow (by omega)]; exact hf)
  rw [uM_pow (by omega)] at this
  exact this

end

/-- What BestRate answers. -/
def bestV (g : List (List (Int × Int))) (a b : Int) : (Int × Int) × Bool :=
  if (vRates g && inR a 0 ((g.length : Int) - 1) && inR b 0 ((g.length : Int) - 1)) = true then (if a = b then (1, 1) else bestD (cellX g) g.length a.toNat b.toNat, true) else ((0, 0), false)

theorem results_cell_tmp {fn : Func} {p u : Tmp} {ty : TypeId} (h : fn.results = #[.cell p ty, .tmp u]) (tmps : Array Value) (w : World) :
    (results fn tmps).run Try.prog w = ((asAddr (tmps.getD p undef)).run Try.prog w).andThen fun a w1 => ((loadVar ty a).run Try.prog w1).andThen fun v w2 => .ok (.tuple #[v, tmps.getD u undef]) w2 := by
  simp only [results, h]
  simp [Sem.run_bind, Result.andThen]

theorem results_row_tmp {fn : Func} {p u : Tmp} {ty : TypeId} (h : fn.results = #[.cell p ty, .tmp u]) (tmps : Array Value) (w : World) (g : Nat) (v z : Value)
    (hp : tmps.getD p undef = .pointer (some ⟨g, 0, none⟩)) (hz : tmps.getD u undef = z) (hl : (loadVar ty ⟨g, 0, none⟩).run Try.prog w = .ok v w) :
    (results fn tmps).run Try.prog w = .ok (.tuple #[v, z]) w := by
  rw [results_cell_tmp h, hp, hz]
  have e : (asAddr (.pointer (some ⟨g, 0, none⟩))).run Try.prog w = .ok ⟨g, 0, none⟩ w := by simp [asAddr]
  rw [e]
  simp only [Result.andThen_ok, hl]

/-- Two results: one in a box, one in a slot. -/
theorem ret_box_bool {f : Func} {c s : Nat} (hf : f.results = #[.cell c 31, .tmp s]) {ts : Array Value} {w : World} {b : Nat} {u d : Int} {r : Bool} (hs : ts.getD c undef = .pointer (some ⟨b, 0, none⟩)) (hr : ts.getD s undef = .bool r) (hb : IsBoxR w b u d) {P : Ending → World → Prop} (h : P (.returned (.tuple #[rv u d, .bool r])) w) :
    bodyPost Try.prog f P .ret { tmps := ts, defers := [] } w :=
  bodyPost_ret (v := .tuple #[rv u d, .bool r]) (results_row_tmp hf ts _ b (rv u d) (.bool r) hs hr (run_loadVar_row _ _ 31 _ _ (0, 0) _ hb Try.underlying31 rfl (by kernel_rfl))) rfl h

theorem inRange_atB (x lo hi : Int) (r : Bool) (w : World) (h : inR x lo hi = r) : Calls Try.prog 63 #[.int .i64 x, .int .i64 lo, .int .i64 hi] w fun e w' => e = .returned (.bool r) ∧ w = w' := by
  subst h; exact inRange_spec _ _ _ _

theorem bestV_no {g : List (List (Int × Int))} {a b : Int} (h : (vRates g && inR a 0 ((g.length : Int) - 1) && inR b 0 ((g.length : Int) - 1)) = false) : bestV g a b = ((0, 0), false) := by unfold bestV; rw [h]; rfl

theorem ret_best {u u' d d' : Int} {r r' : Bool} (h : ((u, d), r) = ((u', d'), r')) : Ending.returned (.tuple #[rv u d, .bool r]) = .returned (.tuple #[rv u' d', .bool r']) := by
  simp only [Prod.mk.injEq] at h
  rw [h.1.1, h.1.2, h.2]

set_option maxRecDepth 100000 in
set_option maxHeartbeats 3200000 in
theorem BestRate_spec (v : Value) (g : List (List (Int × Int))) (a b : Int) (w : World) (hv : IsGridR w v g) (hl : g.length ≤ 9223372036854775807) (hr : ∀ i, i < g.length → (rowR g i).length ≤ 9223372036854775807) :
    Calls Try.prog 24 #[v, .int .i64 a, .int .i64 b] w fun e w' => e = .returned (.tuple #[rv (bestV g a b).1.1 (bestV g a b).1.2, .bool (bestV g a b).2]) ∧ Below w.heap.size w w' := by
  have HVR := Lib.hid (fun wx hb => validRates_spec v g wx (hv.below (w := w) hb) hl hr)
  have HCC := Lib.hid inRange_atB
  have hv' := hv
  obtain ⟨av, cap, rfl, _⟩ := hv
  have x0 := IsBoxR.new w 0 0
  have hb0 : Below w.heap.size w (w.alloc (.cells #[.int .i64 0, .int .i64 0] 31)) := (Below.refl _ _).alloc (Nat.le_refl _) _
  cases h1 : vRates g
  · have E := Lib.hid (bestV_no (a := a) (b := b) (by rw [h1]; rfl))
    go_enter Try.func24, Try.ntmps24
    go_wp2_with fail
    generalize w.alloc (.cells #[.int .i64 0, .int .i64 0] 31) = w1 at *
    refine (HVR.out _ hb0).mono ?_
    rintro e w2 ⟨rfl, d2⟩
    rw [h1]
    have x2 := x0.below d2
    have b2 := hb0.trans (d2.mono hb0.size)
    have f0 := x2.cells.2 0
    have f1 := x2.cells.2 1
    have c0 := x2.cells.1.1
    have c1 := x2.cells.1.2
    have XS := Lib.hid (x2.set 0 0)
    have HBS := Lib.hid (below_set2 (u := .int .i64 0) (v := .int .i64 0) b2 (Nat.le_refl _))
    clear x0 x2 hb0 d2 b2
    go_wp2
    exact ret_box_bool (c := 6) (s := 7) rfl rfl rfl XS.out ⟨ret_best (by rw [E.out]), HBS.out⟩
  have hR := vRates_iff.1 h1
  have hg1 := hR.len1
  have hg4 := hR.len4
  cases h2 : inR a 0 ((g.length : Int) - 1)
  · have E := Lib.hid (bestV_no (g := g) (a := a) (b := b) (by rw [h1, h2]; rfl))
    go_enter Try.func24, Try.ntmps24
    go_wp2_with fail
    generalize w.alloc (.cells #[.int .i64 0, .int .i64 0] 31) = w1 at *
    refine (HVR.out _ hb0).mono ?_
    rintro e w2 ⟨rfl, d2⟩
    rw [h1]
    have x2 := x0.below d2
    have b2 := hb0.trans (d2.mono hb0.size)
    have f0 := x2.cells.2 0
    have f1 := x2.cells.2 1
    have c0 := x2.cells.1.1
    have c1 := x2.cells.1.2
    have XS := Lib.hid (x2.set 0 0)
    have HBS := Lib.hid (below_set2 (u := .int .i64 0) (v := .int .i64 0) b2 (Nat.le_refl _))
    clear x0 x2 hb0 d2 b2
    go_wp2_with (go_at_call 63; refine (HCC.out _ _ _ _ _ h2).mono ?_; rintro e w' ⟨rfl, rfl⟩)
    exact ret_box_bool (c := 6) (s := 7) rfl rfl rfl XS.out ⟨ret_best (by rw [E.out]), HBS.out⟩
  cases h3 : inR b 0 ((g.length : Int) - 1)
  · have E := Lib.hid (bestV_no (g := g) (a := a) (b := b) (by rw [h1, h2, h3]; rfl))
    go_enter Try.func24, Try.ntmps24
    go_wp2_with fail
    generalize w.alloc (.cells #[.int .i64 0, .int .i64 0] 31) = w1 at *
    refine (HVR.out _ hb0).mono ?_
    rintro e w2 ⟨rfl, d2⟩
    rw [h1]
    have x2 := x0.below d2
    have b2 := hb0.trans (d2.mono hb0.size)
    have f0 := x2.cells.2 0
    have f1 := x2.cells.2 1
    have c0 := x2.cells.1.1
    have c1 := x2.cells.1.2
    have XS := Lib.hid (x2.set 0 0)
    have HBS := Lib.hid (below_set2 (u := .int .i64 0) (v := .int .i64 0) b2 (Nat.le_refl _))
    clear x0 x2 hb0 d2 b2
    go_wp2_with (go_at_call 63; (first | (with_reducible refine (HCC.out a _ _ _ _ h2).mono ?_) | (with_reducible refine (HCC.out b _ _ _ _ h3).mono ?_)); rintro e w' ⟨rfl, rfl⟩)
    exact ret_box_bool (c := 6) (s := 7) rfl rfl rfl XS.out ⟨ret_best (by rw [E.out]), HBS.out⟩
  have ha := inR_true h2
  have hb := inR_true h3
  obtain ⟨an, rfl⟩ : ∃ an : Nat, a = an := ⟨a.toNat, by omega⟩
  obtain ⟨bn, rfl⟩ : ∃ bn : Nat, b = bn := ⟨b.toNat, by omega⟩
  by_cases hab : an = bn
  · have E : Hid (bestV g an bn = ((1, 1), true)) := by show _ = _; unfold bestV; rw [h1, h2, h3]; simp [hab]
    have hie : ((an : Int) == (bn : Int)) = true := by simp [hab]
    clear hab
    go_enter Try.func24, Try.ntmps24
    go_wp2_with fail
    generalize w.alloc (.cells #[.int .i64 0, .int .i64 0] 31) = w1 at *
    refine (HVR.out _ hb0).mono ?_
    rintro e w2 ⟨rfl, d2⟩
    rw [h1]
    have x2 := x0.below d2
    have b2 := hb0.trans (d2.mono hb0.size)
    have f0 := x2.cells.2 0
    have f1 := x2.cells.2 1
    have c0 := x2.cells.1.1
    have c1 := x2.cells.1.2
    have XS := Lib.hid (x2.set 1 1)
    have HBS := Lib.hid (below_set2 (u := .int .i64 1) (v := .int .i64 1) b2 (Nat.le_refl _))
    clear x0 x2 hb0 d2 b2
    go_wp2_with (go_at_call 63; (first | (with_reducible refine (HCC.out (an : Int) _ _ _ _ h2).mono ?_) | (with_reducible refine (HCC.out (bn : Int) _ _ _ _ h3).mono ?_)); rintro e w' ⟨rfl, rfl⟩)
    exact ret_box_bool (c := 6) (s := 7) rfl rfl rfl XS.out ⟨ret_best (by rw [E.out]), HBS.out⟩
  · have E : Hid (bestV g an bn = (bestD (cellX g) g.length an bn, true)) := by
      show _ = _
      unfold bestV
      rw [h1, h2, h3]
      have : ¬ (an : Int) = (bn : Int) := by omega
      simp [this]
    have hie : ((an : Int) == (bn : Int)) = false := by simp; omega
    have HBF := Lib.hid (fun wx hb => bestFrom_D hR (show an < g.length by omega) (show bn < g.length by omega) hab _ wx (hv'.below (w := w) hb))
    have HPW := Lib.hid (fun wx => power8_spec an wx (by omega))
    clear hab
    go_enter Try.func24, Try.ntmps24
    go_wp2_with fail
    generalize w.alloc (.cells #[.int .i64 0, .int .i64 0] 31) = w1 at *
    refine (HVR.out _ hb0).mono ?_
    rintro e w2 ⟨rfl, d2⟩
    rw [h1]
    have x2 := x0.below d2
    have b2 := hb0.trans (d2.mono hb0.size)
    have HB2 := Lib.hid (HBF.out w2 b2)
    clear x0 hb0 d2
    go_wp2_with (first | (go_at_call 63; (first | (with_reducible refine (HCC.out (an : Int) _ _ _ _ h2).mono ?_) | (with_reducible refine (HCC.out (bn : Int) _ _ _ _ h3).mono ?_)); rintro e w' ⟨rfl, rfl⟩) | (go_at_call 65; refine (HPW.out _).mono ?_; rintro e w' ⟨rfl, rfl⟩))
    refine HB2.out.mono ?_
    rintro e w3 ⟨rfl, d3⟩
    have x3 := x2.below d3
    have b3 := b2.trans (d3.mono b2.size)
    generalize bestD (cellX g) g.length an bn = X at *
    obtain ⟨xu, xd⟩ := X
    have f0 := x3.cells.2 0
    have f1 := x3.cells.2 1
    have c0 := x3.cells.1.1
    have c1 := x3.cells.1.2
    have XS := Lib.hid (x3.set xu xd)
    have HBS := Lib.hid (below_set2 (u := .int .i64 xu) (v := .int .i64 xd) b3 (Nat.le_refl _))
    clear x2 x3 b2 d3 b3
    go_wp2
    exact ret_box_bool (c := 6) (s := 7) rfl rfl rfl XS.out ⟨ret_best (by rw [E.out]), HBS.out⟩

end Go.Proofs.Ytiffjeclpgcabaa
