/- The model's search: roundFrom. -/
import Derived.Test.YtlibfmbbchhjeaaFromM
import Derived.Test.YtlibfmbbchhjeaaTabP
import Derived.Test.YtlibfmbbchhjeaaIsRS
namespace Go.Proofs.Ytlibfmbbchhjeaa

section
open Go.RowKit Flat

theorem part_form {m : Nat} (hm : 0 < m) (p : Nat) (c : Nat → Int) : part m p c = unflat (p / m) m c ++ if p % m = 0 then [] else [(List.range (p % m)).map fun k => c (p / m * m + k)] := by
  have h := part_row m hm c (p / m) (part_full m hm c (p / m)) (p % m) (Nat.le_of_lt (Nat.mod_lt _ hm))
  have e : p / m * m + p % m = p := by rw [Nat.mul_comm]; exact Nat.div_add_mod p m
  rw [e] at h
  exact h

theorem unflat_len (n m : Nat) (c : Nat → Int) : (unflat n m c).length = n := by simp [unflat]

theorem part_len {m : Nat} (hm : 0 < m) (p : Nat) (c : Nat → Int) : (part m p c).length = p / m + if p % m = 0 then 0 else 1 := by
  rw [part_form hm]
  split <;> simp [unflat_len]

theorem part_row_full {m : Nat} (hm : 0 < m) (p : Nat) (c : Nat → Int) {j : Nat} (hj : j < p / m) : rowOf (part m p c) j = (List.range m).map fun k => c (j * m + k) := by
  rw [part_form hm]
  have : rowOf (unflat (p / m) m c ++ if p % m = 0 then [] else [(List.range (p % m)).map fun k => c (p / m * m + k)]) j = rowOf (unflat (p / m) m c) j := by
    unfold rowOf
    rw [List.getD_eq_getElem?_getD, List.getD_eq_getElem?_getD, List.getElem?_append_left (by rw [unflat_len]; exact hj)]
  rw [this, rowOf_unflat _ _ _ _ hj]

theorem part_row_last {m : Nat} (hm : 0 < m) (p : Nat) (c : Nat → Int) (h : p % m ≠ 0) : rowOf (part m p c) (p / m) = (List.range (p % m)).map fun k => c (p / m * m + k) := by
  rw [part_form hm, if_neg h]
  unfold rowOf
  rw [List.getD_eq_getElem?_getD, List.getElem?_append_right (by rw [unflat_len]; exact Nat.le_refl _), unflat_len, Nat.sub_self]
  rfl

section
variable {g : List (List Int)} {u : Int}

theorem fF_bounds (h1 : vGrid g u = true) {q : Nat} (hq : q < g.length * (rowOf g 0).length) : 0 ≤ flat (rowOf g 0).length g q ∧ flat (rowOf g 0).length g q ≤ 50 ∧ 0 ≤ fF g u q ∧ fF g u q ≤ 50 := by
  have hg := small_vGrid h1
  have hu := ((vGrid_iff g u).1 h1).2.1
  have hm : 0 < (rowOf g 0).length := by have := hg.2.1; omega
  have hk : q % (rowOf g 0).length < (rowOf g 0).length := Nat.mod_lt _ hm
  have hi : q / (rowOf g 0).length < g.length := (Nat.div_lt_iff_lt_mul hm).2 hq
  have h3 := ((vGrid_iff g u).1 h1).2.2 (q / (rowOf g 0).length) hi
  have hc := h3.2.2 (q % (rowOf g 0).length) (by rw [(hg.2.2 _ hi).1]; exact hk)
  have e : flat (rowOf g 0).length g q = cellOf g (q / (rowOf g 0).length) (q % (rowOf g 0).length) := rfl
  unfold fF
  rw [e]
  have h4 := Int.ediv_nonneg hc.1 (show 0 ≤ u by omega)
  have h5 := Int.ediv_le_self u hc.1
  omega

theorem okTo_bounds (h1 : vGrid g u = true) {p : Nat} {c : Nat → Int} (h : okTo g u p c) (hp : p ≤ g.length * (rowOf g 0).length) {q : Nat} (hq : q < p) : 0 ≤ c q ∧ c q ≤ 50 := by
  have hb := fF_bounds h1 (show q < g.length * (rowOf g 0).length by omega)
  have hu := ((vGrid_iff g u).1 h1).2.1
  rcases h q hq with h | ⟨hi, h⟩
  · omega
  · have hne : flat (rowOf g 0).length g q % u ≠ 0 := by simpa [incF] using hi
    have hu2 : 2 ≤ u := by
      apply Classical.byContradiction
      intro hn
      have : u = 1 := by omega
      rw [this] at hne
      exact hne (Int.emod_one _)
    have e1 : fF g u q * u ≤ flat (rowOf g 0).length g q := Int.ediv_mul_le _ (by omega)
    have e2 : fF g u q * 2 ≤ fF g u q * u := Int.mul_le_mul_of_nonneg_left hu2 hb.2.2.1
    omega

/-- Rows of 1 to 3 numbers from 0 to 50, at most three. -/
def Tiny (o : List (List Int)) : Prop := o.length ≤ 3 ∧ ∀ i, i < o.length → (0 < (rowOf o i).length ∧ (rowOf o i).length ≤ 3) ∧ ∀ x ∈ rowOf o i, 0 ≤ x ∧ x ≤ 50

theorem part_tiny (h1 : vGrid g u = true) {p : Nat} {c : Nat → Int} (h : okTo g u p c) (hp : p ≤ g.length * (rowOf g 0).length) : Tiny (part (rowOf g 0).length p c) := by
  have hg := small_vGrid h1
  have hm : 0 < (rowOf g 0).length := by have := hg.2.1; omega
  have hm3 := hg.2.1.2
  have hl := part_len hm p c
  have hd : p / (rowOf g 0).length ≤ g.length := Nat.div_le_of_le_mul (by rw [Nat.mul_comm]; exact hp)
  have hb : p / (rowOf g 0).length * (rowOf g 0).length + p % (rowOf g 0).length = p := by rw [Nat.mul_comm]; exact Nat.div_add_mod p _
  have hlt : p % (rowOf g 0).length < (rowOf g 0).length := Nat.mod_lt _ hm
  refine ⟨?_, fun i hi => ?_⟩
  · rw [hl]
    by_cases e : p % (rowOf g 0).length = 0
    · rw [if_pos e]; have := hg.1.2; omega
    · rw [if_neg e]
      have : p / (rowOf g 0).length < g.length := by
        apply Classical.byContradiction
        intro hn
        have e2 : p / (rowOf g 0).length = g.length := by omega
        rw [e2] at hb
        omega
      have := hg.1.2
      omega
  · rw [hl] at hi
    by_cases hj : i < p / (rowOf g 0).length
    · rw [part_row_full hm p c hj]
      refine ⟨by simp; omega, fun x hx => ?_⟩
      obtain ⟨k, hk, rfl⟩ := List.mem_map.1 hx
      have hk := List.mem_range.1 hk
      refine okTo_bounds h1 h hp ?_
      have : (i + 1) * (rowOf g 0).length ≤ p / (rowOf g 0).length * (rowOf g 0).length := Nat.mul_le_mul_right _ (by omega)
      rw [Nat.succ_mul] at this
      omega
    · by_cases e : p % (rowOf g 0).length = 0
      · rw [if_pos e] at hi; omega
      · rw [if_neg e] at hi
        have ei : i = p / (rowOf g 0).length := by omega
        rw [ei, part_row_last hm p c e]
        refine ⟨by simp; omega, fun x hx => ?_⟩
        obtain ⟨k, hk, rfl⟩ := List.mem_map.1 hx
        have hk := List.mem_range.1 hk
        exact okTo_bounds h1 h hp (by omega)

theorem unflat_small (h1 : vGrid g u = true) {c : Nat → Int} (h : okTo g u (g.length * (rowOf g 0).length) c) : Small (unflat g.length (rowOf g 0).length c) (rowOf g 0).length := by
  have hg := small_vGrid h1
  have hm : 0 < (rowOf g 0).length := by have := hg.2.1; omega
  refine ⟨by rw [unflat_len]; exact hg.1, hg.2.1, fun i hi => ?_⟩
  rw [unflat_len] at hi
  refine ⟨by rw [rowOf_unflat _ _ _ _ hi]; simp, fun k hk => ?_⟩
  have e : cellOf (unflat g.length (rowOf g 0).length c) i k = c (i * (rowOf g 0).length + k) := by
    unfold cellOf
    rw [rowOf_unflat _ _ _ _ hi]
    simp [List.getD, hk]
  have h2 : (i + 1) * (rowOf g 0).length ≤ g.length * (rowOf g 0).length := Nat.mul_le_mul_right _ (by omega)
  rw [Nat.succ_mul] at h2
  have := okTo_bounds h1 h (Nat.le_refl _) (show i * (rowOf g 0).length + k < g.length * (rowOf g 0).length by omega)
  rw [e]
  omega
end

end

open Go.RowKit Flat

/-- What roundFrom hands back, with r numbers ahead. -/
def FromOut (w : World) (B : Nat) (R : Option (List (List Int))) (r : Nat) (e : Ending) (w' : World) : Prop :=
  ∃ v' ok, e = .returned (.tuple #[v', .bool ok]) ∧ (∀ t, R = some t → ok = true ∧ OwnT w' B v' t) ∧ (R = none → ok = false ∧ (0 < r → v' = .slice none 0 0)) ∧ Below w.heap.size w w'

theorem rowsum_tiny {o : List (List Int)} (h : Tiny o) {i : Nat} (hi : i < o.length) : SumFits (rowOf o i) ∧ (rowOf o i).length ≤ 9223372036854775807 ∧ 0 ≤ tot (rowOf o i) ∧ tot (rowOf o i) ≤ 150 := by
  obtain ⟨⟨h0, h3⟩, hx⟩ := h.2 i hi
  refine ⟨sumFits_of _ 50 hx (by decide) (by omega), by omega, ?_⟩
  have := tot_bounds (rowOf o i) 50 hx
  omega

section
variable {g : List (List Int)} {u : Int}

set_option maxRecDepth 100000 in
set_option maxHeartbeats 3200000 in
theorem roundFrom_base (vg v : Value) (w : World) (B : Nat) (p : Nat) (c : Nat → Int) (h1 : vGrid g u = true) (hp : p = g.length * (rowOf g 0).length) (hok : okTo g u p c) (hg : IsGrid w vg g) (ho : OwnT w B v (part (rowOf g 0).length p c)) :
    Calls Try.prog 79 #[vg, .int .i64 u, v, .int .i64 p] w (FromOut w B (fromM g u (rowOf g 0).length (g.length * (rowOf g 0).length) 0 (part (rowOf g 0).length p c)) 0) := by
  have hgs := small_vGrid h1
  have hu := ((vGrid_iff g u).1 h1).2.1
  have hm : 0 < (rowOf g 0).length := by have := hgs.2.1; omega
  have hg0 := hg
  have ho0 := ho.grid
  subst hp
  have hpf := part_full (rowOf g 0).length hm c g.length
  have hs := unflat_small h1 hok
  have hfit := fits_spec vg v g (unflat g.length (rowOf g 0).length c) u w hg (by rw [← hpf]; exact ho0) hu hgs hs (unflat_len _ _ _)
  rw [← hpf] at hfit
  have HF := Lib.hid hfit
  have HO := Lib.hid ho
  obtain ⟨a, cap, rfl, _⟩ := id hg
  obtain ⟨b, off, ar, cr, rfl, c0, _⟩ := hg.row 0 (by have := hgs.1; omega)
  rw [Nat.add_zero] at c0
  have i2 : 0 < g.length := by have := hgs.1; omega
  have i3 : g ≠ [] := by intro h; rw [h] at i2; exact absurd i2 (by decide)
  have n1 : (1 : Int) ≤ ((rowOf g 0).length : Int) ∧ ((rowOf g 0).length : Int) ≤ 3 := by have := hgs.2.1; omega
  have n2 : (1 : Int) ≤ (g.length : Int) ∧ (g.length : Int) ≤ 3 := by have := hgs.1; omega
  have n3 : (g.length : Int) * ((rowOf g 0).length : Int) ≤ 9 := by
    have := Int.mul_le_mul_of_nonneg_right n2.2 (show 0 ≤ ((rowOf g 0).length : Int) by omega)
    omega
  have n4 : 0 ≤ (g.length : Int) * ((rowOf g 0).length : Int) := Int.mul_nonneg (by omega) (by omega)
  have heq : (((g.length * (rowOf g 0).length : Nat) : Int) == (g.length : Int) * ((rowOf g 0).length : Int)) = true := by simp
  clear hfit ho ho0 hs hg hg0 hpf
  go_enter Try.func79, Try.ntmps79
  go_wp2_with fail
  refine HF.out.mono ?_
  rintro e w1 ⟨rfl, hd⟩
  cases hf : fitsB g u (part (rowOf g 0).length (g.length * (rowOf g 0).length) c)
  · have E : Hid (fromM g u (rowOf g 0).length (g.length * (rowOf g 0).length) 0 (part (rowOf g 0).length (g.length * (rowOf g 0).length) c) = none) := by show fromM _ _ _ _ _ _ = none; rw [fromM, hf]; rfl
    clear hf
    go_wp2
    go_ret2
    exact ⟨v, false, rfl, (fun t ht => by rw [E.out] at ht; cases ht), fun _ => ⟨rfl, fun h => absurd h (by decide)⟩, hd.below⟩
  · have E : Hid (fromM g u (rowOf g 0).length (g.length * (rowOf g 0).length) 0 (part (rowOf g 0).length (g.length * (rowOf g 0).length) c) = some (part (rowOf g 0).length (g.length * (rowOf g 0).length) c)) := by show fromM _ _ _ _ _ _ = some _; rw [fromM, hf]; rfl
    clear hf
    go_wp2
    go_ret2
    exact ⟨v, true, rfl, (fun t ht => by rw [E.out] at ht; cases ht; exact ⟨rfl, HO.out.below hd.below⟩), (fun h => by rw [E.out] at h; cases h), hd.below⟩

/-- What holds of the place p in the rows. -/
structure Place (g : List (List Int)) (u : Int) (p i k : Nat) : Prop where
  di : p / (rowOf g 0).length = i
  mo : p % (rowOf g 0).length = k
  il : i < g.length
  kl : k < (rowOf g 0).length
  sum : i * (rowOf g 0).length + k = p
  cell : fF g u p = cellOf g i k / u
  inc : incF g u p = decide (cellOf g i k % u ≠ 0)
  low : 0 ≤ cellOf g i k ∧ cellOf g i k ≤ 50

theorem place_of (h1 : vGrid g u = true) {p : Nat} (hp : p < g.length * (rowOf g 0).length) : Place g u p (p / (rowOf g 0).length) (p % (rowOf g 0).length) := by
  have hgs := small_vGrid h1
  have hm : 0 < (rowOf g 0).length := by have := hgs.2.1; omega
  have hb := fF_bounds h1 hp
  exact ⟨rfl, rfl, (Nat.div_lt_iff_lt_mul hm).2 hp, Nat.mod_lt _ hm, by rw [Nat.mul_comm]; exact Nat.div_add_mod p _, rfl, rfl, hb.1, hb.2.1⟩

/-- Does the row that has ended not fit? -/
def badRow (g : List (List Int)) (u : Int) (m p : Nat) (o : List (List Int)) : Bool := decide (p % m = 0 ∧ 0 < p / m) && !(nearB (tot (rowOf o (p / m - 1))) (tot (rowOf g (p / m - 1))) u)

theorem fromM_bad {m N r p : Nat} {o : List (List Int)} (hp : p + (r + 1) = N) (h : badRow g u m p o = true) : fromM g u m N (r + 1) o = none := by
  have e : N - (r + 1) = p := by omega
  unfold badRow at h
  rw [Bool.and_eq_true, decide_eq_true_iff] at h
  rw [fromM, e, if_pos ⟨h.1.1, h.1.2, by simpa using h.2⟩]
theorem fromM_good {m N r p : Nat} {o : List (List Int)} (hp : p + (r + 1) = N) (h : badRow g u m p o = false) : fromM g u m N (r + 1) o = match fromM g u m N r (pushC m p o (fF g u p)) with
      | some t => some t
      | none => if incF g u p = true then fromM g u m N r (pushC m p o (fF g u p + 1)) else none := by
  have e : N - (r + 1) = p := by omega
  have hn : ¬ (p % m = 0 ∧ 0 < p / m ∧ nearB (tot (rowOf o (p / m - 1))) (tot (rowOf g (p / m - 1))) u = false) := by
    intro ⟨a, b, c⟩
    unfold badRow at h
    rw [decide_eq_true (show p % m = 0 ∧ 0 < p / m from ⟨a, b⟩), c] at h
    simp at h
  rw [fromM, e, if_neg hn]
  cases fromM g u m N r (pushC m p o (fF g u p)) <;> rfl

set_option maxRecDepth 100000 in
set_option maxHeartbeats 6400000 in
theorem roundFrom_bad (vg v : Value) (w : World) (B r p : Nat) (c : Nat → Int) (h1 : vGrid g u = true) (hp : p + (r + 1) = g.length * (rowOf g 0).length) (hok : okTo g u p c) (hg : IsGrid w vg g) (ho : OwnT w B v (part (rowOf g 0).length p c)) (hbad : badRow g u (rowOf g 0).length p (part (rowOf g 0).length p c) = true) :
    Calls Try.prog 79 #[vg, .int .i64 u, v, .int .i64 p] w (FromOut w B (fromM g u (rowOf g 0).length (g.length * (rowOf g 0).length) (r + 1) (part (rowOf g 0).length p c)) (r + 1)) := by
  have hgs := small_vGrid h1
  have hu := ((vGrid_iff g u).1 h1).2.1
  have hm : 0 < (rowOf g 0).length := by have := hgs.2.1; omega
  have hpl := place_of h1 (show p < g.length * (rowOf g 0).length by omega)
  have htiny := part_tiny h1 hok (show p ≤ g.length * (rowOf g 0).length by omega)
  have hlen := part_len hm p c
  have HG := Lib.hid hg
  have HO := Lib.hid ho
  have hog := ho.grid
  have n1 : (1 : Int) ≤ ((rowOf g 0).length : Int) ∧ ((rowOf g 0).length : Int) ≤ 3 := by have := hgs.2.1; omega
  have n2 : (1 : Int) ≤ (g.length : Int) ∧ (g.length : Int) ≤ 3 := by have := hgs.1; omega
  have n3 : (g.length : Int) * ((rowOf g 0).length : Int) ≤ 9 := by
    have := Int.mul_le_mul_of_nonneg_right n2.2 (show 0 ≤ ((rowOf g 0).length : Int) by omega)
    omega
  have n4 : 0 ≤ (g.length : Int) * ((rowOf g 0).length : Int) := Int.mul_nonneg (by omega) (by omega)
  have np : ((p : Nat) : Int) < (g.length : Int) * ((rowOf g 0).length : Int) := by rw [← Int.natCast_mul]; omega
  have heq : ((p : Int) == (g.length : Int) * ((rowOf g 0).length : Int)) = false := by simp; omega
  have hdiv : (p : Int) / ((rowOf g 0).length : Int) = ((p / (rowOf g 0).length : Nat) : Int) := by simp
  have hmod : (p : Int) % ((rowOf g 0).length : Int) = ((p % (rowOf g 0).length : Nat) : Int) := by simp
  obtain ⟨i, hi⟩ : ∃ i, p / (rowOf g 0).length = i := ⟨_, rfl⟩
  obtain ⟨k, hk⟩ : ∃ k, p % (rowOf g 0).length = k := ⟨_, rfl⟩
  rw [hi, hk] at hpl hlen
  rw [hi] at hdiv
  rw [hk] at hmod
  obtain ⟨a, cap, rfl, _⟩ := id hg
  obtain ⟨ao, co, rfl, _⟩ := id hog
  obtain ⟨b, off, ar, cr, rfl, c0, _⟩ := hg.row 0 (by have := hgs.1; omega)
  rw [Nat.add_zero] at c0
  have i2 : 0 < g.length := by have := hgs.1; omega
  have i3 : g ≠ [] := by intro h; rw [h] at i2; exact absurd i2 (by decide)
  have HPL := Lib.hid hpl
  have HT := Lib.hid htiny
  have HL := Lib.hid hlen
  have HI1 := Lib.hid hi
  have HK1 := Lib.hid hk
  have hil := hpl.il
  have hkl := hpl.kl
  have hlow := hpl.low
  clear hg ho hpl htiny hlen hi hk hog
  have E := Lib.hid (fromM_bad (N := g.length * (rowOf g 0).length) hp hbad)
  unfold badRow at hbad
  rw [Bool.and_eq_true, decide_eq_true_iff, HI1.out, HK1.out] at hbad
  obtain ⟨⟨hk0, hi0⟩, hnear⟩ := hbad
  have hnb : nearB (tot (rowOf (part (rowOf g 0).length p c) (i - 1))) (tot (rowOf g (i - 1))) u = false := by simpa using hnear
  clear hnear
  have hil0 : i - 1 < (part (rowOf g 0).length p c).length := by have := HL.out; omega
  obtain ⟨bo, fo, aro, cro, rfl, ci, ri⟩ := (HO.out.grid).row (i - 1) hil0
  obtain ⟨b', off', arg, crg, e', cg, rg⟩ := HG.out.row (i - 1) (by omega)
  simp only [Option.some.injEq, Addr.mk.injEq, and_true] at e'
  obtain ⟨rfl, rfl⟩ := e'
  have hs1 := rowsum_tiny HT.out hil0
  have hgr := hgs.2.2 (i - 1) (by omega)
  have hs2 : SumFits (rowOf g (i - 1)) ∧ 0 ≤ tot (rowOf g (i - 1)) ∧ tot (rowOf g (i - 1)) ≤ 1000000 := by
    have hx : ∀ x ∈ rowOf g (i - 1), 0 ≤ x ∧ x ≤ 50 := by
      intro x hx
      obtain ⟨q, hq, rfl⟩ := List.getElem_of_mem hx
      have := hgr.2 q (by omega)
      simpa [cellOf, List.getD, hq] using this
    have := tot_bounds (rowOf g (i - 1)) 50 hx
    exact ⟨sumFits_of _ 50 hx (by decide) (by omega), by omega, by omega⟩
  have r1 : IsInts w (.slice aro (rowOf (part (rowOf g 0).length p c) (i - 1)).length cro) (rowOf (part (rowOf g 0).length p c) (i - 1)) := ⟨aro, cro, rfl, ri⟩
  have r2 : IsInts w (.slice arg (rowOf g (i - 1)).length crg) (rowOf g (i - 1)) := ⟨arg, crg, rfl, rg⟩
  have S1 : Hid (∀ q, Calls Try.prog 68 #[.slice aro (rowOf (part (rowOf g 0).length p c) (i - 1)).length cro] (w.drewN q) fun e w' => e = .returned (.int .i64 (tot (rowOf (part (rowOf g 0).length p c) (i - 1)))) ∧ ∃ m, w' = w.drewN m) := fun q => quiet_left (sum_spec _ _ _ (r1.below (below_drewN (Below.refl _ _) q)) hs1.2.1 hs1.1)
  have S2 : Hid (∀ q, Calls Try.prog 68 #[.slice arg (rowOf g (i - 1)).length crg] (w.drewN q) fun e w' => e = .returned (.int .i64 (tot (rowOf g (i - 1)))) ∧ ∃ m, w' = w.drewN m) := fun q => quiet_left (sum_spec _ _ _ (r2.below (below_drewN (Below.refl _ _) q)) (by omega) hs2.1)
  have N1 : Hid (∀ q, Calls Try.prog 75 #[.int .i64 (tot (rowOf (part (rowOf g 0).length p c) (i - 1))), .int .i64 (tot (rowOf g (i - 1))), .int .i64 u] (w.drewN q) fun e w' => e = .returned (.bool false) ∧ ∃ m, w' = w.drewN m) := fun q => by rw [← hnb]; exact quiet_left (near_spec _ _ _ _ hs2.2 hu)
  have i1 : 1 ≤ (i : Int) := by omega
  have i4 : (i : Int) - 1 < (g.length : Int) := by omega
  have i5 : (i : Int) - 1 < ((part (rowOf g 0).length p c).length : Int) := by omega
  have i6 : ((i : Int) - 1).toNat = i - 1 := by omega
  have i7 : (0 : Int) < (i : Int) := by omega
  have hkz : (((k : Nat) : Int) == 0) = true := by rw [hk0]; rfl
  clear ri rg r1 r2 hs1 hs2 hgr hnb
  go_enter Try.func79, Try.ntmps79
  go_wp2
  go_quiet ((first | (go_at_call 68; first | with_reducible exact S1.out _ | with_reducible exact S2.out _) | (go_at_call 75; with_reducible exact N1.out _)))
  go_wp2
  go_ret2
  exact ⟨_, _, rfl, (fun t ht => by rw [E.out] at ht; cases ht), (fun _ => ⟨rfl, fun _ => rfl⟩), below_drewN (Below.refl _ _) _⟩

end

end Go.Proofs.Ytlibfmbbchhjeaa
