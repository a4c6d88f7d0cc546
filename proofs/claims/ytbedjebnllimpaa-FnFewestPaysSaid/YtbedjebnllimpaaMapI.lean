/- Who must pay, kept in a map of pointers to balances: the walks of owingOf and mostOwing. -/
import Derived.Test.YtbedjebnllimpaaSlI
import Derived.Maps.RangeWalk
import Derived.Maps.OwnSet
import Derived.BigQuiet
namespace Go.Proofs.Ytbedjebnllimpaa
open Go.RowKit Go.Maps

theorem lawI : Keyed Try.prog 3 := int_keyed Try.underlying3
theorem zeroPtr (w : World) : (zeroValue 58).run Try.prog w = .ok (.pointer none) w := by kernel_rfl

/-- How a pointer into the block B reads: as the place it points to. -/
def ptrR (B : Nat) : Value → Option (DataW Unit × List MemPlace)
  | .pointer (some ⟨b, o, none⟩) => if b = B then some (.lit (.int .i64 (o : Int)), []) else none
  | .pointer none => some (.lit (.bool false), [])
  | _ => none

theorem ptrR_mk (B o : Nat) : ptrR B (.pointer (some ⟨B, o, none⟩)) = some (.lit (.int .i64 (o : Int)), []) := by simp [ptrR]

/-- The value that reads so. -/
def ptrV (B : Nat) : Option Nat → Value
  | some o => .pointer (some ⟨B, o, none⟩)
  | none => .pointer none

theorem ptrR_inv {B : Nat} {v : Value} {z : DataW Unit × List MemPlace} (h : ptrR B v = some z) : ∃ c : Option Nat, v = ptrV B c ∧ z.1 = (match c with | some o => .lit (.int .i64 (o : Int)) | none => .lit (.bool false)) := by
  unfold ptrR at h
  split at h
  · split at h
    · rename_i hb
      subst hb
      cases h
      exact ⟨some _, rfl, rfl⟩
    · cases h
  · cases h
    exact ⟨none, rfl, rfl⟩
  · cases h

/-- The map's keys are just the friends of whom f holds, each with the place of its balance. -/
def OwD (f : Nat → Bool) (D : DataW Unit) : Prop :=
  (∀ kl, Maps.has D kl = true → ∃ j : Nat, kl = .int .i64 (j : Int) ∧ f j = true) ∧ ∀ j : Nat, f j = true → Maps.has D (.int .i64 (j : Int)) = true ∧ ∀ zd, D.atKey (.int .i64 (j : Int)) zd = .lit (.int .i64 (j : Int))

theorem OwD.empty {f : Nat → Bool} (hf : ∀ j, f j = false) : OwD f (.map []) := ⟨fun kl h => (by cases h), fun j h => (by rw [hf j] at h; cases h)⟩

theorem lit_ne {i j : Nat} (h : i ≠ j) : (Lit.int .i64 (i : Int)) ≠ .int .i64 (j : Int) := by
  intro e
  simp only [Lit.int.injEq, true_and] at e
  omega

theorem OwD.put {f f' : Nat → Bool} {D : DataW Unit} {i : Nat} (h : OwD f D) (hm : IsMap D) (hf : ∀ j, f' j = (f j || j == i)) : OwD f' (D.put (.int .i64 (i : Int)) (.lit (.int .i64 (i : Int)))) := by
  constructor
  · intro kl hk
    by_cases e : kl = .int .i64 (i : Int)
    · exact ⟨i, e, by rw [hf]; simp⟩
    · rw [has_put_other e] at hk
      obtain ⟨j, hj, hfj⟩ := h.1 kl hk
      exact ⟨j, hj, by rw [hf, hfj]; rfl⟩
  · intro j hj
    by_cases e : j = i
    · subst e
      exact ⟨has_put_same hm (k := .int .i64 (j : Int)) trivial _, fun zd => atKey_put_same hm (k := .int .i64 (j : Int)) trivial _ _⟩
    · rw [hf] at hj
      have hj' : f j = true := by
        have : (j == i) = false := by simp [e]
        rw [this, Bool.or_false] at hj; exact hj
      obtain ⟨h1, h2⟩ := h.2 j hj'
      exact ⟨by rw [has_put_other (lit_ne e)]; exact h1, fun zd => by rw [atKey_put_other (lit_ne e)]; exact h2 zd⟩

theorem OwD.del {f f' : Nat → Bool} {D : DataW Unit} {i : Nat} (h : OwD f D) (hf : ∀ j, f' j = (f j && !(j == i))) : OwD f' (D.del (.int .i64 (i : Int))) := by
  constructor
  · intro kl hk
    by_cases e : kl = .int .i64 (i : Int)
    · subst e; rw [has_del_same] at hk; cases hk
    · rw [has_del_other e] at hk
      obtain ⟨j, hj, hfj⟩ := h.1 kl hk
      subst hj
      refine ⟨j, rfl, ?_⟩
      have hji : ¬ j = i := fun e2 => e (by rw [e2])
      rw [hf, hfj]; simp [hji]
  · intro j hj
    rw [hf, Bool.and_eq_true] at hj
    have hji : j ≠ i := by
      intro e; subst e
      simp at hj
    obtain ⟨h1, h2⟩ := h.2 j hj.1
    exact ⟨by rw [has_del_other (lit_ne hji)]; exact h1, fun zd => by rw [atKey_del_other (lit_ne hji)]; exact h2 zd⟩

theorem OwD.congr {f f' : Nat → Bool} {D : DataW Unit} (h : OwD f D) (hf : ∀ j, f' j = f j) : OwD f' D := by
  have : f' = f := funext hf
  rw [this]; exact h

/-- There is a key exactly if there is such a friend. -/
theorem OwD.size {f : Nat → Bool} {D : DataW Unit} (h : OwD f D) {w : World} {b n : Nat} {R : Value → Option (DataW Unit × List MemPlace)} (hown : w.ownsMap Try.prog 3 R b n D) : (0 < Maps.size D) ↔ ∃ j, f j = true := by
  obtain ⟨es, rfl, _, hkeys⟩ := hown.entries lawI
  constructor
  · intro hs
    cases es with
    | nil => exact absurd hs (Nat.lt_irrefl _)
    | cons p r =>
      have hp : Maps.has (.map (p :: r)) p.1 = true := by
        rw [has_eq]
        exact List.any_eq_true.2 ⟨p, by simp, WideAt.sameKey_self (hkeys p (by simp))⟩
      obtain ⟨j, _, hj⟩ := h.1 _ hp
      exact ⟨j, hj⟩
  · rintro ⟨j, hj⟩
    have := (h.2 j hj).1
    cases es with
    | nil => cases this
    | cons p r => rw [size_eq]; simp

theorem lookup_ptr {B : Nat} {f : Nat → Bool} {D : DataW Unit} (h : OwD f D) {w : World} {b n : Nat} (hown : w.ownsMap Try.prog 3 (ptrR B) b n D) {j : Nat} (hj : f j = true) (hj6 : j ≤ 1000) :
    (Instr.lookup 64 (.map (some b)) (.int .i64 (j : Int)) false).run Try.prog w = .ok (.pointer (some ⟨B, j, none⟩)) w := by
  have hkey : keyOf Try.prog 3 (.int .i64 (j : Int)) = some (.int .i64 (j : Int)) := keyOf_int_mk Try.underlying3 (WalkArith.wf_i64 (by omega))
  obtain ⟨v, ps, hrun, hv⟩ := hown.lookup lawI Try.underlying64 (zeroPtr w) (zd := .lit (.bool false)) (zp := []) rfl hkey
  rw [(h.2 j hj).2] at hv
  obtain ⟨c, rfl, hc⟩ := ptrR_inv hv
  cases c with
  | none => cases hc
  | some o =>
    simp only [DataW.lit.injEq, Lit.int.injEq, true_and] at hc
    have : o = j := by omega
    subst this
    exact hrun

/-- Who of the first k must pay. -/
def owF (ys : List Int) (k j : Nat) : Bool := decide (j < k) && decide (ys.getD j 0 < 0)

theorem owF_next_yes {ys : List Int} {k : Nat} (h : ys.getD k 0 < 0) (j : Nat) : owF ys (k + 1) j = (owF ys k j || j == k) := by
  unfold owF
  by_cases e : j = k
  · subst e
    rw [decide_eq_true h, decide_eq_true (Nat.lt_succ_self j), beq_self_eq_true]; simp
  · have e2 : (j == k) = false := by simp [e]
    rw [e2, Bool.or_false]
    by_cases h1 : j < k
    · rw [decide_eq_true h1, decide_eq_true (show j < k + 1 by omega)]
    · rw [decide_eq_false h1, decide_eq_false (show ¬ j < k + 1 by omega)]
theorem owF_next_no {ys : List Int} {k : Nat} (h : ¬ ys.getD k 0 < 0) (j : Nat) : owF ys (k + 1) j = owF ys k j := by
  unfold owF
  by_cases e : j = k
  · subst e; rw [decide_eq_false h, Bool.and_false, Bool.and_false]
  · by_cases h1 : j < k
    · rw [decide_eq_true h1, decide_eq_true (show j < k + 1 by omega)]
    · rw [decide_eq_false h1, decide_eq_false (show ¬ j < k + 1 by omega)]

set_option maxRecDepth 100000 in
set_option maxHeartbeats 1600000 in
theorem owingOf_impl (g n cap : Nat) (ys : List Int) (B : Nat) (w : World) (hown : Own w B (sl g n cap) ys) (hl : ys.length = n) (h6 : n ≤ 6) :
    Calls Try.prog 81 #[.slice (some ⟨g, 0, none⟩) n cap] w fun e w' => e = .returned (.map (some w.heap.size)) ∧ (∃ D, w'.ownsMap Try.prog 3 (ptrR g) w.heap.size n D ∧ OwD (owF ys n) D) ∧ Below w.heap.size w w' := by
  have HCE : Hid (∀ k, k < n → g < w.heap.size ∧ w.cell? ⟨g, k, none⟩ = some (.int .i64 (ys.getD k 0))) := fun k hk => ⟨(hown.lt g rfl).2, hown.cell hl k hk⟩
  have hmm := @run_makeMap Try.prog
  clear hown
  go_enter Try.func81, Try.ntmps81
  go_wp2
  go_loopw [8] (fun i wr => ∃ k : Nat, k ≤ n ∧ i = .int .i64 k ∧ (∃ D, wr.ownsMap Try.prog 3 (ptrR g) w.heap.size k D ∧ OwD (owF ys k) D) ∧ Below w.heap.size w wr) (fun i _ => n - (intOf i).toNat)
  case atStart => exact ⟨0, Nat.zero_le _, rfl, ⟨_, World.ownsMap_made _ _ _ _, OwD.empty fun j => by simp [owF]⟩, (Below.refl _ _).alloc (Nat.le_refl _) _⟩
  case round =>
    obtain ⟨k, hk, rfl, ⟨D, hm, hD⟩, hbl⟩ := hrel
    rename World => wr
    by_cases hlt : k < n
    · have i1 : (k : Int) < (n : Int) := by omega
      have c0 := HCE.out k hlt
      have cx := (hbl.cell (p := ⟨g, k, none⟩) c0.1).trans c0.2
      have hkey : keyOf Try.prog 3 (.int .i64 (k : Int)) = some (.int .i64 (k : Int)) := keyOf_int_mk Try.underlying3 (WalkArith.wf_i64 (by omega))
      clear c0
      by_cases hneg : ys.getD k 0 < 0
      · have HD2 : Hid (OwD (owF ys (k + 1)) (D.put (.int .i64 (k : Int)) (.lit (.int .i64 (k : Int))))) := hD.put hm.isMap (owF_next_yes hneg)
        clear hD
        generalize ys.getD k 0 = y at cx hneg
        go_wp2_with (at_mapUpdate; refine wpList_mapUpdate_own _ rfl _ _ _ 64 rfl 3 58 lawI Try.underlying64 (ptrR g) w.heap.size k D rfl hm (by unfold maxLen; omega) _ _ _ rfl rfl hkey _ [] (ptrR_mk g k) ?_)
        intro w1 hm1 hg1
        have hb1 : Below w.heap.size w w1 := hbl.trans (below_grown hg1 hbl.size (fun j hj => by cases hj; exact Nat.le_refl _))
        have HM1 := Lib.hid hm1
        clear hm1 hg1 hm cx
        go_wp2
        go_roundw
        case rel => exact ⟨k + 1, by omega, by go_num, ⟨_, HM1.out, HD2.out⟩, hb1⟩
        case measure => simp [intOf]; omega
      · have HD2 : Hid (OwD (owF ys (k + 1)) D) := hD.congr (owF_next_no hneg)
        have HM1 := Lib.hid (hm.mono (Nat.le_succ k))
        clear hD hm
        generalize ys.getD k 0 = y at cx hneg
        go_wp2
        go_roundw
        case rel => exact ⟨k + 1, by omega, by go_num, ⟨_, HM1.out, HD2.out⟩, hbl⟩
        case measure => simp [intOf]; omega
    · have hke : k = n := by omega
      subst hke
      go_wp2
      go_ret
      exact ⟨rfl, ⟨D, hm, hD⟩, hbl⟩

end Go.Proofs.Ytbedjebnllimpaa
