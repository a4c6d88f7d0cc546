/- A region that draws its order, by an invariant of what has come up; also in the round of a range over a function. -/
import Derived.Test.YtfgafbjofkicdaaBoxW
import Derived.OrdersIn
import Derived.RegionIn
import Derived.OwnWalkIn
namespace Go.Proofs.Ytfgafbjofkicdaa
open Go.RowKit

theorem set_listed {listed : Array Bool} {i : Nat} (hi : listed.getD i true = false) (j : Nat) (d : Bool) : (listed.setIfInBounds i true).getD j d = if i = j then true else listed.getD j d := by
  by_cases h : i = j
  · subst h
    have hlt : i < listed.size := by
      rcases Nat.lt_or_ge i listed.size with h | h
      · exact h
      · simp [Array.getElem?_eq_none h] at hi
    simp [hlt]
  · rw [getD_set_ne d h, if_neg h]

/-- How many have not come up. -/
def unl (listed : Array Bool) : Nat → Nat
  | 0 => 0
  | k + 1 => unl listed k + (if listed.getD k true = false then 1 else 0)

theorem unl_set {listed : Array Bool} {i : Nat} (hi : listed.getD i true = false) : ∀ k, unl (listed.setIfInBounds i true) k + (if i < k then 1 else 0) = unl listed k
  | 0 => by simp [unl]
  | k + 1 => by
    have ih := unl_set hi k
    rw [unl, unl, set_listed hi k true]
    by_cases h : i = k
    · subst h
      rw [if_pos rfl, hi]
      simp at ih ⊢
      omega
    · rw [if_neg h]
      generalize (if listed.getD k true = false then 1 else 0) = c
      by_cases h2 : i < k
      · rw [if_pos h2] at ih
        rw [if_pos (show i < k + 1 by omega)]
        omega
      · rw [if_neg h2] at ih
        rw [if_neg (show ¬ i < k + 1 by omega)]
        omega

theorem unl_zero {listed : Array Bool} : ∀ k, unl listed k = 0 → ∀ j, j < k → listed.getD j true = true
  | 0, _, j, hj => by omega
  | k + 1, h, j, hj => by
    rw [unl] at h
    by_cases e : j = k
    · subst e
      cases hb : listed.getD j true
      · rw [hb] at h; simp at h
      · rfl
    · exact unl_zero k (by omega) j (by omega)

theorem unl_full : ∀ k n, k ≤ n → unl (Array.replicate n false) k = k
  | 0, _, _ => rfl
  | k + 1, n, h => by
    rw [unl, unl_full k n (by omega)]
    have : (Array.replicate n false).getD k true = false := by simp [show k < n by omega]
    rw [this]; rfl

/-- No operation waits for one that stands behind it. -/
def waitsBack (ops : Array Oper) : Bool := (List.range ops.size).all fun j => match ops[j]? with
  | some o => o.after.all fun e => decide (e.on < j)
  | none => true

theorem ready_some {ops : Array Oper} (hb : waitsBack ops = true) {listed : Array Bool} (hs : listed.size = ops.size) (hr : Region.ready .any ops listed = []) : ∀ j, j < ops.size → listed.getD j true = true := by
  intro j
  induction j using Nat.strongRecOn with
  | _ j ih =>
    intro hj
    cases hl : listed.getD j true
    · exfalso
      have h1 : ops[j]? = some ops[j] := Array.getElem?_eq_getElem hj
      have h2 := List.all_eq_true.1 hb j (List.mem_range.2 hj)
      rw [h1] at h2
      have : j ∈ Region.ready .any ops listed := mem_ready.2 ⟨hl, ops[j], h1, fun e he _ => by
        have h3 := Array.all_eq_true_iff_forall_mem.1 h2 e he
        have h4 : e.on < j := by simpa using h3
        have h5 := ih e.on h4 (by omega)
        have h6 : e.on < listed.size := by omega
        simpa [h6] using h5⟩
      rw [hr] at this
      cases this
    · rfl

theorem wpAnyIn_inv {P : Program} {F : Fence} {n : Nat} {ops : Array Oper} {Q : Exit → Act → World → Prop} (Inv : Array Bool → Act → World → Prop) (hb : waitsBack ops = true)
    (hsz : ∀ listed a w, Inv listed a w → listed.size = ops.size)
    (hstep : ∀ listed a w i, Inv listed a w → i ∈ Region.ready .any ops listed → wpOpIn F n P ops Q i (fun a' w' => Inv (listed.setIfInBounds i true) a' w') a w)
    (hend : ∀ listed a w, Inv listed a w → (∀ j, j < ops.size → listed.getD j true = true) → Q .normal a w) :
    ∀ fuel listed a w, Inv listed a w → unl listed ops.size ≤ fuel → wpAnyIn F n P .any ops Q fuel listed a w
  | 0, listed, a, w, h, hu => by
    have hall := unl_zero ops.size (by omega) (listed := listed)
    refine ⟨?_, hend _ _ _ h hall⟩
    rw [List.eq_nil_iff_forall_not_mem]
    intro i hi
    obtain ⟨h1, o, ho, _⟩ := mem_ready.1 hi
    rw [hall i (Array.getElem?_eq_some_iff.1 ho).1] at h1
    cases h1
  | fuel + 1, listed, a, w, h, hu => by
    refine ⟨fun hr => hend _ _ _ h (ready_some hb (hsz _ _ _ h) hr), fun i hi => ?_⟩
    obtain ⟨h1, o, ho, _⟩ := mem_ready.1 hi
    have hlt := (Array.getElem?_eq_some_iff.1 ho).1
    have hs := unl_set h1 ops.size
    rw [if_pos hlt] at hs
    exact wpOpIn_mono (fun a' w' h' => wpAnyIn_inv Inv hb hsz hstep hend fuel _ a' w' h' (by omega)) (hstep _ _ _ _ h hi)

theorem wpIn_region_inv {P : Program} {F : Fence} {n id : Nat} {ops : Array Oper} {Q : Exit → Act → World → Prop} {a : Act} {w : World} (hm : P.follows .mixedOrders = true) (hb : waitsBack ops = true) (Inv : Array Bool → Act → World → Prop)
    (hsz : ∀ listed a w, Inv listed a w → listed.size = ops.size)
    (h0 : Inv (Array.replicate ops.size false) a w.drew)
    (hstep : ∀ listed a w i, Inv listed a w → i ∈ Region.ready .any ops listed → wpOpIn F n P ops Q i (fun a' w' => Inv (listed.setIfInBounds i true) a' w') a w)
    (hend : ∀ listed a w, Inv listed a w → (∀ j, j < ops.size → listed.getD j true = true) → Q .normal a w) : (Code.region id ops true).wpIn F n P Q a w :=
  wpIn_region_any hm (wpAnyIn_inv Inv hb hsz hstep hend _ _ _ _ h0 (by rw [unl_full _ _ (Nat.le_refl _)]; exact Nat.le_refl _))

theorem wpOpIn_of {F : Fence} {n : Nat} {P : Program} {ops : Array Oper} {Q : Exit → Act → World → Prop} {i : Nat} {K : Act → World → Prop} {a : Act} {w : World} {o : Oper} (ho : ops[i]? = some o) (hw : Region.wanted o (yielded ops a.tmps) = true) (h : o.wpIn F n P a w K Q) : wpOpIn F n P ops Q i K a w := by
  unfold wpOpIn
  simp only [ho, hw, if_true]
  exact h

theorem wpIn_val {l n : Nat} {P : Program} {Q : Exit → Act → World → Prop} {K : Act → World → Prop} {a : Act} {w w' : World} {o : Oper} {v : Value} (hnd : ∀ c, o.op ≠ .defer c) (hr : (execOp a.eval o).run P w = .ok (.value v) w') (h : K (a.put o.dst v) w') : o.wpIn (Fence.wide.inRound l) n P a w K Q := by
  unfold Oper.wpIn
  refine ⟨fun _ _ => trivial, ?_⟩
  rw [Oper.semAt_plain _ _ _ hnd, hr]
  exact h

theorem wpIn_skipped {l n : Nat} {P : Program} {Q : Exit → Act → World → Prop} {K : Act → World → Prop} {a : Act} {w w' : World} {o : Oper} (hnd : ∀ c, o.op ≠ .defer c) (hr : (execOp a.eval o).run P w = .ok .skip w') (h : K (a.put o.dst undef) w') : o.wpIn (Fence.wide.inRound l) n P a w K Q := by
  unfold Oper.wpIn
  refine ⟨fun _ _ => trivial, ?_⟩
  rw [Oper.semAt_plain _ _ _ hnd, hr]
  exact h

end Go.Proofs.Ytfgafbjofkicdaa
