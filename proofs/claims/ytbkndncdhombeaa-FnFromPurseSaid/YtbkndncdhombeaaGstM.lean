/- Coins taken from the last one to the first: the state behind any numbers of them. -/
import Derived.Test.YtbkndncdhombeaaCoinQ
import Derived.Test.YtbkndncdhombeaaRegC
namespace Go.Proofs.Ytbkndncdhombeaa
open Go.RowKit

/-- What is taken and what is left, the greedy way. -/
def gst (cs : List Int) (a : Int) (pre : List (Fin cs.length)) : List Int × Int := pre.foldl (fun s x => (s.1.set x.val (s.2 / nth cs x), s.2 % nth cs x)) (List.replicate cs.length 0, a)

theorem gst_nil (cs : List Int) (a : Int) : gst cs a [] = (List.replicate cs.length 0, a) := rfl
theorem gst_snoc (cs : List Int) (a : Int) (pre : List (Fin cs.length)) (x : Fin cs.length) : gst cs a (pre ++ [x]) = ((gst cs a pre).1.set x.val ((gst cs a pre).2 / nth cs x), (gst cs a pre).2 % nth cs x) := by
  unfold gst
  rw [List.foldl_append]
  rfl

theorem gst_len (cs : List Int) (a : Int) (pre : List (Fin cs.length)) : (gst cs a pre).1.length = cs.length := by
  have h : ∀ (r : List (Fin cs.length)), (gst cs a r.reverse).1.length = cs.length := by
    intro r
    induction r with
    | nil => simp [gst_nil]
    | cons x r ih => rw [List.reverse_cons, gst_snoc]; simpa using ih
  have := h pre.reverse
  rwa [List.reverse_reverse] at this

theorem gst_bounds {cs : List Int} (hp : Pos cs) {a : Int} (h0 : 0 ≤ a) (pre : List (Fin cs.length)) : 0 ≤ (gst cs a pre).2 ∧ (gst cs a pre).2 ≤ a := by
  have h : ∀ (r : List (Fin cs.length)), 0 ≤ (gst cs a r.reverse).2 ∧ (gst cs a r.reverse).2 ≤ a := by
    intro r
    induction r with
    | nil => simp [gst_nil]; exact h0
    | cons x r ih =>
      rw [List.reverse_cons, gst_snoc]
      have hx := hp _ (getD_mem x.isLt)
      have hx' : 1 ≤ nth cs x := hx
      have h1 := Int.emod_nonneg (gst cs a r.reverse).2 (show nth cs x ≠ 0 by omega)
      have h2 := Int.mul_ediv_add_emod (gst cs a r.reverse).2 (nth cs x)
      have h3 := Int.mul_nonneg (show 0 ≤ nth cs x by omega) (Int.ediv_nonneg ih.1 (show 0 ≤ nth cs x by omega))
      exact ⟨h1, by simp only []; omega⟩
  have := h pre.reverse
  rwa [List.reverse_reverse] at this

/-- Whatever goes from the last coin to the first goes so in their places. -/
theorem back_at {cs : List Int} (h : vCoins cs = true) {ys : List (Fin cs.length)} (hy : (ys.map (nth cs)).reverse = cs) : ys.length = cs.length ∧ ∀ (k : Nat) (hk : k < ys.length), (ys[k]).val = cs.length - 1 - k := by
  have hlen : ys.length = cs.length := by
    have := congrArg List.length hy
    simpa using this
  refine ⟨hlen, fun k hk => ?_⟩
  have e : ys.map (nth cs) = cs.reverse := by
    have := congrArg List.reverse hy
    rwa [List.reverse_reverse] at this
  have e2 : (ys.map (nth cs))[k]? = cs.reverse[k]? := by rw [e]
  rw [List.getElem?_map, List.getElem?_eq_getElem hk, List.getElem?_reverse (by omega), List.getElem?_eq_getElem (by omega)] at e2
  simp only [Option.map_some, Option.some.injEq] at e2
  have e3 : cs.getD (ys[k]).val 0 = cs.getD (cs.length - 1 - k) 0 := by
    have : nth cs ys[k] = cs.getD (ys[k]).val 0 := rfl
    rw [← this, e2]
    simp [List.getD, show cs.length - 1 - k < cs.length by omega]
  have hl := (ys[k]).isLt
  rcases Nat.lt_trichotomy (ys[k]).val (cs.length - 1 - k) with hlt | heq | hgt
  · have := vc_lt h _ _ hlt (by omega); omega
  · exact heq
  · have := vc_lt h _ _ hgt hl; omega

theorem gst_end {cs : List Int} (h : vCoins cs = true) (a : Int) {ys : List (Fin cs.length)} (hy : (ys.map (nth cs)).reverse = cs) : (gst cs a ys).1 = grL cs a := by
  obtain ⟨hlen, hat⟩ := back_at h hy
  have key : ∀ k : Nat, k ≤ ys.length → ∃ Q : List Int, (gst cs a (ys.take k)).1 = List.replicate (cs.length - k) 0 ++ Q ∧ grL cs a = grR (cs.take (cs.length - k)).reverse (gst cs a (ys.take k)).2 ++ Q := by
    intro k
    induction k with
    | zero => intro _; exact ⟨[], by simp [gst_nil], by simp [gst_nil, grL]⟩
    | succ k ih =>
      intro hk
      obtain ⟨Q, h1, h2⟩ := ih (by omega)
      have hk' : k < ys.length := by omega
      have hi : (ys[k]).val = cs.length - (k + 1) := by have := hat k hk'; omega
      have hn : nth cs ys[k] = cs.getD (cs.length - (k + 1)) 0 := by rw [← hi]; rfl
      rw [List.take_succ_eq_append_getElem hk', gst_snoc, hn, hi]
      refine ⟨((gst cs a (ys.take k)).2 / cs.getD (cs.length - (k + 1)) 0) :: Q, ?_, ?_⟩
      · simp only []
        rw [h1, show cs.length - k = (cs.length - (k + 1)) + 1 by omega, rep_succ, rep_set]
      · simp only []
        rw [h2, show cs.length - k = (cs.length - (k + 1)) + 1 by omega, grR_app (by omega)]
  obtain ⟨Q, h1, h2⟩ := key ys.length (Nat.le_refl _)
  rw [List.take_length, hlen, Nat.sub_self] at h1 h2
  rw [h1, h2, List.take_zero]
  simp [grR]

theorem nth_at {cs : List Int} (h : vCoins cs = true) (x : Fin cs.length) : 1 ≤ nth cs x ∧ nth cs x ≤ 30 := vc_at h x.isLt

theorem Backward_any (a : Option Addr) (n c : Nat) (w : World) :
    Calls Try.prog 49 #[.slice a n c] w fun e w' => e = .returned (.func (.func 69) #[] #[.pointer (some ⟨w.heap.size, 0, none⟩)]) ∧ w' = w.alloc (.cells #[.slice a n c] 23) := by
  go_enter Try.func49, Try.ntmps49
  go_wp2
  go_ret
  exact ⟨rfl, rfl⟩

theorem wpListIn_make_full {F : Fence} {n : Nat} {P : Program} (w : World) {ops : Array Oper} {rest : List Oper} {o : Oper} {a : Act} {Q : Exit → Act → World → Prop}
    (hg : o.guard = none) (l c : Operand) (t : TypeId) (hop : o.op = Op.makeSlice t l c)
    (base : Nat) (e : TypeId) (i : TypeInfo) (z : Value) (size : Nat) (h1 : P.underlying t = some (.slice e)) (h2 : P.info? e = some i) (h3 : i.zero = some z) (h4 : i.size = size)
    (kl kc : IntKind) (L C : Int) (m : Nat) (hl : a.eval l = .int kl L) (hc : a.eval c = .int kc C) (hL : L = (m : Int)) (hC : C = (m : Int)) (b2 : i.bytes * m ≤ 281474976710656) (b3 : m ≤ maxLen) (b4 : base ≤ w.heap.size)
    (hK : ∀ w', w'.ownsRow base e size (.slice (some ⟨w.heap.size, 0, none⟩) m m) m (madeCells z.cells (m * size)).toList → w.grownBy w' none → wpListIn F n P ops Q rest (a.put o.dst (.slice (some ⟨w.heap.size, 0, none⟩) m m)) w') :
    wpListIn F n P ops Q (o :: rest) a w := by
  refine wpListIn_plain hg fun K hK' => ?_
  obtain ⟨w', hrun, r1, r2⟩ := run_make_full (P := P) w base t e i z size h1 h2 h3 h4 kl kc m b2 b3 b4
  subst hL
  subst hC
  unfold Oper.wpIn
  refine ⟨?_, ?_⟩
  · simp [Oper.about, hop]
  · rw [Oper.semAt_plain F _ _ (by rw [hop]; intro c hc'; cases hc')]
    simp [execOp, hop, hl, hc, hrun, Result.andThen]
    exact hK' _ _ (hK w' r1 r2)

end Go.Proofs.Ytbkndncdhombeaa
