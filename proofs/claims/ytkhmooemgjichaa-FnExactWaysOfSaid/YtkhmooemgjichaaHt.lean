/- waysByGreatest: its calls. -/
import Derived.Test.YtkhmooemgjichaaHs
import Derived.Test.YtkhmooemgjichaaCoinS
namespace Go.Proofs.Ytkhmooemgjichaa
open Go Go.Conc Go.RowKit

theorem own_on {w : World} {N : Nat} {v : Value} {xs : List Int} (h : Own w N v xs) (τ : Tp) (d : Nat) : Own (On w τ d) N v xs := h
theorem ints_on {w : World} {v : Value} {xs : List Int} (h : IsInts w v xs) (τ : Tp) (d : Nat) : IsInts (On w τ d) v xs := h
theorem own_same {w w' : World} (e : Same w w') {N : Nat} {v : Value} {xs : List Int} (h : Own w N v xs) : Own w' N v xs := by obtain ⟨τ, d, rfl⟩ := e; exact h
theorem ints_same {w w' : World} (e : Same w w') {v : Value} {xs : List Int} (h : IsInts w v xs) : IsInts w' v xs := by obtain ⟨τ, d, rfl⟩ := e; exact h

/-- 'Below', but for tape and draws. -/
structure BelX (n : Nat) (w w' : World) : Prop where
  os : w'.os = w.os
  output : w'.output = w.output
  size : w.heap.size ≤ w'.heap.size
  block : ∀ k, k < n → w'.heap[k]? = w.heap[k]?
theorem BelX.refl (n : Nat) (w : World) : BelX n w w := ⟨rfl, rfl, Nat.le_refl _, fun _ _ => rfl⟩
theorem BelX.of {n : Nat} {w w' : World} (h : Below n w w') : BelX n w w' := ⟨h.os, h.output, h.size, h.block⟩
theorem BelX.ofOn {n : Nat} {w w' : World} {τ : Tp} {d : Nat} (h : Below n (On w τ d) w') : BelX n w w' := ⟨h.os, h.output, h.size, h.block⟩
theorem BelX.on {n : Nat} {w w' : World} (h : BelX n w w') (τ : Tp) (d : Nat) : BelX n w (On w' τ d) := ⟨h.os, h.output, h.size, h.block⟩
theorem BelX.same {n : Nat} {w w' u : World} (h : BelX n w w') (e : Same w' u) : BelX n w u := by obtain ⟨τ, d, rfl⟩ := e; exact h.on τ d
theorem BelX.mono {n m : Nat} {w w' : World} (h : BelX n w w') (hm : m ≤ n) : BelX m w w' := ⟨h.os, h.output, h.size, fun k hk => h.block k (by omega)⟩
theorem BelX.trans {n : Nat} {w u v : World} (h : BelX n w u) (h' : BelX n u v) : BelX n w v := ⟨h'.os.trans h.os, h'.output.trans h.output, Nat.le_trans h.size h'.size, fun k hk => (h'.block k hk).trans (h.block k hk)⟩
theorem BelX.below {n : Nat} {w w' : World} (h : BelX n w w') (ht : w'.tape = w.tape) : Below n w w' := ⟨h.os, ht, h.output, h.size, h.block⟩
theorem BelX.aside {n c : Nat} {w u v : World} (h : BelX n w u) (ha : Aside c u v) (hc : n ≤ c) : BelX n w v :=
  ⟨ha.os.trans h.os, ha.output.trans h.output, by rw [ha.size]; exact h.size, fun k hk => (ha.block k (by omega)).trans (h.block k hk)⟩
/-- A bound world that is 'Below' on the nose. -/
theorem BelX.belowOn {n : Nat} {w w' : World} (h : BelX n w w') : Below n (On w w'.tape 0) w' := ⟨h.os, rfl, h.output, h.size, h.block⟩
theorem ints_belX {w w' : World} {v : Value} {xs : List Int} (h : IsInts w v xs) (hb : BelX w.heap.size w w') : IsInts w' v xs :=
  IsInts.below (show IsInts (On w w'.tape 0) v xs from h) hb.belowOn

theorem enter_join (args : Array Value) (w : World) : (callFunc 42 args).run Try.prog w = .ok (.enter 42 args) w := by rfl
theorem join_impl (u y z : Int) (w : World) (hu : 0 ≤ u ∧ u ≤ 100000000000) (hy : 0 ≤ y ∧ y ≤ 100000000000) (h : z = u + y) :
    Calls Try.prog 42 #[.int .i64 u, .int .i64 y] w fun e w' => e = .returned (.int .i64 z) ∧ w = w' := by
  subst h
  go_enter Try.func42, Try.ntmps42
  go_wp2
  go_ret
  exact ⟨rfl, rfl⟩

theorem without_B (n : Nat) (x y : Int) (w : World) (hn : n ≤ 1050) :
    CallsB Try.prog 41 #[.int .i64 (n : Int), .int .i64 x, .int .i64 y] w fun v w' => ∃ g cap, v = sl g (n + 1) cap ∧ w.heap.size ≤ g ∧ Own w' w.heap.size (sl g (n + 1) cap) (tabL (fun j => if j = 0 then x else y) n) ∧ BelX w.heap.size w w' :=
  CallsB.ofCalls plain_prog (fun v u τ d h => by obtain ⟨g, cap, h1, h2, h3, h4⟩ := h; exact ⟨g, cap, h1, h2, own_on h3 τ d, h4.on τ d⟩) fun τ => (withoutCoins_int n x y (On w τ 0) hn).mono fun e w' h => by
    obtain ⟨g, cap, rfl, h1, h2, h3⟩ := h
    exact ⟨_, rfl, g, cap, rfl, h1, h2, BelX.ofOn h3⟩

theorem by_B (cs : List Int) (v : Value) (n ga cap : Nat) (w0 w : World) (hv : IsInts w0 v cs) (hcs : vCoins cs = true ∨ ∃ g, vCoins (cs ++ [g]) = true) (hbel : BelX w0.heap.size w0 w) (hga : w0.heap.size ≤ ga)
    (hown : Own w w0.heap.size (sl ga (n + 1) cap) (tabL (wyV []) n)) (hn : n ≤ 120) :
    CallsB Try.prog 40 #[v, sl ga (n + 1) cap, .func (.func 42) #[] #[]] w fun x w' => x = sl ga (n + 1) cap ∧ Own w' w0.heap.size (sl ga (n + 1) cap) (tabL (wyV cs) n) ∧ BelX w0.heap.size w0 w' := by
  have hat : (∀ i, i < cs.length → 1 ≤ cs.getD i 0 ∧ cs.getD i 0 ≤ 30) ∧ cs.length ≤ 5 ∧ Pos cs := by
    rcases hcs with h | ⟨g, h⟩
    · exact ⟨fun i hi => vc_at h hi, (vc_len h).2, vc_pos h⟩
    · refine ⟨fun i hi => ?_, ?_, ?_⟩
      · have := vc_at h (i := i) (by simp; omega)
        rw [List.getD_eq_getElem?_getD, List.getElem?_append_left hi, ← List.getD_eq_getElem?_getD] at this
        exact this
      · have := (vc_len h).2
        simp at this; omega
      · have := (vc_pos h).take cs.length
        rw [List.take_left'] at this
        · exact this
        · rfl
  obtain ⟨h1, h2, h3⟩ := hat
  have hwb : ∀ (i : Nat) (x : Int), x ≤ 120 → 0 ≤ wyV (cs.take i) x ∧ wyV (cs.take i) x ≤ 25937424601 := fun i x hx => ⟨wy_nonneg _ _, wy_le (h3.take i) (by rw [List.length_take]; omega) hx⟩
  refine CallsB.ofCalls plain_prog (fun v u τ d h => by obtain ⟨h1, h2, h3⟩ := h; exact ⟨h1, own_on h2 τ d, h3.on τ d⟩) fun τ => ?_
  refine (byCoins_int _ enter_join wyV cs v n ga cap (On w0 τ 0) (On w τ 0) hv h1 h2 ⟨hbel.os, rfl, hbel.output, hbel.size, hbel.block⟩ hga hown (by omega) (fun i hi j hj hjn => ?_) (fun i hi x hx hxn wx => ?_)).mono fun e w' h => ?_
  · rw [take_snoc cs hi]
    exact wy_snoc_less hj (h1 i hi).1
  · have hb1 := hwb i x (by omega)
    have hb2 := hwb (i + 1) ((x : Int) - cs.getD i 0) (by have := (h1 i hi).1; omega)
    refine join_impl _ _ _ wx ⟨hb1.1, by omega⟩ ⟨hb2.1, by omega⟩ ?_
    rw [take_snoc cs hi]
    exact wy_snoc hx (h1 i hi).1
  · obtain ⟨rfl, h2, h3⟩ := h
    exact ⟨_, rfl, rfl, h2, BelX.ofOn h3⟩
end Go.Proofs.Ytkhmooemgjichaa
