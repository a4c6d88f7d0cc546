/- WaysOf of the program at whatever arguments; what serves the laws over it. -/
import Derived.Test.YtkhmooemgjichaaHv
import Derived.Test.YtkhmooemgjichaaOwn
import Derived.Test.YtkhmooemgjichaaCoinS
namespace Go.Proofs.Ytkhmooemgjichaa
open Go Go.Conc Go.RowKit

theorem WaysOf_no (v : Value) (cs : List Int) (a : Int) (w : World) (hv : IsInts w v cs) (hl : cs.length ≤ 9223372036854775807) (h : (vCoins cs && inR a 0 120) = false) :
    Calls Try.prog 8 #[v, .int .i64 a] w fun e w' => e = .returned (.int .i64 (-1)) ∧ Drawn w w' := by
  have HC := Lib.hid (canPayBy_at v cs a false w hv hl h)
  obtain ⟨av, cap, rfl, _⟩ := hv
  go_enter Try.func8, Try.ntmps8
  go_wp2_with (go_at_call 23; refine HC.out.mono ?_; rintro e w2 ⟨rfl, hd⟩)
  go_ret
  exact ⟨rfl, hd⟩

theorem belX_drawn {w w' : World} (h : Drawn w w') : BelX w.heap.size w w' := by
  obtain ⟨m, rfl⟩ := h
  exact ⟨rfl, rfl, Nat.le_refl _, fun _ _ => rfl⟩

theorem WaysOf_any (v : Value) (cs : List Int) (a : Int) (w : World) (hv : IsInts w v cs) (hl : cs.length ≤ 9223372036854775807) (hcap : ∀ x n c, v = .slice x n c → n ≤ c) :
    CallsB Try.prog 8 #[v, .int .i64 a] w fun x w' => x = .int .i64 (waysV cs a) ∧ BelX w.heap.size w w' := by
  cases h : vCoins cs && inR a 0 120
  · have e : waysV cs a = -1 := by
      unfold waysV
      rw [if_neg]
      rw [← Bool.and_eq_true, h]
      simp
    rw [e]
    refine CallsB.ofCalls plain_prog (fun v u τ d h => ⟨h.1, h.2.on τ d⟩) fun τ => (WaysOf_no v cs a (On w τ 0) hv hl h).mono fun e w' h => ?_
    obtain ⟨rfl, hd⟩ := h
    have hb : BelX w.heap.size (On w τ 0) w' := belX_drawn hd
    exact ⟨_, rfl, rfl, hb.os, hb.output, hb.size, hb.block⟩
  · rw [Bool.and_eq_true] at h
    obtain ⟨hcs, hin⟩ := h
    have e : waysV cs a = wyV cs a := if_pos ⟨hcs, hin⟩
    rw [e]
    have hlen := vc_len hcs
    have ha : 0 ≤ a ∧ a ≤ 120 := by
      unfold inR at hin
      simpa using hin
    obtain ⟨am, rfl⟩ : ∃ am : Nat, a = am := ⟨a.toNat, by omega⟩
    have hne : cs ≠ [] := fun h0 => by rw [h0] at hlen; simp at hlen
    have hsplit : cs.dropLast ++ [cs.getLast hne] = cs := List.dropLast_concat_getLast hne
    have hdl : cs.dropLast.length + 1 = cs.length := by rw [List.length_dropLast]; omega
    have hv' := hv
    obtain ⟨x, cap, rfl, hcell⟩ := hv
    obtain ⟨b, off, rfl, _⟩ := hcell 0 (by omega)
    have hcp := hcap _ _ _ rfl
    have := WaysOf_B b off cap am (cs.getLast hne) cs.dropLast w (by rw [hsplit, hdl]; exact hv') (by omega) (by rw [hsplit]; exact hcs) (by omega)
    rw [hsplit, hdl] at this
    exact this

theorem toIntS_B (v : Value) (xs : List Int) (w : World) (hv : IsInts w v xs) (hl : xs.length ≤ 1048576) :
    CallsB Try.prog 11 #[v] w fun x w' => Own w' w.heap.size x xs ∧ BelX w.heap.size w w' :=
  CallsB.ofCalls plain_prog (fun v u τ d h => ⟨own_on h.1 τ d, h.2.on τ d⟩) fun τ => (toIntS_any v xs (On w τ 0) hv hl).mono fun e w' h => by
    obtain ⟨v', rfl, h1, h2⟩ := h
    exact ⟨_, rfl, h1, BelX.ofOn h2⟩
theorem eqIntS_B (va vb : Value) (xs ys : List Int) (w : World) (ha : IsInts w va xs) (hb : IsInts w vb ys) (hl : xs.length ≤ 9223372036854775807) :
    CallsB Try.prog 12 #[va, vb] w fun x w' => x = .bool (decide (xs = ys)) ∧ BelX w.heap.size w w' :=
  CallsB.ofCalls plain_prog (fun v u τ d h => ⟨h.1, h.2.on τ d⟩) fun τ => (eqIntS_any va vb xs ys (On w τ 0) ha hb hl).mono fun e w' h => by
    obtain ⟨rfl, h2⟩ := h
    exact ⟨_, rfl, rfl, BelX.ofOn h2⟩
theorem waysSpec_B (v : Value) (cs : List Int) (a : Int) (w : World) (hv : IsInts w v cs) (hl : cs.length ≤ 9223372036854775807) :
    CallsB Try.prog 9 #[v, .int .i64 a] w fun x w' => x = .int .i64 (waysV cs a) ∧ BelX w.heap.size w w' :=
  CallsB.ofCalls plain_prog (fun v u τ d h => ⟨h.1, h.2.on τ d⟩) fun τ => (WaysOf_spec v cs a (On w τ 0) hv hl).mono fun e w' h => by
    obtain ⟨rfl, h2⟩ := h
    exact ⟨_, rfl, rfl, BelX.ofOn h2⟩

theorem own_belX {w w' : World} {B : Nat} {v : Value} {xs : List Int} (h : Own w B v xs) (hb : BelX w.heap.size w w') : Own w' B v xs :=
  Own.below (show Own (On w w'.tape 0) B v xs from h) hb.belowOn
theorem own_cap2 {w : World} {B : Nat} {v : Value} {xs : List Int} (h : Own w B v xs) : ∀ a n c, v = .slice a n c → n ≤ c := by
  rintro a n c rfl
  rcases h.2 with ⟨h0, _⟩ | ⟨g, c', cur, hv, _, _, hl, _⟩
  · simp only [Value.slice.injEq] at h0
    omega
  · simp only [Value.slice.injEq] at hv
    omega
end Go.Proofs.Ytkhmooemgjichaa
