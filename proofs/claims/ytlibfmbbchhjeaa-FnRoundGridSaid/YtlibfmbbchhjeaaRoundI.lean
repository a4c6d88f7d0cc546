/- The model's search: roundFrom whole, RoundGrid. -/
import Derived.Test.YtlibfmbbchhjeaaRoundH
namespace Go.Proofs.Ytlibfmbbchhjeaa
open Go.RowKit Flat

section
variable {g : List (List Int)} {u : Int}

theorem roundFrom_spec (h1 : vGrid g u = true) (vg : Value) : ∀ (r p : Nat) (v : Value) (w : World) (B : Nat) (c : Nat → Int), p + r = g.length * (rowOf g 0).length → okTo g u p c → IsGrid w vg g → OwnT w B v (part (rowOf g 0).length p c) → B ≤ w.heap.size →
    Calls Try.prog 79 #[vg, .int .i64 u, v, .int .i64 p] w (FromOut w B (fromM g u (rowOf g 0).length (g.length * (rowOf g 0).length) r (part (rowOf g 0).length p c)) r)
  | 0, p, v, w, B, c, hp, hok, hg, ho, _ => roundFrom_base vg v w B p c h1 (by omega) hok hg ho
  | r + 1, p, v, w, B, c, hp, hok, hg, ho, hB => by
    have IH : ∀ (v' : Value) (w' : World) (B' : Nat) (c' : Nat → Int), okTo g u (p + 1) c' → IsGrid w' vg g → OwnT w' B' v' (part (rowOf g 0).length (p + 1) c') → B' ≤ w'.heap.size →
        Calls Try.prog 79 #[vg, .int .i64 u, v', .int .i64 (p + 1 : Nat)] w' (FromOut w' B' (fromM g u (rowOf g 0).length (g.length * (rowOf g 0).length) r (part (rowOf g 0).length (p + 1) c')) r) :=
      fun v' w' B' c' hok' hg' ho' hB' => roundFrom_spec h1 vg r (p + 1) v' w' B' c' (by omega) hok' hg' ho' hB'
    cases hbad : badRow g u (rowOf g 0).length p (part (rowOf g 0).length p c)
    · by_cases hk : p % (rowOf g 0).length = 0
      · exact roundFrom_row vg v w B r p c h1 hp hok hg ho hB hbad hk IH
      · exact roundFrom_mid vg v w B r p c h1 hp hok hg ho hB hbad hk IH
    · exact roundFrom_bad vg v w B r p c h1 hp hok hg ho hbad

end

/-- A table of the call's own, or nil. -/
def Tabled (w : World) (B : Nat) (v : Value) (R : Option (List (List Int))) : Prop := (∀ t, R = some t → OwnT w B v t) ∧ (R = none → v = .slice none 0 0)

theorem Tabled.below {w w' : World} {B : Nat} {v : Value} {R : Option (List (List Int))} (h : Tabled w B v R) (hb : Below w.heap.size w w') : Tabled w' B v R :=
  ⟨fun t ht => (h.1 t ht).below hb, h.2⟩

set_option maxRecDepth 100000 in
set_option maxHeartbeats 1600000 in
theorem RoundGrid_spec (v : Value) (g : List (List Int)) (u : Int) (w : World) (hv : IsGrid w v g) (hl : g.length ≤ 9223372036854775807) (hr : ∀ i, i < g.length → (rowOf g i).length ≤ 9223372036854775807) :
    Calls Try.prog 41 #[v, .int .i64 u] w fun e w' => ∃ v', e = .returned v' ∧ Tabled w' w.heap.size v' (roundedG g u) ∧ Below w.heap.size w w' := by
  cases h1 : vGrid g u
  · obtain ⟨a, cap, rfl, _⟩ := id hv
    have E : Hid (roundedG g u = none) := by show roundedG g u = none; rw [roundedG, h1]; rfl
    have hvg := validGrid_spec _ _ u w hv hl hr
    rw [h1] at hvg
    go_enter Try.func41, Try.ntmps41
    go_wp2_with (go_at_call 74; refine hvg.mono ?_; rintro e w' ⟨rfl, hd⟩)
    go_ret
    refine ⟨.slice none 0 0, rfl, ⟨fun t ht => (by rw [E.out] at ht; cases ht), fun _ => rfl⟩, hd.below⟩
  · have hgs := small_vGrid h1
    have hm : 0 < (rowOf g 0).length := by have := hgs.2.1; omega
    have hn : 0 < g.length := by have := hgs.1; omega
    have hN : 0 < g.length * (rowOf g 0).length := Nat.mul_pos hn hm
    have E : Hid (roundedG g u = fromM g u (rowOf g 0).length (g.length * (rowOf g 0).length) (g.length * (rowOf g 0).length) []) := by show roundedG g u = _; rw [roundedG, h1, if_pos rfl, fromM_first h1]
    obtain ⟨a, cap, rfl, _⟩ := id hv
    have hvg := validGrid_spec _ _ u w hv hl hr
    rw [h1] at hvg
    have HV := Lib.hid hv
    have HF : Hid (∀ (w' : World) (v' : Value) (B' : Nat), IsGrid w' (.slice a g.length cap) g → OwnT w' B' v' [] → B' ≤ w'.heap.size → Calls Try.prog 79 #[.slice a g.length cap, .int .i64 u, v', .int .i64 0] w' (FromOut w' B' (fromM g u (rowOf g 0).length (g.length * (rowOf g 0).length) (g.length * (rowOf g 0).length) []) (g.length * (rowOf g 0).length))) :=
      fun w' v' B' hg' ho' hB' => roundFrom_spec h1 _ (g.length * (rowOf g 0).length) 0 v' w' B' (fun _ => 0) (by omega) (fun q hq => absurd hq (Nat.not_lt_zero _)) hg' ho' hB'
    clear hv h1
    go_enter Try.func41, Try.ntmps41
    go_wp2_with (go_at_call 74; refine hvg.mono ?_; rintro e w1 ⟨rfl, hd⟩)
    have hb1 : Below w.heap.size w w1 := hd.below
    have hb2 : Below w1.heap.size w1 (w1.alloc (.cells #[] 23)) := (Below.refl _ _).alloc (Nat.le_refl _) _
    have hb3 := hb1.trans (hb2.mono hb1.size)
    have ho := (ownTV_empty w1 w1.heap.size (Nat.le_refl _)).table
    have hf := HF.out _ _ _ ((HV.out.below hb1).below hb2) ho hb2.size
    have H := Lib.hid hf
    clear hf ho
    go_wp2_with (go_at_call 79; refine H.out.mono ?_)
    rintro e w6 ⟨v6, ok6, rfl, hsome, hnone, hb6⟩
    have T : Hid (Tabled w6 w.heap.size v6 (roundedG g u)) := by
      show Tabled _ _ _ _
      rw [E.out]
      exact ⟨fun t ht => (hsome t ht).2.base hb1.size, fun ht => (hnone ht).2 hN⟩
    clear hsome hnone H
    go_wp2
    go_ret
    exact ⟨_, rfl, T.out, hb3.trans (hb6.mono hb3.size)⟩

end Go.Proofs.Ytlibfmbbchhjeaa
