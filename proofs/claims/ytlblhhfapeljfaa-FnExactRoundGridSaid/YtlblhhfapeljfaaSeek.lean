/- RoundGrid in the program: a search. -/
import Derived.Test.YtlblhhfapeljfaaNext
namespace Go.Proofs.Ytlblhhfapeljfaa
open Go.RowKit

/-- The first rounded table from o on, in at most f steps. -/
def seek (g : List (List Int)) (u : Int) : Nat → List (List Int) → Option (List (List Int))
  | 0, _ => none
  | f + 1, o => if roundS g u o = true then some o else if (nextAll g u g.length o).1 = true then seek g u f (nextAll g u g.length o).2 else none

/-- The search from o comes to its end in at most f steps. -/
def ends (g : List (List Int)) (u : Int) : Nat → List (List Int) → Prop
  | 0, _ => False
  | f + 1, o => roundS g u o = true ∨ (nextAll g u g.length o).1 = false ∨ ends g u f (nextAll g u g.length o).2

/-- Every number is at least 0 and small, and the form is the grid's. -/
def candOK (g o : List (List Int)) : Prop := sameForm g o ∧ FitsG o

/-- What the function answers: the table of its own, or nil. -/
def answers (w : World) (B : Nat) (v : Value) : Option (List (List Int)) → Prop
  | none => v = .slice none 0 0
  | some o => OwnGrid w B v o

set_option maxRecDepth 100000 in
set_option maxHeartbeats 1600000 in
theorem roundGrid_impl (v : Value) (g : List (List Int)) (u : Int) (w : World) (F : Nat) (hv : IsGrid w v g) (h1 : vGrid g u = true) (he : ends g u F (downG g u))
    (hok : candOK g (downG g u)) (hstep : ∀ o, candOK g o → candOK g (nextAll g u g.length o).2) :
    Calls Try.prog 37 #[v, .int .i64 u] w fun e w' => ∃ v', e = .returned v' ∧ answers w' w.heap.size v' (seek g u F (downG g u)) ∧ Below w.heap.size w w' := by
  obtain ⟨a, cap, rfl, _⟩ := id hv
  obtain ⟨hl3, hr3⟩ := sides_of_vGrid h1
  have hl : g.length ≤ 9223372036854775807 := by omega
  have hr : ∀ i, i < g.length → (rowOf g i).length ≤ 9223372036854775807 := fun i hi => by have := hr3 i hi; omega
  have HR := Lib.hid hr
  have HR3 := Lib.hid hr3
  clear hr hr3
  go_enter Try.func37, Try.ntmps37
  go_wp2_with (go_at_call 69; refine (canRound_impl _ _ _ _ hv hl HR.out).mono ?_; rw [h1]; rintro e w' ⟨rfl, rfl⟩)
  refine (roundedDown_impl _ g u _ hv h1).mono ?_
  rintro e w1 ⟨v1, rfl, hO, hb1⟩
  obtain ⟨b0, _, hzv, _⟩ := id hO
  unfold rowVal at hzv
  subst hzv
  go_wp2
  go_loopg [] F (fun q wr => ∃ o, candOK g o ∧ OwnGrid wr w.heap.size (.slice (some ⟨b0, 0, none⟩) (downG g u).length (downG g u).length) o ∧ ends g u q o ∧ seek g u F (downG g u) = seek g u q o ∧ Below w.heap.size w wr)
  case atStart => exact ⟨_, hok, hO, he, rfl, hb1⟩
  case round =>
    clear hO hb1 he hok
    obtain ⟨o, hco, hO, he, hsk, hbl⟩ := hrel
    have HSK := Lib.hid hsk
    have HE := Lib.hid he
    have HO := Lib.hid hO
    clear hsk he hO
    cases gk with
    | zero => exact HE.out.elim
    | succ q =>
      go_wp2_with fail
      refine (isRounded_impl _ _ g o u _ (hv.below hbl) HO.out.grid hl HR.out hco.2).mono ?_
      rintro e w2 ⟨rfl, hb2⟩
      rw [roundP_eq]
      have HO2 := Lib.hid (HO.out.below hb2)
      have hbl2 : Below w.heap.size w w2 := hbl.trans (hb2.mono hbl.size)
      clear HO hb2
      cases hrd : roundS g u o
      · have HRD := Lib.hid hrd
        clear hrd
        go_wp2_with fail
        refine (roundNext_impl _ _ g o u w w2 w.heap.size hv hbl2 (Nat.le_refl _) hbl2.size h1 HO2.out hco.1).mono ?_
        rintro e w3 ⟨rfl, hO3, hb3⟩
        have hbl3 := hbl2.trans hb3
        have HO3 := Lib.hid hO3
        clear hO3 hb3 HO2
        cases hnx : (nextAll g u g.length o).1
        · have HNX := Lib.hid hnx
          clear hnx
          go_wp2
          go_ret
          refine ⟨.slice none 0 0, rfl, ?_, hbl3⟩
          rw [HSK.out, seek, if_neg (by rw [HRD.out]; decide), if_neg (by rw [HNX.out]; decide)]
          rfl
        · have HNX := Lib.hid hnx
          clear hnx
          go_wp2
          go_roundg q
          case measure => omega
          case rel =>
            refine ⟨_, hstep o hco, HO3.out, ?_, ?_, hbl3⟩
            · rcases HE.out with h | h | h
              · rw [HRD.out] at h; exact absurd h (by decide)
              · rw [HNX.out] at h; exact absurd h (by decide)
              · exact h
            · rw [HSK.out, seek, if_neg (by rw [HRD.out]; decide), if_pos HNX.out]
      · have HRD := Lib.hid hrd
        clear hrd
        go_wp2
        go_ret
        refine ⟨_, rfl, ?_, hbl2⟩
        rw [HSK.out, seek, if_pos HRD.out]
        exact HO2.out

end Go.Proofs.Ytlblhhfapeljfaa
