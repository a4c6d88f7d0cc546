/- One coin more comes to a table of amounts. -/
import Derived.Test.YtbkndncdhombeaaRepI
namespace Go.Proofs.Ytbkndncdhombeaa
open Go.RowKit

/-- A call of a Go function as a step of a region that draws its order, by a contract that leaves the world. -/
theorem step_enter {P : Program} {ops : Array Oper} {o : Oper} {a : Act} {w : World} {K : Act → World → Prop} {Q : Exit → Act → World → Prop} {E : Prop} {f : FuncId} {args : Array Value} {v : Value} (hgd : o.guard = none)
    (hrun : (execOp a.eval o).run P w = .ok (.enter f args) w) (hC : Calls P f args w fun e w' => e = .returned v ∧ w = w') (h : K (a.put o.dst v) w) :
    if Region.wanted o (yielded ops a.tmps) = true then Oper.wp P o a w K Q else E := by
  have hw : Region.wanted o (yielded ops a.tmps) = true := by simp [Region.wanted, hgd]
  rw [if_pos hw]
  unfold Oper.wp
  rw [hrun, Oper.upon_enter]
  refine hC.mono ?_
  rintro e w' ⟨rfl, rfl⟩
  exact h

set_option maxRecDepth 100000 in
set_option maxHeartbeats 3200000 in
theorem addCoin_same (K : FuncId) (hK : ∀ (args : Array Value) (w : World), (callFunc K args).run Try.prog w = .ok (.enter K args) w) (f g : Int → Int) (c n ga cap B : Nat) (w : World) (hown : Own w B (sl ga (n + 1) cap) (tabL f n)) (hc : 1 ≤ c) (hc30 : c ≤ 30) (hless : ∀ j : Nat, j < c → j ≤ n → g j = f j) (hn : n ≤ 1100)
    (hcall : ∀ x : Nat, c ≤ x → x ≤ n → ∀ w, Calls Try.prog K #[.int .i64 (f x), .int .i64 (g ((x - c : Nat) : Int))] w fun e w' => e = .returned (.int .i64 (g x)) ∧ w = w') :
    Calls Try.prog 63 #[.int .i64 (c : Int), sl ga (n + 1) cap, sl ga (n + 1) cap, .func (.func K) #[] #[]] w fun e w' => e = .returned (.tuple #[]) ∧ Own w' B (sl ga (n + 1) cap) (tabL g n) ∧ w.grownBy w' (some ga) := by
  rw [← stL_start f g hless] at hown
  have HCALL := Lib.hid hcall
  clear hcall hless
  go_enter Try.func63, Try.ntmps63
  go_wp2
  go_loopw [8] (fun xv wr => ∃ x : Nat, c ≤ x ∧ x ≤ n + 31 ∧ xv = .int .i64 x ∧ Own wr B (sl ga (n + 1) cap) (stL f g x n) ∧ w.grownBy wr (some ga)) (fun xv _ => n + 31 - (intOf xv).toNat)
  case atStart => exact ⟨c, Nat.le_refl _, by omega, rfl, hown, World.grownBy.refl _ _⟩
  case round =>
    clear hown
    obtain ⟨x, hcx, hxn, rfl, hown, hgr⟩ := hrel
    rename World => wr
    by_cases hx : x ≤ n
    · have x1 : (x : Int) < (n : Int) + 1 := by omega
      have x3 : (0 : Int) ≤ (x : Int) - (c : Int) := by omega
      have x4 : (x : Int) - (c : Int) < (n : Int) + 1 := by omega
      have x5 : ((x : Int) - (c : Int)).toNat = x - c := by omega
      have hwr : IntKind.i64.wrap ((x : Int) - (c : Int)) = (x : Int) - (c : Int) := IntWalk.i64_in _ (by omega)
      have c1 := hown.cell (stL_len _ _ _ _) x (by omega)
      have c2 := hown.cell (stL_len _ _ _ _) (x - c) (by omega)
      have f1 := hown.frozen (stL_len _ _ _ _) x
      rw [stL_at _ _ _ hx, if_neg (by omega)] at c1
      rw [stL_at _ _ _ (by omega), if_pos (by omega)] at c2
      have hs := hown.set (stL_len _ _ _ _) x (g (x : Int))
      rw [stL_set _ _ hx] at hs
      have HC := Lib.hid (HCALL.out x hcx hx)
      have HS1 : Hid (∀ q, Own ((wr.drewN q).setCell ⟨ga, x, none⟩ (.int .i64 (g (x : Int)))) B (sl ga (n + 1) cap) (stL f g (x + 1) n)) := fun q => by
        have := ((own_drewN hown q).set (stL_len _ _ _ _) x (g (x : Int))).1
        rwa [stL_set _ _ hx] at this
      have HG1 : Hid (∀ q, w.grownBy ((wr.drewN q).setCell ⟨ga, x, none⟩ (.int .i64 (g (x : Int)))) (some ga)) := fun q =>
        (hgr.trans (grown_below (Drawn.below ⟨q, rfl⟩) (some ga))).trans ((own_drewN hown q).set (stL_len _ _ _ _) x (g (x : Int))).2
      clear hown hs
      generalize g ((x - c : Nat) : Int) = y at *
      generalize f (x : Int) = u at *
      generalize g (x : Int) = z at *
      go_wp2
      go_region_law (refine step_enter rfl (by simp [execOp, resolve, invoke, Deferred.ofValue, Act.eval, hK]; first | done | rfl) (HC.out _) ?_)
      all_goals
        go_wp2
        go_roundw
        case rel => exact ⟨x + 1, by omega, by omega, by go_num, HS1.out 1, HG1.out 1⟩
        case measure => simp [intOf]; omega
    · have x1 : ¬ (x : Int) < (n : Int) + 1 := by omega
      rw [stL_end _ _ (by omega)] at hown
      go_wp2
      go_end0
      exact ⟨rfl, hown, hgr⟩

set_option maxRecDepth 100000 in
set_option maxHeartbeats 3200000 in
theorem addCoin_apart (K : FuncId) (hK : ∀ (args : Array Value) (w : World), (callFunc K args).run Try.prog w = .ok (.enter K args) w) (f g : Int → Int) (c n ga cap gb capb B : Nat) (w : World) (hown : Own w B (sl ga (n + 1) cap) (tabL f n)) (hownb : Own w B (sl gb (n + 1) capb) (tabL f n)) (hne : gb ≠ ga) (hc : 1 ≤ c) (hc30 : c ≤ 30) (hless : ∀ j : Nat, j < c → j ≤ n → g j = f j) (hn : n ≤ 1100)
    (hcall : ∀ x : Nat, c ≤ x → x ≤ n → ∀ w, Calls Try.prog K #[.int .i64 (f x), .int .i64 (f ((x - c : Nat) : Int))] w fun e w' => e = .returned (.int .i64 (g x)) ∧ w = w') :
    Calls Try.prog 63 #[.int .i64 (c : Int), sl ga (n + 1) cap, sl gb (n + 1) capb, .func (.func K) #[] #[]] w fun e w' => e = .returned (.tuple #[]) ∧ Own w' B (sl ga (n + 1) cap) (tabL g n) ∧ w.grownBy w' (some ga) := by
  rw [← stL_start f g hless] at hown
  have HCALL := Lib.hid hcall
  clear hcall hless
  go_enter Try.func63, Try.ntmps63
  go_wp2
  go_loopw [8] (fun xv wr => ∃ x : Nat, c ≤ x ∧ x ≤ n + 31 ∧ xv = .int .i64 x ∧ Own wr B (sl ga (n + 1) cap) (stL f g x n) ∧ Own wr B (sl gb (n + 1) capb) (tabL f n) ∧ w.grownBy wr (some ga)) (fun xv _ => n + 31 - (intOf xv).toNat)
  case atStart => exact ⟨c, Nat.le_refl _, by omega, rfl, hown, hownb, World.grownBy.refl _ _⟩
  case round =>
    clear hown hownb
    obtain ⟨x, hcx, hxn, rfl, hown, hownb, hgr⟩ := hrel
    rename World => wr
    by_cases hx : x ≤ n
    · have x1 : (x : Int) < (n : Int) + 1 := by omega
      have x3 : (0 : Int) ≤ (x : Int) - (c : Int) := by omega
      have x4 : (x : Int) - (c : Int) < (n : Int) + 1 := by omega
      have x5 : ((x : Int) - (c : Int)).toNat = x - c := by omega
      have hwr : IntKind.i64.wrap ((x : Int) - (c : Int)) = (x : Int) - (c : Int) := IntWalk.i64_in _ (by omega)
      have c1 := hown.cell (stL_len _ _ _ _) x (by omega)
      have c2 := hownb.cell (tabL_len _ _) (x - c) (by omega)
      have f1 := hown.frozen (stL_len _ _ _ _) x
      rw [stL_at _ _ _ hx, if_neg (by omega)] at c1
      rw [tabL_at _ (by omega)] at c2
      have hs := hown.set (stL_len _ _ _ _) x (g (x : Int))
      rw [stL_set _ _ hx] at hs
      have HC := Lib.hid (HCALL.out x hcx hx)
      have HS1 : Hid (∀ q, Own ((wr.drewN q).setCell ⟨ga, x, none⟩ (.int .i64 (g (x : Int)))) B (sl ga (n + 1) cap) (stL f g (x + 1) n)) := fun q => by
        have := ((own_drewN hown q).set (stL_len _ _ _ _) x (g (x : Int))).1
        rwa [stL_set _ _ hx] at this
      have HG1 : Hid (∀ q, w.grownBy ((wr.drewN q).setCell ⟨ga, x, none⟩ (.int .i64 (g (x : Int)))) (some ga)) := fun q =>
        (hgr.trans (grown_below (Drawn.below ⟨q, rfl⟩) (some ga))).trans ((own_drewN hown q).set (stL_len _ _ _ _) x (g (x : Int))).2
      have HB1 : Hid (∀ q, Own ((wr.drewN q).setCell ⟨ga, x, none⟩ (.int .i64 (g (x : Int)))) B (sl gb (n + 1) capb) (tabL f n)) := fun q =>
        (own_drewN hownb q).kept ((own_drewN hown q).set (stL_len _ _ _ _) x (g (x : Int))).2 (.inr (by simpa [Value.ownBlock] using hne))
      clear hown hs hownb
      generalize f ((x - c : Nat) : Int) = y at *
      generalize f (x : Int) = u at *
      generalize g (x : Int) = z at *
      go_wp2
      go_region_law (refine step_enter rfl (by simp [execOp, resolve, invoke, Deferred.ofValue, Act.eval, hK]; first | done | rfl) (HC.out _) ?_)
      all_goals
        go_wp2
        go_roundw
        case rel => exact ⟨x + 1, by omega, by omega, by go_num, HS1.out 1, HB1.out 1, HG1.out 1⟩
        case measure => simp [intOf]; omega
    · have x1 : ¬ (x : Int) < (n : Int) + 1 := by omega
      rw [stL_end _ _ (by omega)] at hown
      go_wp2
      go_end0
      exact ⟨rfl, hown, hgr⟩

end Go.Proofs.Ytbkndncdhombeaa
