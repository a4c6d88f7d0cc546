/- The worker of WaysOf: a round of its loop. -/
import Derived.Test.YtkhmooemgjichaaHl
import Derived.Orders
import Derived.KernelRfl
namespace Go.Proofs.Ytkhmooemgjichaa
open Go Go.Conc Go.RowKit

/-- The region with the send, whose order is drawn. -/
def opsOf : Code → Array Oper
  | .seq _ (.seq (.block _ (.region _ ops _)) _) => ops
  | _ => #[]
def regThree : Code → Code
  | .seq _ (.seq _ r) => r
  | c => c
noncomputable def opsR : Array Oper := opsOf codeL
noncomputable def reg3 : Code := regThree codeL
noncomputable abbrev lin (fuel t : Nat) (L : Array Bool) : List Nat := Region.linearise.go .any opsR fuel t L []

theorem opsR_size : opsR.size = 6 := by rfl
theorem lin_step {fuel t : Nat} {L : Array Bool} {rs : List Nat} (hr : Region.ready .any opsR L = rs) (hne : rs ≠ []) : ∃ i ∈ rs, ∃ t', lin (fuel + 1) t L = i :: lin fuel t' (L.setIfInBounds i true) := by
  have hlt : t % rs.length < rs.length := Nat.mod_lt _ (List.length_pos_iff.2 hne)
  refine ⟨rs[t % rs.length], List.getElem_mem hlt, t / rs.length, ?_⟩
  show Region.linearise.go .any opsR (fuel + 1) t L [] = _
  simp only [Region.linearise.go]
  change (match (Region.ready .any opsR L)[t % (Region.ready .any opsR L).length]? with
      | some i => Region.linearise.go .any opsR fuel (t / (Region.ready .any opsR L).length) (L.setIfInBounds i true) [i]
      | none => [].reverse) = _
  rw [hr, List.getElem?_eq_getElem hlt]
  simp only []
  rw [linearise_go_acc, List.reverse_singleton, List.singleton_append]

section
variable {aS aA aG aW : Addr} {c : Nat} {am left gr : Int} {j7 j8 j9 j10 j11 : Value} {g n cap : Nat} {f : Int → Int} {W : World} {Stop : Goroutine → World → Prop} {m : Nat}
noncomputable def SR (aS aA aG aW : Addr) (c : Nat) (am left : Int) (j7 j8 j9 j10 j11 x12 x13 x14 x15 x16 : Value) (l : List Nat) : Goroutine :=
  G (bK.at ⟨#[.pointer (some aS), .pointer (some aA), .pointer (some aG), .pointer (some aW), .int .i64 left, .chan (some c), .int .i64 am, j7, j8, j9, j10, j11, x12, x13, x14, x15, x16], [dcl c]⟩ [.inRegion opsR l, .inBlock 1, .code reg3, .inLoop codeL, .inBlock 0]) [bot]

theorem opR0 : ∃ o, opsR[0]? = some o ∧ o.dst = some 12 ∧ o.op = .load 61 (.tmp 0) ∧ o.guard = none := ⟨_, rfl, rfl, rfl, rfl⟩
theorem opR1 : ∃ o, opsR[1]? = some o ∧ o.dst = some 13 ∧ o.op = .load 23 (.tmp 3) ∧ o.guard = none := ⟨_, rfl, rfl, rfl, rfl⟩
theorem opR2 : ∃ o, opsR[2]? = some o ∧ o.dst = some 14 ∧ o.op = .move (.tmp 4) ∧ o.guard = none := ⟨_, rfl, rfl, rfl, rfl⟩
theorem opR3 : ∃ o, opsR[3]? = some o ∧ o.dst = some 15 ∧ o.op = .indexAddr 23 (.tmp 13) (.tmp 14) ∧ o.guard = none := ⟨_, rfl, rfl, rfl, rfl⟩
theorem opR4 : ∃ o, opsR[4]? = some o ∧ o.dst = some 16 ∧ o.op = .load 3 (.tmp 15) ∧ o.guard = none := ⟨_, rfl, rfl, rfl, rfl⟩
theorem opR5 : ∃ o, opsR[5]? = some o ∧ o.dst = none ∧ o.op = .send (.tmp 12) (.tmp 16) ∧ o.guard = none := ⟨_, rfl, rfl, rfl, rfl⟩
theorem wanted_none {o : Oper} (h : o.guard = none) (y : Nat → Option Bool) : Region.wanted o y = true := by unfold Region.wanted; rw [h]

theorem sr0 (hF : ∀ w, Aside c W w → KF c aS aA aG aW am gr g n cap f w) (x12 x13 x14 x15 x16 : Value) (l : List Nat) (h : Goes Try.prog false (RA c W) DR Stop m (SR aS aA aG aW c am left j7 j8 j9 j10 j11 (.chan (some c)) x13 x14 x15 x16 l) default) : Goes Try.prog false (RA c W) DR Stop (m + 1) (SR aS aA aG aW c am left j7 j8 j9 j10 j11 x12 x13 x14 x15 x16 (0 :: l)) default := by
  obtain ⟨o, ho, hd, hop, hg⟩ := opR0
  refine Go_.val (.chan (some c)) ho (wanted_none hg _) (by decide) (fun w hw => ?_) (fun w hw e he => ?_) (by rw [hd]; exact h)
  · have h1 := (hF w hw).cS
    unfold execOp
    simp [go_sem, hop, Act.eval, h1]
  · have h1 := (hF w hw).cS
    unfold execOp at he
    simp [go_sem, hop, Act.eval, h1] at he
    exact ⟨_, he⟩
theorem sr1 (hF : ∀ w, Aside c W w → KF c aS aA aG aW am gr g n cap f w) (x12 x13 x14 x15 x16 : Value) (l : List Nat) (h : Goes Try.prog false (RA c W) DR Stop m (SR aS aA aG aW c am left j7 j8 j9 j10 j11 x12 (sl g n cap) x14 x15 x16 l) default) : Goes Try.prog false (RA c W) DR Stop (m + 1) (SR aS aA aG aW c am left j7 j8 j9 j10 j11 x12 x13 x14 x15 x16 (1 :: l)) default := by
  obtain ⟨o, ho, hd, hop, hg⟩ := opR1
  refine Go_.val (sl g n cap) ho (wanted_none hg _) (by decide) (fun w hw => ?_) (fun w hw e he => ?_) (by rw [hd]; exact h)
  · have h1 := (hF w hw).cW
    unfold execOp
    simp [go_sem, hop, Act.eval, h1]
  · have h1 := (hF w hw).cW
    unfold execOp at he
    simp [go_sem, hop, Act.eval, h1] at he
    exact ⟨_, he⟩
theorem sr2 (x12 x13 x14 x15 x16 : Value) (l : List Nat) (h : Goes Try.prog false (RA c W) DR Stop m (SR aS aA aG aW c am left j7 j8 j9 j10 j11 x12 x13 (.int .i64 left) x15 x16 l) default) : Goes Try.prog false (RA c W) DR Stop (m + 1) (SR aS aA aG aW c am left j7 j8 j9 j10 j11 x12 x13 x14 x15 x16 (2 :: l)) default := by
  obtain ⟨o, ho, hd, hop, hg⟩ := opR2
  refine Go_.val (.int .i64 left) ho (wanted_none hg _) (by decide) (fun w hw => ?_) (fun w hw e he => ?_) (by rw [hd]; exact h)
  · unfold execOp
    simp [go_sem, hop, Act.eval]
  · unfold execOp at he
    simp [go_sem, hop, Act.eval] at he
theorem sr3 {k : Nat} (hk : k < n) (hl : left = k) (x12 x15 x16 : Value) (l : List Nat) (h : Goes Try.prog false (RA c W) DR Stop m (SR aS aA aG aW c am left j7 j8 j9 j10 j11 x12 (sl g n cap) (.int .i64 left) (.pointer (some ⟨g, k, none⟩)) x16 l) default) : Goes Try.prog false (RA c W) DR Stop (m + 1) (SR aS aA aG aW c am left j7 j8 j9 j10 j11 x12 (sl g n cap) (.int .i64 left) x15 x16 (3 :: l)) default := by
  obtain ⟨o, ho, hd, hop, hg⟩ := opR3
  have h1 : (k : Int) < (n : Int) := by omega
  refine Go_.val (.pointer (some ⟨g, k, none⟩)) ho (wanted_none hg _) (by decide) (fun w hw => ?_) (fun w hw e he => ?_) (by rw [hd]; exact h)
  · unfold execOp
    simp [go_sem, hop, Act.eval, hl, h1]
  · unfold execOp at he
    simp [go_sem, hop, Act.eval, hl, h1] at he
theorem sr4 (hF : ∀ w, Aside c W w → KF c aS aA aG aW am gr g n cap f w) {k : Nat} (hk : k < n) (x12 x13 x14 x16 : Value) (l : List Nat) (h : Goes Try.prog false (RA c W) DR Stop m (SR aS aA aG aW c am left j7 j8 j9 j10 j11 x12 x13 x14 (.pointer (some ⟨g, k, none⟩)) (.int .i64 (f k)) l) default) : Goes Try.prog false (RA c W) DR Stop (m + 1) (SR aS aA aG aW c am left j7 j8 j9 j10 j11 x12 x13 x14 (.pointer (some ⟨g, k, none⟩)) x16 (4 :: l)) default := by
  obtain ⟨o, ho, hd, hop, hg⟩ := opR4
  refine Go_.val (.int .i64 (f k)) ho (wanted_none hg _) (by decide) (fun w hw => ?_) (fun w hw e he => ?_) (by rw [hd]; exact h)
  · have h1 := (hF w hw).el k hk
    unfold execOp
    simp [go_sem, hop, Act.eval, h1]
  · have h1 := (hF w hw).el k hk
    unfold execOp at he
    simp [go_sem, hop, Act.eval, h1] at he
    exact ⟨_, he⟩

/-- It stands at the send. -/
theorem sr5 {Next : Goroutine → Prop} {v x13 x14 x15 : Value} (h : Next (SR aS aA aG aW c am left j7 j8 j9 j10 j11 (.chan (some c)) x13 x14 x15 v [])) : AtSnd Try.prog c W v Next (SR aS aA aG aW c am left j7 j8 j9 j10 j11 (.chan (some c)) x13 x14 x15 v [5]) := by
  obtain ⟨o, ho, hd, hop, hg⟩ := opR5
  have e1 : ∀ w, (execOp (Act.eval ⟨#[.pointer (some aS), .pointer (some aA), .pointer (some aG), .pointer (some aW), .int .i64 left, .chan (some c), .int .i64 am, j7, j8, j9, j10, j11, .chan (some c), x13, x14, x15, v], [dcl c]⟩) o).run Try.prog w = .ok (.comm #[scase c v (.tuple #[])] true .send) w := fun w => by
    unfold execOp
    simp [go_sem, hop, Act.eval, scase]
  have e2 : ∀ w, (execOp (Act.eval ⟨#[.pointer (some aS), .pointer (some aA), .pointer (some aG), .pointer (some aW), .int .i64 left, .chan (some c), .int .i64 am, j7, j8, j9, j10, j11, .chan (some c), x13, x14, x15, v], [dcl c]⟩) o).events Try.prog w #[] = #[] := fun w => by
    unfold execOp
    simp [go_sem, hop, Act.eval]
  refine ⟨rfl, SR aS aA aG aW c am left j7 j8 j9 j10 j11 (.chan (some c)) x13 x14 x15 v [5], .tuple #[], #[], by simp, fun w _ => ?_, ?_⟩
  · unfold SR
    rw [stepG_comm ho (wanted_none hg _) (by decide) (e1 w), listed_none (e2 w)]
  · have : Go.Conc.served (SR aS aA aG aW c am left j7 j8 j9 j10 j11 (.chan (some c)) x13 x14 x15 v [5]) undef = SR aS aA aG aW c am left j7 j8 j9 j10 j11 (.chan (some c)) x13 x14 x15 v [] := by
      unfold SR
      rw [served_fr, Frame.finish_at, ho]
      simp only [Option.bind_some, hd, Act.put]
    rw [this]; exact h

/-- WHATEVER ORDER IS DRAWN: it comes to the send of what stands in the table. -/
theorem sr_walk (hF : ∀ w, Aside c W w → KF c aS aA aG aW am gr g n cap f w) {k : Nat} (hk : k < n) (hl : left = k) {Next : Goroutine → Prop}
    (h : Next (SR aS aA aG aW c am left j7 j8 j9 j10 j11 (.chan (some c)) (sl g n cap) (.int .i64 left) (.pointer (some ⟨g, k, none⟩)) (.int .i64 (f k)) [])) (x12 x13 x14 x15 x16 : Value) (t : Nat) :
    Goes Try.prog false (RA c W) DR (fun g _ => AtSnd Try.prog c W (.int .i64 (f k)) Next g) 5 (SR aS aA aG aW c am left j7 j8 j9 j10 j11 x12 x13 x14 x15 x16 (lin 6 t #[false, false, false, false, false, false])) default := by
  have s01234 : ∀ t : Nat, Goes Try.prog false (RA c W) DR (fun g _ => AtSnd Try.prog c W (.int .i64 (f k)) Next g) 0 (SR aS aA aG aW c am left j7 j8 j9 j10 j11 (.chan (some c)) (sl g n cap) (.int .i64 left) (.pointer (some ⟨g, k, none⟩)) (.int .i64 (f k)) (lin 1 t #[true, true, true, true, true, false])) default := by
    intro  t
    obtain ⟨i, hi, t', e⟩ := lin_step (fuel := 0) (t := t) (L := #[true, true, true, true, true, false]) (rs := [5]) (by kernel_rfl) (by simp)
    rw [e]
    simp only [List.mem_cons, List.not_mem_nil, or_false] at hi
    subst hi
    · exact fun _ _ => sr5 h
  have s0123 : ∀ (x16 : Value) (t : Nat), Goes Try.prog false (RA c W) DR (fun g _ => AtSnd Try.prog c W (.int .i64 (f k)) Next g) 1 (SR aS aA aG aW c am left j7 j8 j9 j10 j11 (.chan (some c)) (sl g n cap) (.int .i64 left) (.pointer (some ⟨g, k, none⟩)) x16 (lin 2 t #[true, true, true, true, false, false])) default := by
    intro x16 t
    obtain ⟨i, hi, t', e⟩ := lin_step (fuel := 1) (t := t) (L := #[true, true, true, true, false, false]) (rs := [4]) (by kernel_rfl) (by simp)
    rw [e]
    simp only [List.mem_cons, List.not_mem_nil, or_false] at hi
    subst hi
    · exact sr4 hF hk _ _ _ _ _ (s01234  t')
  have s1234 : ∀ (x12 : Value) (t : Nat), Goes Try.prog false (RA c W) DR (fun g _ => AtSnd Try.prog c W (.int .i64 (f k)) Next g) 1 (SR aS aA aG aW c am left j7 j8 j9 j10 j11 x12 (sl g n cap) (.int .i64 left) (.pointer (some ⟨g, k, none⟩)) (.int .i64 (f k)) (lin 2 t #[false, true, true, true, true, false])) default := by
    intro x12 t
    obtain ⟨i, hi, t', e⟩ := lin_step (fuel := 1) (t := t) (L := #[false, true, true, true, true, false]) (rs := [0]) (by kernel_rfl) (by simp)
    rw [e]
    simp only [List.mem_cons, List.not_mem_nil, or_false] at hi
    subst hi
    · exact sr0 hF _ _ _ _ _ _ (s01234  t')
  have s012 : ∀ (x15 x16 : Value) (t : Nat), Goes Try.prog false (RA c W) DR (fun g _ => AtSnd Try.prog c W (.int .i64 (f k)) Next g) 2 (SR aS aA aG aW c am left j7 j8 j9 j10 j11 (.chan (some c)) (sl g n cap) (.int .i64 left) x15 x16 (lin 3 t #[true, true, true, false, false, false])) default := by
    intro x15 x16 t
    obtain ⟨i, hi, t', e⟩ := lin_step (fuel := 2) (t := t) (L := #[true, true, true, false, false, false]) (rs := [3]) (by kernel_rfl) (by simp)
    rw [e]
    simp only [List.mem_cons, List.not_mem_nil, or_false] at hi
    subst hi
    · exact sr3 hk hl _ _ _ _ (s0123 x16 t')
  have s123 : ∀ (x12 x16 : Value) (t : Nat), Goes Try.prog false (RA c W) DR (fun g _ => AtSnd Try.prog c W (.int .i64 (f k)) Next g) 2 (SR aS aA aG aW c am left j7 j8 j9 j10 j11 x12 (sl g n cap) (.int .i64 left) (.pointer (some ⟨g, k, none⟩)) x16 (lin 3 t #[false, true, true, true, false, false])) default := by
    intro x12 x16 t
    obtain ⟨i, hi, t', e⟩ := lin_step (fuel := 2) (t := t) (L := #[false, true, true, true, false, false]) (rs := [0, 4]) (by kernel_rfl) (by simp)
    rw [e]
    simp only [List.mem_cons, List.not_mem_nil, or_false] at hi
    rcases hi with rfl | rfl
    · exact sr0 hF _ _ _ _ _ _ (s0123 x16 t')
    · exact sr4 hF hk _ _ _ _ _ (s1234 x12 t')
  have s01 : ∀ (x14 x15 x16 : Value) (t : Nat), Goes Try.prog false (RA c W) DR (fun g _ => AtSnd Try.prog c W (.int .i64 (f k)) Next g) 3 (SR aS aA aG aW c am left j7 j8 j9 j10 j11 (.chan (some c)) (sl g n cap) x14 x15 x16 (lin 4 t #[true, true, false, false, false, false])) default := by
    intro x14 x15 x16 t
    obtain ⟨i, hi, t', e⟩ := lin_step (fuel := 3) (t := t) (L := #[true, true, false, false, false, false]) (rs := [2]) (by kernel_rfl) (by simp)
    rw [e]
    simp only [List.mem_cons, List.not_mem_nil, or_false] at hi
    subst hi
    · exact sr2 _ _ _ _ _ _ (s012 x15 x16 t')
  have s02 : ∀ (x13 x15 x16 : Value) (t : Nat), Goes Try.prog false (RA c W) DR (fun g _ => AtSnd Try.prog c W (.int .i64 (f k)) Next g) 3 (SR aS aA aG aW c am left j7 j8 j9 j10 j11 (.chan (some c)) x13 (.int .i64 left) x15 x16 (lin 4 t #[true, false, true, false, false, false])) default := by
    intro x13 x15 x16 t
    obtain ⟨i, hi, t', e⟩ := lin_step (fuel := 3) (t := t) (L := #[true, false, true, false, false, false]) (rs := [1]) (by kernel_rfl) (by simp)
    rw [e]
    simp only [List.mem_cons, List.not_mem_nil, or_false] at hi
    subst hi
    · exact sr1 hF _ _ _ _ _ _ (s012 x15 x16 t')
  have s12 : ∀ (x12 x15 x16 : Value) (t : Nat), Goes Try.prog false (RA c W) DR (fun g _ => AtSnd Try.prog c W (.int .i64 (f k)) Next g) 3 (SR aS aA aG aW c am left j7 j8 j9 j10 j11 x12 (sl g n cap) (.int .i64 left) x15 x16 (lin 4 t #[false, true, true, false, false, false])) default := by
    intro x12 x15 x16 t
    obtain ⟨i, hi, t', e⟩ := lin_step (fuel := 3) (t := t) (L := #[false, true, true, false, false, false]) (rs := [0, 3]) (by kernel_rfl) (by simp)
    rw [e]
    simp only [List.mem_cons, List.not_mem_nil, or_false] at hi
    rcases hi with rfl | rfl
    · exact sr0 hF _ _ _ _ _ _ (s012 x15 x16 t')
    · exact sr3 hk hl _ _ _ _ (s123 x12 x16 t')
  have s0 : ∀ (x13 x14 x15 x16 : Value) (t : Nat), Goes Try.prog false (RA c W) DR (fun g _ => AtSnd Try.prog c W (.int .i64 (f k)) Next g) 4 (SR aS aA aG aW c am left j7 j8 j9 j10 j11 (.chan (some c)) x13 x14 x15 x16 (lin 5 t #[true, false, false, false, false, false])) default := by
    intro x13 x14 x15 x16 t
    obtain ⟨i, hi, t', e⟩ := lin_step (fuel := 4) (t := t) (L := #[true, false, false, false, false, false]) (rs := [1, 2]) (by kernel_rfl) (by simp)
    rw [e]
    simp only [List.mem_cons, List.not_mem_nil, or_false] at hi
    rcases hi with rfl | rfl
    · exact sr1 hF _ _ _ _ _ _ (s01 x14 x15 x16 t')
    · exact sr2 _ _ _ _ _ _ (s02 x13 x15 x16 t')
  have s1 : ∀ (x12 x14 x15 x16 : Value) (t : Nat), Goes Try.prog false (RA c W) DR (fun g _ => AtSnd Try.prog c W (.int .i64 (f k)) Next g) 4 (SR aS aA aG aW c am left j7 j8 j9 j10 j11 x12 (sl g n cap) x14 x15 x16 (lin 5 t #[false, true, false, false, false, false])) default := by
    intro x12 x14 x15 x16 t
    obtain ⟨i, hi, t', e⟩ := lin_step (fuel := 4) (t := t) (L := #[false, true, false, false, false, false]) (rs := [0, 2]) (by kernel_rfl) (by simp)
    rw [e]
    simp only [List.mem_cons, List.not_mem_nil, or_false] at hi
    rcases hi with rfl | rfl
    · exact sr0 hF _ _ _ _ _ _ (s01 x14 x15 x16 t')
    · exact sr2 _ _ _ _ _ _ (s12 x12 x15 x16 t')
  have s2 : ∀ (x12 x13 x15 x16 : Value) (t : Nat), Goes Try.prog false (RA c W) DR (fun g _ => AtSnd Try.prog c W (.int .i64 (f k)) Next g) 4 (SR aS aA aG aW c am left j7 j8 j9 j10 j11 x12 x13 (.int .i64 left) x15 x16 (lin 5 t #[false, false, true, false, false, false])) default := by
    intro x12 x13 x15 x16 t
    obtain ⟨i, hi, t', e⟩ := lin_step (fuel := 4) (t := t) (L := #[false, false, true, false, false, false]) (rs := [0, 1]) (by kernel_rfl) (by simp)
    rw [e]
    simp only [List.mem_cons, List.not_mem_nil, or_false] at hi
    rcases hi with rfl | rfl
    · exact sr0 hF _ _ _ _ _ _ (s02 x13 x15 x16 t')
    · exact sr1 hF _ _ _ _ _ _ (s12 x12 x15 x16 t')
  have s : ∀ (x12 x13 x14 x15 x16 : Value) (t : Nat), Goes Try.prog false (RA c W) DR (fun g _ => AtSnd Try.prog c W (.int .i64 (f k)) Next g) 5 (SR aS aA aG aW c am left j7 j8 j9 j10 j11 x12 x13 x14 x15 x16 (lin 6 t #[false, false, false, false, false, false])) default := by
    intro x12 x13 x14 x15 x16 t
    obtain ⟨i, hi, t', e⟩ := lin_step (fuel := 5) (t := t) (L := #[false, false, false, false, false, false]) (rs := [0, 1, 2]) (by kernel_rfl) (by simp)
    rw [e]
    simp only [List.mem_cons, List.not_mem_nil, or_false] at hi
    rcases hi with rfl | rfl | rfl
    · exact sr0 hF _ _ _ _ _ _ (s0 x13 x14 x15 x16 t')
    · exact sr1 hF _ _ _ _ _ _ (s1 x12 x14 x15 x16 t')
    · exact sr2 _ _ _ _ _ _ (s2 x12 x13 x15 x16 t')
  exact s x12 x13 x14 x15 x16 t
end
end Go.Proofs.Ytkhmooemgjichaa
