/- WaysOf of the program at whatever arguments; what serves the laws over it. The end of a function, beside others that only leave. -/
import Derived.Test.YtpenbkfchgeafaaGreatDoorQHn
import Derived.Test.YtpenbkfchgeafaaGreatDoorQHi
import Derived.Test.YtpenbkfchgeafaaGreatDoorQCoinI
import Derived.Test.YtpenbkfchgeafaaGreatDoorQFewI
import Derived.RegionTactic
import Derived.ChangeAlike
import Derived.BigRegion
import Derived.Test.YtpenbkfchgeafaaGreatDoorQPush
import Derived.Test.YtpenbkfchgeafaaGreatDoorQOwnB
namespace Go.Proofs.YtpenbkfchgeafaaGreatDoor

section
section
section
section
section
open Go Go.Conc Go.RowKit

theorem same_of_drawn {w w' : World} (h : Drawn w w') : Same w w' := by
  obtain ⟨m, rfl⟩ := h
  exact ⟨_, _, rfl⟩

theorem canPay_B (v : Value) (cs : List Int) (a : Int) (r : Bool) (w : World) (hv : IsInts w v cs) (hl : cs.length ≤ 9223372036854775807) (h : (vCoins cs && inR a 0 120) = r) :
    CallsB Tryz.prog 76 #[v, .int .i64 a] w fun x w' => x = .bool r ∧ Same w w' :=
  CallsB.ofCalls plain_prog (fun v u τ d h => by obtain ⟨h1, τ', d', rfl⟩ := h; exact ⟨h1, τ, d, rfl⟩) fun τ => (canPayBy_at v cs a r (On w τ 0) hv hl h).mono fun e w' h => by
    obtain ⟨rfl, hd⟩ := h
    obtain ⟨τ', d', rfl⟩ := same_of_drawn hd
    exact ⟨_, rfl, rfl, τ', d', rfl⟩

theorem enter_bN {f : FuncId} {fn : Func} {c : Code} (args : Array Value) (hf : Tryz.prog.funcs[f]? = some fn) (hb : fn.body = some c) :
    Frame.enter Tryz.prog f args .normal = (bN f).at { tmps := args ++ Array.replicate (fn.ntmps - args.size) undef, defers := [] } [.code c] := enter_at args hf hb
/-- The frame that waits for waysByGreatest. -/
noncomputable def frW (v am : Value) : Frame :=
  (bN 77).at ⟨#[v, am, undef, undef, .int .i64 0, .int .i64 0, undef, v, am, .bool true, .bool false, v, am, undef, undef, undef, undef, undef, undef, undef, undef], []⟩
    (match body8 with | .seq _ (.seq _ (.seq _ (.seq (.seq (.region _ ops _) blk) t))) => [.inRegion ops [2], .code blk, .code t] | _ => [])

set_option maxRecDepth 100000 in
theorem ways_enter {Q : Goroutine → World → Prop} (v : Value) (cs : List Int) (am : Int) (w : World) (hv : IsInts w v cs) (hl : cs.length ≤ 9223372036854775807) (h : (vCoins cs && inR am 0 120) = true) (fs : List Frame) (hfs : PlainC fs)
    (hQ : ∀ w' : World, Same w w' → PlainC (frW v (.int .i64 am) :: fs) → Reach Tryz.prog (G (Frame.enter Tryz.prog 89 #[v, .int .i64 am] .normal) (frW v (.int .i64 am) :: fs)) w' Q) :
    Reach Tryz.prog (G (Frame.enter Tryz.prog 77 #[v, .int .i64 am] .normal) fs) w Q := by
  rw [enter_bN _ Tryz.func77 rfl]
  simp only [Tryz.ntmps77, List.size_toArray, List.length_cons, List.length_nil, Nat.reduceAdd, Nat.reduceSub, Array.replicate_succ, Array.replicate_zero, List.push_toArray, List.append_toArray, List.nil_append, List.cons_append]
  have hn := PlainT.nil
  refine Reach.seq plain_prog hn hfs ?_
  refine Reach.region plain_prog (plain_code hn) hfs ?_
  simp only [List.size_toArray, List.length_cons, List.length_nil, Nat.zero_add, List.range, List.range.loop]
  refine Reach.val plain_prog (.int .i64 0) (plain_code hn) hfs rfl rfl (by decide) (fun τ d => by simp [execOp, Act.eval]) ?_
  walk_nrm
  refine Reach.regionEnd plain_prog (plain_code hn) hfs ?_
  refine Reach.seq plain_prog hn hfs ?_
  refine Reach.seq plain_prog (plain_code hn) hfs ?_
  refine Reach.region plain_prog (plain_code (plain_code hn)) hfs ?_
  simp only [List.size_toArray, List.length_cons, List.length_nil, Nat.reduceAdd, Nat.zero_add, List.range, List.range.loop]
  refine Reach.val plain_prog v (plain_code (plain_code hn)) hfs rfl rfl (by decide) (fun τ d => by simp [execOp, Act.eval]) ?_
  walk_nrm
  refine Reach.val plain_prog (.int .i64 am) (plain_code (plain_code hn)) hfs rfl rfl (by decide) (fun τ d => by simp [execOp, Act.eval]) ?_
  walk_nrm
  refine Reach.call plain_prog (plain_code (plain_code hn)) hfs rfl rfl (by decide) (fun w => by simp [go_sem, execOp, Act.eval]) (canPay_B v cs am true w hv hl h) ?_
  rintro _ w' ⟨rfl, hsame⟩
  walk_nrm
  refine Reach.val plain_prog (.bool false) (plain_code (plain_code hn)) hfs rfl rfl (by decide) (fun τ d => by simp [go_sem, execOp, Act.eval]) ?_
  walk_nrm
  refine Reach.regionEnd plain_prog (plain_code (plain_code hn)) hfs ?_
  refine Reach.cond plain_prog false rfl (plain_code hn) hfs ?_
  simp only [Bool.false_eq_true, if_false]
  refine Reach.skip plain_prog (plain_code hn) hfs ?_
  refine Reach.seq plain_prog hn hfs ?_
  refine Reach.region plain_prog (plain_code hn) hfs ?_
  simp only [List.size_toArray, List.length_cons, List.length_nil, Nat.zero_add, List.range, List.range.loop]
  refine Reach.val plain_prog (.int .i64 0) (plain_code hn) hfs rfl rfl (by decide) (fun τ d => by simp [execOp, Act.eval]) ?_
  walk_nrm
  refine Reach.regionEnd plain_prog (plain_code hn) hfs ?_
  refine Reach.seq plain_prog hn hfs ?_
  refine Reach.seq plain_prog (plain_code hn) hfs ?_
  refine Reach.region plain_prog (plain_code (plain_code hn)) hfs ?_
  simp only [List.size_toArray, List.length_cons, List.length_nil, Nat.reduceAdd, Nat.zero_add, List.range, List.range.loop]
  refine Reach.val plain_prog v (plain_code (plain_code hn)) hfs rfl rfl (by decide) (fun τ d => by simp [execOp, Act.eval]) ?_
  walk_nrm
  refine Reach.val plain_prog (.int .i64 am) (plain_code (plain_code hn)) hfs rfl rfl (by decide) (fun τ d => by simp [execOp, Act.eval]) ?_
  walk_nrm
  refine Reach.enter plain_prog (f := 89) (args := #[v, .int .i64 am]) (plain_code (plain_code hn)) hfs rfl rfl (fun w => by simp [go_sem, execOp, Act.eval]) ?_
  exact hQ w' hsame

end

open Go Go.Conc Go.RowKit

noncomputable def body24 : Code := Tryz.f89.body.getD .skip
def thirdOf : Code → Code
  | .seq _ (.seq _ (.seq r _)) => r
  | c => c
noncomputable def regG : Code := thirdOf body24

set_option maxRecDepth 100000 in
theorem ways_r2 (u : World) (b off n cap : Nat) (gr : Int) (x1 x3 x4 x8 x9 x10 x11 x12 : Value) (hc : u.cell? ⟨b, off + n, none⟩ = some (.int .i64 gr)) (hcap : n + 1 ≤ cap) :
    regG.wp Tryz.prog (fun e a' w' => e = .normal ∧ (∃ x13 x14 x15 x16 x17 x18 x19, a' = ⟨#[.slice (some ⟨b, off, none⟩) (n + 1) cap, x1, undef, x3, x4, .int .i64 n, .pointer (some ⟨u.heap.size, 0, none⟩), .slice (some ⟨b, off, none⟩) n cap, x8, x9, x10, x11, x12, x13, x14, x15, x16, x17, x18, x19, undef, undef, undef, undef, undef, undef, undef], []⟩) ∧
      Same (u.alloc (.cells #[.int .i64 gr] 3)) w')
    ⟨#[.slice (some ⟨b, off, none⟩) (n + 1) cap, x1, undef, x3, x4, .int .i64 n, undef, undef, x8, x9, x10, x11, x12, undef, undef, undef, undef, undef, undef, undef, undef, undef, undef, undef, undef, undef, undef], []⟩ u := by
  have h1 : (n : Int) < (n : Int) + 1 := by omega
  have hb : b < u.heap.size := World.block_lt_of_cell? u _ hc
  have hc1 : (u.alloc (.cells #[.int .i64 0] 3)).cell? ⟨b, off + n, none⟩ = some (.int .i64 gr) := (((Below.refl _ _).alloc (Nat.le_refl _) _ : Below u.heap.size u (u.alloc (.cells #[.int .i64 0] 3))).cell hb).trans hc
  have h2 : (0 : Int) ≤ (n : Int) := by omega
  have h3 : (n : Int) ≤ (cap : Int) := by omega
  simp only [regG, thirdOf, body24, Tryz.f89, Option.getD_some]
  go_region
  exact ⟨rfl, ⟨_, _, _, _, _, _, _, rfl⟩, _, _, rfl⟩

end

open Go Go.Conc Go.RowKit

theorem own_on {w : World} {N : Nat} {v : Value} {xs : List Int} (h : Own w N v xs) (τ : Tp) (d : Nat) : Own (On w τ d) N v xs := h
theorem ints_on {w : World} {v : Value} {xs : List Int} (h : IsInts w v xs) (τ : Tp) (d : Nat) : IsInts (On w τ d) v xs := h
theorem own_same {w w' : World} (e : Same w w') {N : Nat} {v : Value} {xs : List Int} (h : Own w N v xs) : Own w' N v xs := by obtain ⟨τ, d, rfl⟩ := e; exact h
theorem ints_same {w w' : World} (e : Same w w') {v : Value} {xs : List Int} (h : IsInts w v xs) : IsInts w' v xs := by obtain ⟨τ, d, rfl⟩ := e; exact h

/-- 'Below', but for tape and draws. -/
structure BelX (n : Nat) (w w' : World) : Prop where
  os : w'.os = w.os
  output : w'.output = w.output
  size : w.heap.size ≤ w'.heap.size
  block : ∀ k, k < n → w'.heap[k]? = w.heap[k]?
theorem BelX.refl (n : Nat) (w : World) : BelX n w w := ⟨rfl, rfl, Nat.le_refl _, fun _ _ => rfl⟩
theorem BelX.of {n : Nat} {w w' : World} (h : Below n w w') : BelX n w w' := ⟨h.os, h.output, h.size, h.block⟩
theorem BelX.ofOn {n : Nat} {w w' : World} {τ : Tp} {d : Nat} (h : Below n (On w τ d) w') : BelX n w w' := ⟨h.os, h.output, h.size, h.block⟩
theorem BelX.on {n : Nat} {w w' : World} (h : BelX n w w') (τ : Tp) (d : Nat) : BelX n w (On w' τ d) := ⟨h.os, h.output, h.size, h.block⟩
theorem BelX.same {n : Nat} {w w' u : World} (h : BelX n w w') (e : Same w' u) : BelX n w u := by obtain ⟨τ, d, rfl⟩ := e; exact h.on τ d
theorem BelX.mono {n m : Nat} {w w' : World} (h : BelX n w w') (hm : m ≤ n) : BelX m w w' := ⟨h.os, h.output, h.size, fun k hk => h.block k (by omega)⟩
theorem BelX.trans {n : Nat} {w u v : World} (h : BelX n w u) (h' : BelX n u v) : BelX n w v := ⟨h'.os.trans h.os, h'.output.trans h.output, Nat.le_trans h.size h'.size, fun k hk => (h'.block k hk).trans (h.block k hk)⟩
theorem BelX.below {n : Nat} {w w' : World} (h : BelX n w w') (ht : w'.tape = w.tape) : Below n w w' := ⟨h.os, ht, h.output, h.size, h.block⟩
theorem BelX.aside {n c : Nat} {w u v : World} (h : BelX n w u) (ha : Aside c u v) (hc : n ≤ c) : BelX n w v :=
  ⟨ha.os.trans h.os, ha.output.trans h.output, by rw [ha.size]; exact h.size, fun k hk => (ha.block k (by omega)).trans (h.block k hk)⟩
/-- A bound world that is 'Below' on the nose. -/
theorem BelX.belowOn {n : Nat} {w w' : World} (h : BelX n w w') : Below n (On w w'.tape 0) w' := ⟨h.os, rfl, h.output, h.size, h.block⟩
theorem ints_belX {w w' : World} {v : Value} {xs : List Int} (h : IsInts w v xs) (hb : BelX w.heap.size w w') : IsInts w' v xs :=
  IsInts.below (show IsInts (On w w'.tape 0) v xs from h) hb.belowOn

set_option maxRecDepth 100000 in
theorem enter_join (args : Array Value) (w : World) : (callFunc 106 args).run Tryz.prog w = .ok (.enter 106 args) w := by rfl
theorem join_impl (u y z : Int) (w : World) (hu : 0 ≤ u ∧ u ≤ 100000000000) (hy : 0 ≤ y ∧ y ≤ 100000000000) (h : z = u + y) :
    Calls Tryz.prog 106 #[.int .i64 u, .int .i64 y] w fun e w' => e = .returned (.int .i64 z) ∧ w = w' := by
  subst h
  go_enter Tryz.func106, Tryz.ntmps106
  go_wp2
  go_ret
  exact ⟨rfl, rfl⟩

theorem without_B (n : Nat) (x y : Int) (w : World) (hn : n ≤ 1050) :
    CallsB Tryz.prog 105 #[.int .i64 (n : Int), .int .i64 x, .int .i64 y] w fun v w' => ∃ g cap, v = sl g (n + 1) cap ∧ w.heap.size ≤ g ∧ Own w' w.heap.size (sl g (n + 1) cap) (tabL (fun j => if j = 0 then x else y) n) ∧ BelX w.heap.size w w' :=
  CallsB.ofCalls plain_prog (fun v u τ d h => by obtain ⟨g, cap, h1, h2, h3, h4⟩ := h; exact ⟨g, cap, h1, h2, own_on h3 τ d, h4.on τ d⟩) fun τ => (withoutCoins_int n x y (On w τ 0) hn).mono fun e w' h => by
    obtain ⟨g, cap, rfl, h1, h2, h3⟩ := h
    exact ⟨_, rfl, g, cap, rfl, h1, h2, BelX.ofOn h3⟩

theorem by_B (cs : List Int) (v : Value) (n ga cap : Nat) (w0 w : World) (hv : IsInts w0 v cs) (hcs : vCoins cs = true ∨ ∃ g, vCoins (cs ++ [g]) = true) (hbel : BelX w0.heap.size w0 w) (hga : w0.heap.size ≤ ga)
    (hown : Own w w0.heap.size (sl ga (n + 1) cap) (tabL (wyV []) n)) (hn : n ≤ 120) :
    CallsB Tryz.prog 104 #[v, sl ga (n + 1) cap, .func (.func 106) #[] #[]] w fun x w' => x = sl ga (n + 1) cap ∧ Own w' w0.heap.size (sl ga (n + 1) cap) (tabL (wyV cs) n) ∧ BelX w0.heap.size w0 w' := by
  have hat : (∀ i, i < cs.length → 1 ≤ cs.getD i 0 ∧ cs.getD i 0 ≤ 30) ∧ cs.length ≤ 5 ∧ Pos cs := by
    rcases hcs with h | ⟨g, h⟩
    · exact ⟨fun i hi => vc_at h hi, (vc_len h).2, vc_pos h⟩
    · refine ⟨fun i hi => ?_, ?_, ?_⟩
      · have := vc_at h (i := i) (by simp; omega)
        rw [List.getD_eq_getElem?_getD, List.getElem?_append_left hi, ← List.getD_eq_getElem?_getD] at this
        exact this
      · have := (vc_len h).2
        simp at this; omega
      · have := (vc_pos h).take cs.length
        rw [List.take_left'] at this
        · exact this
        · rfl
  obtain ⟨h1, h2, h3⟩ := hat
  have hwb : ∀ (i : Nat) (x : Int), x ≤ 120 → 0 ≤ wyV (cs.take i) x ∧ wyV (cs.take i) x ≤ 25937424601 := fun i x hx => ⟨wy_nonneg _ _, wy_le (h3.take i) (by rw [List.length_take]; omega) hx⟩
  refine CallsB.ofCalls plain_prog (fun v u τ d h => by obtain ⟨h1, h2, h3⟩ := h; exact ⟨h1, own_on h2 τ d, h3.on τ d⟩) fun τ => ?_
  refine (byCoins_int _ enter_join wyV cs v n ga cap (On w0 τ 0) (On w τ 0) hv h1 h2 ⟨hbel.os, rfl, hbel.output, hbel.size, hbel.block⟩ hga hown (by omega) (fun i hi j hj hjn => ?_) (fun i hi x hx hxn wx => ?_)).mono fun e w' h => ?_
  · rw [take_snoc cs hi]
    exact wy_snoc_less hj (h1 i hi).1
  · have hb1 := hwb i x (by omega)
    have hb2 := hwb (i + 1) ((x : Int) - cs.getD i 0) (by have := (h1 i hi).1; omega)
    refine join_impl _ _ _ wx ⟨hb1.1, by omega⟩ ⟨hb2.1, by omega⟩ ?_
    rw [take_snoc cs hi]
    exact wy_snoc hx (h1 i hi).1
  · obtain ⟨rfl, h2, h3⟩ := h
    exact ⟨_, rfl, rfl, h2, BelX.ofOn h3⟩

end

open Go Go.Conc Go.RowKit

/-- What stands at the go statement. -/
structure AtFork (am : Nat) (gr : Int) (P : List Int) (w : World) (c : Nat) (aS aA aG aW : Addr) (w' : World) : Prop where
  facts : ∃ g cap, KF c aS aA aG aW am gr g (am + 1) cap (wyV P) w' ∧ g ≠ c
  neS : aS.block ≠ c
  neA : aA.block ≠ c
  neG : aG.block ≠ c
  neW : aW.block ≠ c
  chan : w'.heap[c]? = some (.chan 0 #[] false 0 0 false)
  fresh : w.heap.size ≤ c
  bel : BelX w.heap.size w w'

def opsFive : Code → Array Oper
  | .seq _ (.seq _ (.seq _ (.seq _ (.seq _ (.seq (.region _ ops _) _))))) => ops
  | _ => #[]
def restSix : Code → Code
  | .seq _ (.seq _ (.seq _ (.seq _ (.seq _ (.seq _ r))))) => r
  | c => c
noncomputable def opsG : Array Oper := opsFive body24
noncomputable def restG : Code := restSix body24
/-- The record at the go statement. -/
noncomputable def goFr (s0 s1 s2 s4 s5 s7 : Value) (aS aA aG aW : Addr) (s10 s11 s12 s13 s14 s15 s16 s17 s18 s19 s20 s21 s22 s23 s24 : Value) (l : List Nat) : Frame :=
  (bN 89).at ⟨#[s0, s1, s2, .pointer (some aA), s4, s5, .pointer (some aG), s7, .pointer (some aW), .pointer (some aS), s10, s11, s12, s13, s14, s15, s16, s17, s18, s19, s20, s21, s22, s23, s24, .func (.func 107) #[] #[.pointer (some aS), .pointer (some aA), .pointer (some aG), .pointer (some aW)], undef], []⟩
    [.inRegion opsG l, .code restG]

set_option maxRecDepth 100000 in
theorem ways_fork {Q : Goroutine → World → Prop} (b off cap am : Nat) (gr : Int) (P : List Int) (w : World) (hv : IsInts w (.slice (some ⟨b, off, none⟩) (P.length + 1) cap) (P ++ [gr])) (hcap : P.length + 1 ≤ cap) (hcs : vCoins (P ++ [gr]) = true) (ham : am ≤ 120) (fs : List Frame) (hfs : PlainC fs)
    (hQ : ∀ (w' : World) (c : Nat) (aS aA aG aW : Addr) (s0 s1 s2 s4 s5 s7 s10 s11 s12 s13 s14 s15 s16 s17 s18 s19 s20 s21 s22 s23 s24 : Value), AtFork am gr P w c aS aA aG aW w' →
      Reach Tryz.prog (G (goFr s0 s1 s2 s4 s5 s7 aS aA aG aW s10 s11 s12 s13 s14 s15 s16 s17 s18 s19 s20 s21 s22 s23 s24 [1]) fs) w' Q) :
    Reach Tryz.prog (G (Frame.enter Tryz.prog 89 #[.slice (some ⟨b, off, none⟩) (P.length + 1) cap, .int .i64 am] .normal) fs) w Q := by
  rw [enter_bN _ Tryz.func89 rfl]
  simp only [Tryz.ntmps89, List.size_toArray, List.length_cons, List.length_nil, Nat.reduceAdd, Nat.reduceSub, Array.replicate_succ, Array.replicate_zero, List.push_toArray, List.append_toArray, List.nil_append, List.cons_append]
  have hn := PlainT.nil
  refine Reach.seq plain_prog hn hfs ?_
  refine Reach.region plain_prog (plain_code hn) hfs ?_
  simp only [List.size_toArray, List.length_cons, List.length_nil, Nat.reduceAdd, Nat.zero_add, List.range, List.range.loop]
  refine Reach.opv plain_prog (.pointer (some ⟨w.heap.size, 0, none⟩)) (w.alloc (.cells #[.int .i64 am] 3)) rfl (plain_code hn) hfs rfl rfl (by decide) (fun τ d => by simp [go_sem, execOp, Act.eval]; exact ⟨rfl, rfl⟩) ?_
  walk_nrm
  refine Reach.val plain_prog (.chan none) (plain_code hn) hfs rfl rfl (by decide) (fun τ d => by simp [go_sem, execOp, Act.eval]) ?_
  walk_nrm
  refine Reach.regionEnd plain_prog (plain_code hn) hfs ?_
  refine Reach.seq plain_prog hn hfs ?_
  refine Reach.region plain_prog (plain_code hn) hfs ?_
  simp only [List.size_toArray, List.length_cons, List.length_nil, Nat.reduceAdd, Nat.zero_add, List.range, List.range.loop]
  refine Reach.val plain_prog (.slice (some ⟨b, off, none⟩) (P.length + 1) cap) (plain_code hn) hfs rfl rfl (by decide) (fun τ d => by simp [go_sem, execOp, Act.eval]) ?_
  walk_nrm
  refine Reach.val plain_prog (.int .i64 ((P.length : Int) + 1)) (plain_code hn) hfs rfl rfl (by decide) (fun τ d => by simp [go_sem, execOp, Act.eval]) ?_
  walk_nrm
  have hw1 : IntKind.i64.wrap (P.length : Int) = (P.length : Int) := by
    have := (vc_len hcs).2
    simp only [List.length_append, List.length_cons, List.length_nil] at this
    exact IntWalk.i64_in _ ⟨by omega, by omega⟩
  refine Reach.val plain_prog (.int .i64 (P.length : Int)) (plain_code hn) hfs rfl rfl (by decide) (fun τ d => by simp [go_sem, execOp, Act.eval, hw1]) ?_
  walk_nrm
  refine Reach.val plain_prog (.int .i64 (P.length : Int)) (plain_code hn) hfs rfl rfl (by decide) (fun τ d => by simp [go_sem, execOp, Act.eval]) ?_
  walk_nrm
  refine Reach.regionEnd plain_prog (plain_code hn) hfs ?_
  refine Reach.seq plain_prog hn hfs ?_
  -- the greatest coin, the others
  have hlen : (P ++ [gr]).length = P.length + 1 := by simp
  have hb0 : w.cell? ⟨b, off + P.length, none⟩ = some (.int .i64 gr) := by
    obtain ⟨a, cp, e, h⟩ := hv
    obtain ⟨b', off', rfl, hc⟩ := h P.length (by omega)
    injection e with e1 _ _
    injection e1 with e1
    injection e1 with e1 e2
    subst e1 e2
    rw [hc]
    simp
  have hbN : b < w.heap.size := World.block_lt_of_cell? w _ hb0
  refine Reach.code plain_prog (Qx := fun a' w' => (∃ x13 x14 x15 x16 x17 x18 x19, a' = ⟨#[.slice (some ⟨b, off, none⟩) (P.length + 1) cap, .int .i64 am, undef, .pointer (some ⟨w.heap.size, 0, none⟩), .chan none, .int .i64 (P.length : Int), .pointer (some ⟨w.heap.size + 1, 0, none⟩), .slice (some ⟨b, off, none⟩) P.length cap, undef, undef, .slice (some ⟨b, off, none⟩) (P.length + 1) cap, .int .i64 ((P.length : Int) + 1), .int .i64 (P.length : Int), x13, x14, x15, x16, x17, x18, x19, undef, undef, undef, undef, undef, undef, undef], []⟩) ∧
      Same ((w.alloc (.cells #[.int .i64 am] 3)).alloc (.cells #[.int .i64 gr] 3)) w') (plain_code hn) hfs (fun a u τ d h => ?_) (fun τ => ?_) ?_
  · obtain ⟨h1, τ', d', rfl⟩ := h
    exact ⟨h1, τ, d, rfl⟩
  · have hs : (w.alloc (.cells #[.int .i64 am] 3)).heap.size = w.heap.size + 1 := World.size_alloc _ _
    have hb1 : (On (w.alloc (.cells #[.int .i64 am] 3)) τ 0).cell? ⟨b, off + P.length, none⟩ = some (.int .i64 gr) := (((Below.refl _ _).alloc (Nat.le_refl _) _ : Below w.heap.size w (w.alloc (.cells #[.int .i64 am] 3))).cell hbN).trans hb0
    have := ways_r2 (On (w.alloc (.cells #[.int .i64 am] 3)) τ 0) b off P.length cap gr (.int .i64 am) (.pointer (some ⟨w.heap.size, 0, none⟩)) (.chan none) undef undef (.slice (some ⟨b, off, none⟩) (P.length + 1) cap) (.int .i64 ((P.length : Int) + 1)) (.int .i64 (P.length : Int)) hb1 hcap
    have e : (On (w.alloc (.cells #[.int .i64 am] 3)) τ 0).heap.size = w.heap.size + 1 := hs
    rw [e] at this
    exact this
  rintro _ w2 ⟨⟨x13, x14, x15, x16, x17, x18, x19, rfl⟩, hs2⟩
  have hs2a : w2.heap.size = w.heap.size + 2 := by
    obtain ⟨τ, d, rfl⟩ := hs2
    show ((w.alloc (.cells #[.int .i64 am] 3)).alloc (.cells #[.int .i64 gr] 3)).heap.size = _
    rw [World.size_alloc, World.size_alloc]
  have hb2 : BelX w.heap.size w w2 := (BelX.of ((((Below.refl _ _).alloc (Nat.le_refl _) _ : Below w.heap.size w (w.alloc (.cells #[.int .i64 am] 3)))).alloc (by rw [World.size_alloc]; omega) _)).same hs2
  have cA2 : ∀ τ d, (On w2 τ d).cell? ⟨w.heap.size, 0, none⟩ = some (.int .i64 am) := by
    obtain ⟨τ', d', rfl⟩ := hs2
    intro τ d
    show ((w.alloc (.cells #[.int .i64 am] 3)).alloc (.cells #[.int .i64 gr] 3)).cell? ⟨w.heap.size, 0, none⟩ = _
    rw [World.cell?_alloc_past _ _ _ (by rw [World.size_alloc]; omega)]
    exact World.cell?_alloc_at _ _ _ _ rfl
  have cG2 : w2.cell? ⟨w.heap.size + 1, 0, none⟩ = some (.int .i64 gr) := by
    obtain ⟨τ', d', rfl⟩ := hs2
    show ((w.alloc (.cells #[.int .i64 am] 3)).alloc (.cells #[.int .i64 gr] 3)).cell? ⟨w.heap.size + 1, 0, none⟩ = _
    exact World.cell?_alloc_at _ _ _ _ (by rw [World.size_alloc])
  refine Reach.seq plain_prog hn hfs ?_
  refine Reach.region plain_prog (plain_code hn) hfs ?_
  simp only [List.size_toArray, List.length_cons, List.length_nil, Nat.reduceAdd, Nat.zero_add, List.range, List.range.loop]
  refine Reach.val plain_prog (.slice (some ⟨b, off, none⟩) P.length cap) (plain_code hn) hfs rfl rfl (by decide) (fun τ d => by simp [go_sem, execOp, Act.eval]) ?_
  walk_nrm
  refine Reach.val plain_prog (.int .i64 am) (plain_code hn) hfs rfl rfl (by decide) (fun τ d => by simp [go_sem, execOp, Act.eval, cA2]) ?_
  walk_nrm
  refine Reach.call plain_prog (f := 105) (args := #[.int .i64 am, .int .i64 1, .int .i64 0]) (plain_code hn) hfs rfl rfl (by decide) (fun w => by simp [go_sem, execOp, Act.eval]) (without_B am 1 0 w2 (by omega)) ?_
  rintro _ w3 ⟨g, cp, rfl, hg, ho3, hb3⟩
  walk_nrm
  have hvP : IsInts w2 (.slice (some ⟨b, off, none⟩) P.length cap) P := by
    obtain ⟨a, cp, e, h⟩ := ints_belX hv hb2
    refine ⟨_, cap, rfl, fun j hj => ?_⟩
    obtain ⟨b', off', rfl, hc⟩ := h j (by omega)
    injection e with e1 _ _
    refine ⟨b', off', e1, ?_⟩
    rw [hc, List.getD_eq_getElem?_getD, List.getElem?_append_left hj, ← List.getD_eq_getElem?_getD]
  refine Reach.call plain_prog (f := 104) (args := #[.slice (some ⟨b, off, none⟩) P.length cap, sl g (am + 1) cp, .func (.func 106) #[] #[]]) (plain_code hn) hfs rfl rfl (by decide) (fun w => by simp [go_sem, execOp, Act.eval]) (by_B P _ am g cp w2 w3 hvP (.inr ⟨gr, hcs⟩) hb3 hg ho3 ham) ?_
  rintro _ w4 ⟨rfl, ho4, hb4⟩
  walk_nrm
  refine Reach.opv plain_prog (.pointer (some ⟨w4.heap.size, 0, none⟩)) (w4.alloc (.cells #[.slice none 0 0] 35)) rfl (plain_code hn) hfs rfl rfl (by decide) (fun τ d => by simp [go_sem, execOp]; exact ⟨rfl, rfl⟩) ?_
  walk_nrm
  refine Reach.opn plain_prog (w4.alloc (.cells #[sl g (am + 1) cp] 35)) rfl (plain_code hn) hfs rfl rfl (by decide) (fun τ d => ?_) ?_
  · have e : On (w4.alloc (.cells #[.slice none 0 0] 35)) τ d = (On w4 τ d).alloc (.cells #[.slice none 0 0] 35) := rfl
    have es : w4.heap.size = (On w4 τ d).heap.size := rfl
    rw [e, es]
    simp [go_sem, execOp, Act.eval]
    rfl
  walk_nrm
  refine Reach.regionEnd plain_prog (plain_code hn) hfs ?_
  refine Reach.seq plain_prog hn hfs ?_
  refine Reach.region plain_prog (plain_code hn) hfs ?_
  simp only [List.size_toArray, List.length_cons, List.length_nil, Nat.reduceAdd, Nat.zero_add, List.range, List.range.loop]
  obtain ⟨w5, hw5⟩ : ∃ w5, w5 = w4.alloc (.cells #[sl g (am + 1) cp] 35) := ⟨_, rfl⟩
  rw [← hw5]
  refine Reach.opv plain_prog (.chan (some w5.heap.size)) (w5.alloc (.chan 0 #[] false 0 0 false)) rfl (plain_code hn) hfs rfl rfl (by decide) (fun τ d => by simp [go_sem, execOp, Act.eval]; rfl) ?_
  walk_nrm
  obtain ⟨w6, hw6⟩ : ∃ w6, w6 = w5.alloc (.chan 0 #[] false 0 0 false) := ⟨_, rfl⟩
  rw [← hw6]
  refine Reach.opv plain_prog (.pointer (some ⟨w6.heap.size, 0, none⟩)) (w6.alloc (.cells #[.chan none] 143)) rfl (plain_code hn) hfs rfl rfl (by decide) (fun τ d => by simp [go_sem, execOp]; exact ⟨rfl, rfl⟩) ?_
  walk_nrm
  refine Reach.opn plain_prog (w6.alloc (.cells #[.chan (some w5.heap.size)] 143)) rfl (plain_code hn) hfs rfl rfl (by decide) (fun τ d => ?_) ?_
  · have e : On (w6.alloc (.cells #[.chan none] 143)) τ d = (On w6 τ d).alloc (.cells #[.chan none] 143) := rfl
    have es : w6.heap.size = (On w6 τ d).heap.size := rfl
    rw [e, es]
    simp [go_sem, execOp, Act.eval]
    rfl
  walk_nrm
  refine Reach.regionEnd plain_prog (plain_code hn) hfs ?_
  refine Reach.seq plain_prog hn hfs ?_
  refine Reach.region plain_prog (plain_code hn) hfs ?_
  simp only [List.size_toArray, List.length_cons, List.length_nil, Nat.reduceAdd, Nat.zero_add, List.range, List.range.loop]
  refine Reach.val plain_prog (.func (.func 107) #[] #[.pointer (some ⟨w6.heap.size, 0, none⟩), .pointer (some ⟨w.heap.size, 0, none⟩), .pointer (some ⟨w.heap.size + 1, 0, none⟩), .pointer (some ⟨w4.heap.size, 0, none⟩)]) (plain_code hn) hfs rfl rfl (by decide) (fun τ d => by simp [go_sem, execOp, Act.eval, Instr.makeFunc]) ?_
  walk_nrm
  have s5 : w5.heap.size = w4.heap.size + 1 := by rw [hw5, World.size_alloc]
  have s6 : w6.heap.size = w5.heap.size + 1 := by rw [hw6, World.size_alloc]
  have hg4 : g < w4.heap.size := World.block_lt_of_cell? w4 _ (ho4.cell (tabL_len _ _) 0 (by omega))
  have b45 : Below w4.heap.size w4 w5 := by rw [hw5]; exact (Below.refl _ _).alloc (Nat.le_refl _) _
  have b46 : Below w4.heap.size w4 w6 := by rw [hw6]; exact b45.alloc (by omega) _
  have b47 : Below w4.heap.size w4 (w6.alloc (.cells #[.chan (some w5.heap.size)] 143)) := b46.alloc (by omega) _
  refine hQ _ w5.heap.size ⟨w6.heap.size, 0, none⟩ ⟨w.heap.size, 0, none⟩ ⟨w.heap.size + 1, 0, none⟩ ⟨w4.heap.size, 0, none⟩ _ _ _ _ _ _ _ _ _ _ _ _ _ _ _ _ _ _ _ _ _ ?_
  have h24 := hb4.size
  refine ⟨⟨g, cp, ⟨World.cell?_alloc_at _ _ _ _ rfl, ?_, ?_, ?_, fun j hj => ?_⟩, by omega⟩, by show w6.heap.size ≠ _; omega, by show w.heap.size ≠ _; omega, by show w.heap.size + 1 ≠ _; omega, by show w4.heap.size ≠ _; omega, ?_, by omega, ?_⟩
  · refine (b47.cell (p := ⟨w.heap.size, 0, none⟩) (by show w.heap.size < _; omega)).trans ?_
    have := hb4.belowOn.cell (p := ⟨w.heap.size, 0, none⟩) (by show w.heap.size < _; omega)
    exact this.trans (cA2 _ _)
  · refine (b47.cell (p := ⟨w.heap.size + 1, 0, none⟩) (by show w.heap.size + 1 < _; omega)).trans ?_
    have := hb4.belowOn.cell (p := ⟨w.heap.size + 1, 0, none⟩) (by show w.heap.size + 1 < _; omega)
    exact this.trans cG2
  · rw [World.cell?_alloc_past _ _ _ (by omega), hw6, World.cell?_alloc_past _ _ _ (by omega), hw5]
    exact World.cell?_alloc_at _ _ _ _ rfl
  · refine (b47.cell (p := ⟨g, j, none⟩) (by exact hg4)).trans ?_
    rw [ho4.cell (tabL_len _ _) j hj, tabL_at _ (by omega)]
  · show (w6.heap.push _)[w5.heap.size]? = _
    rw [Array.getElem?_push, if_neg (by omega), hw6]
    show (w5.heap.push _)[w5.heap.size]? = _
    simp
  · exact hb2.trans ((hb4.mono (by omega)).trans (BelX.of (b47.mono (by omega))))

end

open Go Go.Conc Go.RowKit

theorem sum_outs {P : List Int} {gn : Nat} (hg : 1 ≤ gn) : ∀ (fuel l : Nat), l < fuel → sumL (outs (wyV P) gn fuel l) = wyV (P ++ [(gn : Int)]) l := by
  intro fuel
  induction fuel with
  | zero => intro l h; omega
  | succ fuel ih =>
    intro l h
    simp only [outs, sumL]
    by_cases hgl : gn ≤ l
    · rw [if_pos hgl, ih _ (by omega), wy_snoc (c := (gn : Int)) (x := (l : Int)) (by omega) (by omega), show ((l - gn : Nat) : Int) = (l : Int) - (gn : Int) by omega]
    · rw [if_neg hgl, wy_snoc_less (by omega) (by omega)]
      simp only [sumL]
      omega
theorem outs_nonneg {P : List Int} {gn : Nat} : ∀ (fuel l : Nat), ∀ y ∈ outs (wyV P) gn fuel l, 0 ≤ y := by
  intro fuel
  induction fuel with
  | zero => intro l y h; cases h
  | succ fuel ih =>
    intro l y h
    simp only [outs, List.mem_cons] at h
    rcases h with rfl | h
    · exact wy_nonneg _ _
    · split at h
      · exact ih _ y h
      · cases h

theorem rcv_pre {c : Nat} {W : World} {z : Value} {Fin : Goroutine → Prop} {vs : List Value} {g g' : Goroutine} {k : Nat} (h : ∀ (Stop : Goroutine → World → Prop) (m : Nat), Goes Tryz.prog true (RA c W) DR Stop m g' default → Goes Tryz.prog true (RA c W) DR Stop (m + k) g default)
    (hs : Rcv Tryz.prog c W z Fin vs g') : Rcv Tryz.prog c W z Fin vs g := by
  obtain ⟨n, hn⟩ := (rcv_iff _ _ _ _ _ _ _).1 hs
  exact (rcv_iff _ _ _ _ _ _ _).2 ⟨_, h _ _ hn⟩

section
variable {c : Nat} {W : World} {aS aA aG aW : Addr} {s0 s1 s2 s4 s5 s7 s10 s11 s12 s13 s14 s15 s16 s17 s18 s19 s20 s21 s22 s23 s24 : Value} {fs : List Frame}

theorem at_go {k : List Frame} (w : World) : stepG Tryz.prog true (G (goFr s0 s1 s2 s4 s5 s7 aS aA aG aW s10 s11 s12 s13 s14 s15 s16 s17 s18 s19 s20 s21 s22 s23 s24 [1]) k) w =
    .spawn (G (goFr s0 s1 s2 s4 s5 s7 aS aA aG aW s10 s11 s12 s13 s14 s15 s16 s17 s18 s19 s20 s21 s22 s23 s24 []) k) (born Tryz.prog (callK aS aA aG aW)) w #[] := by
  obtain ⟨o, ho, hd, hop, hg⟩ : ∃ o, opsG[1]? = some o ∧ o.dst = none ∧ o.op = .go { callee := .value (.tmp 25), args := #[], argTypes := #[] } ∧ o.guard = none := ⟨_, rfl, rfl, rfl, rfl⟩
  unfold goFr
  have e1 : (execOp (Act.eval ⟨#[s0, s1, s2, .pointer (some aA), s4, s5, .pointer (some aG), s7, .pointer (some aW), .pointer (some aS), s10, s11, s12, s13, s14, s15, s16, s17, s18, s19, s20, s21, s22, s23, s24, .func (.func 107) #[] #[.pointer (some aS), .pointer (some aA), .pointer (some aG), .pointer (some aW)], undef], []⟩) o).run Tryz.prog w = .ok (.spawn (callK aS aA aG aW)) w := by
    unfold execOp
    simp [go_sem, hop, Act.eval, resolve, Deferred.ofValue, callK]
  have e2 : (execOp (Act.eval ⟨#[s0, s1, s2, .pointer (some aA), s4, s5, .pointer (some aG), s7, .pointer (some aW), .pointer (some aS), s10, s11, s12, s13, s14, s15, s16, s17, s18, s19, s20, s21, s22, s23, s24, .func (.func 107) #[] #[.pointer (some aS), .pointer (some aA), .pointer (some aG), .pointer (some aW)], undef], []⟩) o).events Tryz.prog w #[] = #[] := by
    unfold execOp
    simp [go_sem, hop, Act.eval, resolve, Deferred.ofValue]
  rw [stepG_spawn ho (wanted_none hg _) (by decide) e1 (f := .func 107) (c := #[.pointer (some aS), .pointer (some aA), .pointer (some aG), .pointer (some aW)]) rfl, listed_none e2, hd]
  rfl

set_option maxRecDepth 100000 in
theorem to_head {v am : Value} {Stop : Goroutine → World → Prop} {m : Nat} (hc : ∀ w, Aside c W w → w.cell? aS = some (.chan (some c)))
    (hg : Goes Tryz.prog true (RA c W) DR Stop m (HR fs v am undef undef (.int .i64 0) v am (.bool true) (.bool false) v am c 0 undef undef undef undef undef undef undef undef) default) :
    Goes Tryz.prog true (RA c W) DR Stop (m + 11) (G (goFr s0 s1 s2 s4 s5 s7 aS aA aG aW s10 s11 s12 s13 s14 s15 s16 s17 s18 s19 s20 s21 s22 s23 s24 []) (frW v am :: fs)) default := by
  unfold goFr
  simp only [restG, restSix, body24, Tryz.f89, Option.getD_some]
  refine Go_.ctl rfl (fun w => stepG_region_end) ?_
  refine Go_.ctl rfl (fun w => stepG_seq) ?_
  refine Go_.ctl rfl (fun w => stepG_region) ?_
  simp only [List.size_toArray, List.length_cons, List.length_nil, Nat.reduceAdd, Nat.zero_add, List.range, List.range.loop]
  refine Go_.val (.chan (some c)) rfl rfl (by decide) (fun w hw => ?_) (fun w hw e he => ?_) ?_
  · have h1 := hc w hw
    simp [go_sem, execOp, Act.eval, h1]
  · have h1 := hc w hw
    simp [go_sem, execOp, Act.eval, h1] at he
    exact ⟨_, he⟩
  walk_nrm
  refine Go_.val (.chan (some c)) rfl rfl (by decide) (fun w hw => by simp [go_sem, execOp, Act.eval]) (fun w hw e he => by simp [go_sem, execOp, Act.eval] at he) ?_
  walk_nrm
  refine Go_.ctl rfl (fun w => stepG_region_end) ?_
  refine Go_.ctl rfl (fun w => stepG_ret') ?_
  refine Go_.ctl rfl (fun w => stepG_leave (v := .chan (some c)) rfl rfl Tryz.func89 (by simp [results, Tryz.f89]) (by simp [results, Tryz.f89])) ?_
  unfold frW
  simp only [body8, Tryz.f77, Option.getD_some]
  rw [Frame.finish_at]
  walk_nrm
  refine Go_.ctl rfl (fun w => stepG_region_end) ?_
  refine Go_.ctl rfl (fun w => stepG_block) ?_
  refine Go_.ctl rfl (fun w => stepG_loop) ?_
  exact hg

set_option maxRecDepth 100000 in
/-- From the last word heard to the way out. -/
theorem from_fin {w : World} {g : Goroutine} {v am : Value} {all : Int} (hfs : PlainC fs) (h : FinR fs v am undef undef (.int .i64 0) v am (.bool true) (.bool false) v am c all g) :
    Reach Tryz.prog g w fun g' w' => ∃ fr x, g' = G fr fs ∧ fr.fn = 77 ∧ fr.leaving Tryz.prog w' (.returned x) ∧ PlainT fr.todo ∧ x = .int .i64 all ∧ Same w w' := by
  obtain ⟨x6, x15, x16, x17, x18, x19, x20, rfl⟩ := h
  simp only [codeR, tailR, restR, loopR, body8, Tryz.f77, Option.getD_some]
  have hn := PlainT.nil
  have hk2 : PlainT [.inBlock 0, .code tailR] := PlainT.cons (show PlainI (.inBlock 0) from trivial) (plain_code hn)
  have hk3 : ∀ x : Code, PlainT [.inLoop x, .inBlock 0, .code tailR] := fun x => PlainT.cons (show PlainI (.inLoop x) from trivial) hk2
  refine Reach.val plain_prog (.bool false) (plain_code (hk3 _)) hfs rfl rfl (by decide) (fun τ d => by simp [go_sem, execOp, Act.eval]) ?_
  walk_nrm
  refine Reach.regionEnd plain_prog (plain_code (hk3 _)) hfs ?_
  refine Reach.seq plain_prog (hk3 _) hfs ?_
  refine Reach.cond plain_prog false rfl (plain_code (hk3 _)) hfs ?_
  simp only [Bool.false_eq_true, if_false]
  refine Reach.step1 plain_prog (plain_at (plain_code (plain_code (hk3 _))) hfs) rfl rfl (fun _ => stepG_exit rfl) fun _ => ?_
  refine Reach.seq plain_prog hn hfs ?_
  refine Reach.region plain_prog (plain_code hn) hfs ?_
  simp only [List.size_toArray, List.length_cons, List.length_nil, Nat.reduceAdd, Nat.zero_add, List.range, List.range.loop]
  refine Reach.val plain_prog (.int .i64 all) (plain_code hn) hfs rfl rfl (by decide) (fun τ d => by simp [go_sem, execOp, Act.eval]) ?_
  walk_nrm
  refine Reach.val plain_prog (.int .i64 all) (plain_code hn) hfs rfl rfl (by decide) (fun τ d => by simp [go_sem, execOp, Act.eval]) ?_
  walk_nrm
  refine Reach.regionEnd plain_prog (plain_code hn) hfs ?_
  refine Reach.ret plain_prog hn hfs ?_
  refine Reach.here fun d => ⟨_, .int .i64 all, rfl, rfl, ⟨rfl, rfl, rfl, _, Tryz.func77, by simp [results, Tryz.f77, Frame.at]⟩, plain_code hn, rfl, w.tape, d, rfl⟩
end

/-- ████ WaysOf, beside others that only leave. ████ -/
theorem WaysOf_B (b off cap am : Nat) (gr : Int) (P : List Int) (w : World) (hv : IsInts w (.slice (some ⟨b, off, none⟩) (P.length + 1) cap) (P ++ [gr])) (hcap : P.length + 1 ≤ cap) (hcs : vCoins (P ++ [gr]) = true) (ham : am ≤ 120) :
    CallsB Tryz.prog 77 #[.slice (some ⟨b, off, none⟩) (P.length + 1) cap, .int .i64 am] w fun x w' => x = .int .i64 (wyV (P ++ [gr]) am) ∧ BelX w.heap.size w w' := by
  intro fs hfs
  have hlen := (vc_len hcs).2
  simp only [List.length_append, List.length_cons, List.length_nil] at hlen
  have hgr := vc_at hcs (i := P.length) (by simp)
  rw [List.getD_eq_getElem?_getD, List.getElem?_append_right (Nat.le_refl _)] at hgr
  simp only [Nat.sub_self, List.getElem?_cons_zero, Option.getD_some] at hgr
  obtain ⟨gn, rfl⟩ : ∃ gn : Nat, gr = gn := ⟨gr.toNat, by omega⟩
  refine ways_enter _ (P ++ [(gn : Int)]) am w hv (by simp; omega) (by simp [hcs, inR]; omega) fs hfs fun w1 hs1 hfs1 => ?_
  refine ways_fork b off cap am gn P w1 (ints_same hs1 hv) hcap hcs ham _ hfs1 fun w2 c aS aA aG aW s0 s1 s2 s4 s5 s7 s10 s11 s12 s13 s14 s15 s16 s17 s18 s19 s20 s21 s22 s23 s24 hF => ?_
  obtain ⟨g, cp, hKF, hgc⟩ := hF.facts
  have hK : ∀ u, Aside c w2 u → KF c aS aA aG aW am gn g (am + 1) cp (wyV P) u := fun u hu => hKF.aside hF.neS hF.neA hF.neG hF.neW hgc hu
  have hsum := sum_outs (P := P) (gn := gn) (by omega) (am + 1) am (Nat.lt_succ_self _)
  have hle : wyV (P ++ [(gn : Int)]) am ≤ 25937424601 := wy_le (vc_pos hcs) (by simp; omega) (by omega)
  have hrc : Rcv Tryz.prog c w2 (.int .i64 0) (FinR fs (.slice (some ⟨b, off, none⟩) (P.length + 1) cap) (.int .i64 am) undef undef (.int .i64 0) (.slice (some ⟨b, off, none⟩) (P.length + 1) cap) (.int .i64 am) (.bool true) (.bool false) (.slice (some ⟨b, off, none⟩) (P.length + 1) cap) (.int .i64 am) c (wyV (P ++ [(gn : Int)]) am))
      ((outs (wyV P) gn (am + 1) am).map (.int .i64)) (G (goFr s0 s1 s2 s4 s5 s7 aS aA aG aW s10 s11 s12 s13 s14 s15 s16 s17 s18 s19 s20 s21 s22 s23 s24 []) (frW (.slice (some ⟨b, off, none⟩) (P.length + 1) cap) (.int .i64 am) :: fs)) := by
    refine rcv_pre (k := 11) (fun Stop m h => to_head (fun u hu => (hK u hu).cS) h) ?_
    have := recv_all (c := c) (W := w2) (cs := fs) (x0 := .slice (some ⟨b, off, none⟩) (P.length + 1) cap) (x1 := .int .i64 am) (x2 := undef) (x3 := undef) (x4 := .int .i64 0) (x7 := .slice (some ⟨b, off, none⟩) (P.length + 1) cap) (x8 := .int .i64 am) (x9 := .bool true) (x10 := .bool false) (x11 := .slice (some ⟨b, off, none⟩) (P.length + 1) cap) (x12 := .int .i64 am)
      (outs (wyV P) gn (am + 1) am) 0 (outs_nonneg _ _) (Int.le_refl _) (by rw [hsum]; omega) undef undef undef undef undef undef undef undef
    rw [hsum, Int.zero_add] at this
    exact this
  have hsd := worker_all (c := c) (W := w2) (cap := cp) (gr := gn) (l := am) hK ⟨by omega, by omega⟩ (by omega)
  refine (Reach.pipe (c := c) (z := .int .i64 0) rfl hF.chan (fun u _ => at_go u) (by simp) hrc hsd).trans fun g' w3 h3 => ?_
  obtain ⟨_, hfin, has⟩ := h3
  refine (from_fin hfs hfin).mono fun g'' w4 h4 => ?_
  obtain ⟨fr, x, h1, h2, h3, h4, h5, h6⟩ := h4
  have hb : BelX w.heap.size w w2 := by
    obtain ⟨τ, d, rfl⟩ := hs1
    exact ⟨hF.bel.os, hF.bel.output, hF.bel.size, hF.bel.block⟩
  refine ⟨fr, x, h1, h2, h3, h4, h5, (hb.aside has ?_).same h6⟩
  obtain ⟨τ, d, rfl⟩ := hs1
  exact hF.fresh

end

open Go Go.Conc Go.RowKit

theorem WaysOf_no (v : Value) (cs : List Int) (a : Int) (w : World) (hv : IsInts w v cs) (hl : cs.length ≤ 9223372036854775807) (h : (vCoins cs && inR a 0 120) = false) :
    Calls Tryz.prog 77 #[v, .int .i64 a] w fun e w' => e = .returned (.int .i64 (-1)) ∧ Drawn w w' := by
  have HC := Lib.hid (canPayBy_at v cs a false w hv hl h)
  obtain ⟨av, cap, rfl, _⟩ := hv
  go_enter Tryz.func77, Tryz.ntmps77
  go_wp2_with (go_at_call 76; refine HC.out.mono ?_; rintro e w2 ⟨rfl, hd⟩)
  go_ret
  exact ⟨rfl, hd⟩

theorem belX_drawn {w w' : World} (h : Drawn w w') : BelX w.heap.size w w' := by
  obtain ⟨m, rfl⟩ := h
  exact ⟨rfl, rfl, Nat.le_refl _, fun _ _ => rfl⟩

theorem WaysOf_any (v : Value) (cs : List Int) (a : Int) (w : World) (hv : IsInts w v cs) (hl : cs.length ≤ 9223372036854775807) (hcap : ∀ x n c, v = .slice x n c → n ≤ c) :
    CallsB Tryz.prog 77 #[v, .int .i64 a] w fun x w' => x = .int .i64 (waysV cs a) ∧ BelX w.heap.size w w' := by
  cases h : vCoins cs && inR a 0 120
  · have e : waysV cs a = -1 := by
      unfold waysV
      rw [if_neg]
      rw [← Bool.and_eq_true, h]
      simp
    rw [e]
    refine CallsB.ofCalls plain_prog (fun v u τ d h => ⟨h.1, h.2.on τ d⟩) fun τ => (WaysOf_no v cs a (On w τ 0) hv hl h).mono fun e w' h => ?_
    obtain ⟨rfl, hd⟩ := h
    have hb : BelX w.heap.size (On w τ 0) w' := belX_drawn hd
    exact ⟨_, rfl, rfl, hb.os, hb.output, hb.size, hb.block⟩
  · rw [Bool.and_eq_true] at h
    obtain ⟨hcs, hin⟩ := h
    have e : waysV cs a = wyV cs a := if_pos ⟨hcs, hin⟩
    rw [e]
    have hlen := vc_len hcs
    have ha : 0 ≤ a ∧ a ≤ 120 := by
      unfold inR at hin
      simpa using hin
    obtain ⟨am, rfl⟩ : ∃ am : Nat, a = am := ⟨a.toNat, by omega⟩
    have hne : cs ≠ [] := fun h0 => by rw [h0] at hlen; simp at hlen
    have hsplit : cs.dropLast ++ [cs.getLast hne] = cs := List.dropLast_concat_getLast hne
    have hdl : cs.dropLast.length + 1 = cs.length := by rw [List.length_dropLast]; omega
    have hv' := hv
    obtain ⟨x, cap, rfl, hcell⟩ := hv
    obtain ⟨b, off, rfl, _⟩ := hcell 0 (by omega)
    have hcp := hcap _ _ _ rfl
    have := WaysOf_B b off cap am (cs.getLast hne) cs.dropLast w (by rw [hsplit, hdl]; exact hv') (by omega) (by rw [hsplit]; exact hcs) (by omega)
    rw [hsplit, hdl] at this
    exact this

theorem waysSpec_B (v : Value) (cs : List Int) (a : Int) (w : World) (hv : IsInts w v cs) (hl : cs.length ≤ 9223372036854775807) :
    CallsB Tryz.prog 36 #[v, .int .i64 a] w fun x w' => x = .int .i64 (waysV cs a) ∧ BelX w.heap.size w w' :=
  CallsB.ofCalls plain_prog (fun v u τ d h => ⟨h.1, h.2.on τ d⟩) fun τ => (WaysOf_spec v cs a (On w τ 0) hv hl).mono fun e w' h => by
    obtain ⟨rfl, h2⟩ := h
    exact ⟨_, rfl, rfl, BelX.ofOn h2⟩

theorem own_belX {w w' : World} {B : Nat} {v : Value} {xs : List Int} (h : Own w B v xs) (hb : BelX w.heap.size w w') : Own w' B v xs :=
  Own.below (show Own (On w w'.tape 0) B v xs from h) hb.belowOn
theorem own_cap2 {w : World} {B : Nat} {v : Value} {xs : List Int} (h : Own w B v xs) : ∀ a n c, v = .slice a n c → n ≤ c := by
  rintro a n c rfl
  rcases h.2 with ⟨h0, _⟩ | ⟨g, c', cur, hv, _, _, hl, _⟩
  · simp only [Value.slice.injEq] at h0
    omega
  · simp only [Value.slice.injEq] at hv
    omega

end Go.Proofs.YtpenbkfchgeafaaGreatDoor

namespace Go.Proofs.YtpenbkfchgeafaaGreatDoor
open Go Go.Conc Go.RowKit

theorem Reach.tail {f : FuncId} {fn : Func} {x : Code} {a : Act} {cs : List Frame} {w : World} {Rv : Value → World → Prop} (hf : Tryz.prog.funcs[f]? = some fn) (hcs : PlainC cs) (hB : ∀ v w τ d, Rv v w → Rv v (On w τ d))
    (h : ∀ τ, x.wp Tryz.prog (bodyPost Tryz.prog fn fun e w' => ∃ v, e = .returned v ∧ Rv v w') a (On w τ 0)) :
    Reach Tryz.prog (G ((bN f).at a [.code x]) cs) w fun g' w' => ∃ fr v, g' = G fr cs ∧ fr.fn = f ∧ fr.leaving Tryz.prog w' (.returned v) ∧ PlainT fr.todo ∧ Rv v w' := by
  have hS : SoloTo Tryz.prog (fun g' w' => ∃ fr v, g' = G fr cs ∧ fr.fn = f ∧ fr.leaving Tryz.prog w' (.returned v) ∧ Rv v w') (G ((bN f).at a [.code x]) cs) w := fun τ => by
    obtain ⟨e, a', w', hq, harr⟩ := h τ (bN f) [] cs
    cases e with
    | normal =>
      obtain ⟨hd, v, hr, v', hv, hR⟩ := hq
      obtain rfl := Ending.returned.inj hv
      obtain ⟨n, hn⟩ := Steps.trans harr (.one step_end)
      exact ⟨n, _, w', hn, rfl, _, v, rfl, rfl, ⟨rfl, hd, rfl, fn, hf, hr⟩, hR⟩
    | ret =>
      obtain ⟨hd, v, hr, v', hv, hR⟩ := hq
      obtain rfl := Ending.returned.inj hv
      obtain ⟨todo, n, hn⟩ := harr
      exact ⟨n, _, w', hn, rfl, _, v, rfl, rfl, ⟨rfl, hd, rfl, fn, hf, hr⟩, hR⟩
    | panic chain =>
      obtain ⟨_, v, hv, _⟩ := hq
      cases hv
    | exit id => exact hq.elim
    | goto l => exact hq.elim
    | outgrown =>
      obtain ⟨v, hv, _⟩ := hq
      cases hv
  refine (Reach.lonely plain_prog (fun g' u τ d h => ?_) (show PlainG (G ((bN f).at a [.code x]) cs) from plain_at (plain_code PlainT.nil) hcs) rfl hS).mono fun g' w' h => ?_
  · obtain ⟨fr, v, h1, h2, h3, h4⟩ := h
    exact ⟨fr, v, h1, h2, leaving_on h3 τ d, hB _ _ _ _ h4⟩
  · obtain ⟨_, hp, fr, v, rfl, h2, h3, h4⟩ := h
    exact ⟨fr, v, rfl, h2, h3, hp.1, h4⟩
end Go.Proofs.YtpenbkfchgeafaaGreatDoor
