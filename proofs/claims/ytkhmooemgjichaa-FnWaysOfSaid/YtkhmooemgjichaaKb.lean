/- The law FnWaysOf, beside others that only leave. -/
import Derived.Test.YtkhmooemgjichaaKa
import Derived.Test.YtkhmooemgjichaaHy
import Derived.Test.YtkhmooemgjichaaCoinR
namespace Go.Proofs.Ytkhmooemgjichaa
open Go Go.Conc Go.RowKit

theorem drawWays_B (a : Option Addr) (n cap : Nat) (w : World) (h : IsBytes w a n) (hc : n ≤ cap) :
    CallsB Try.prog 7 #[.slice a n cap] w fun x w' => ∃ v xs z, x = .tuple #[v, .int .i64 z] ∧ Own w' w.heap.size v xs ∧ xs.length ≤ 6 ∧ (-1 ≤ z ∧ z ≤ 121) ∧ BelX w.heap.size w w' :=
  CallsB.ofCalls plain_prog (fun v u τ d h => by obtain ⟨v', xs, z, h1, h2, h3, h4, h5⟩ := h; exact ⟨v', xs, z, h1, own_on h2 τ d, h3, h4, h5.on τ d⟩) fun τ => (DrawWaysOf_any a n cap (On w τ 0) h hc).mono fun e w' h => by
    obtain ⟨v', xs, z, rfl, h2, h3, h4, h5⟩ := h
    exact ⟨_, rfl, v', xs, z, rfl, h2, h3, h4, BelX.ofOn h5⟩

set_option maxRecDepth 100000 in
set_option maxHeartbeats 4000000 in
theorem FnWaysOf_B (a : Option Addr) (n cap : Nat) (w : World) (h : IsBytes w a n) (hc : n ≤ cap) :
    CallsB Try.prog 3 #[.slice a n cap] w fun x w' => x = .bool true ∧ BelX w.heap.size w w' := by
  intro fs hfs
  rw [enter_bN _ Try.func3 rfl]
  simp only [Try.ntmps3, List.size_toArray, List.length_cons, List.length_nil, Nat.reduceAdd, Nat.reduceSub, Array.replicate_succ, Array.replicate_zero, List.push_toArray, List.append_toArray, List.nil_append, List.cons_append]
  have hn := PlainT.nil
  refine Reach.seq plain_prog hn hfs ?_
  refine Reach.region plain_prog (plain_code hn) hfs ?_
  simp only [List.size_toArray, List.length_cons, List.length_nil, Nat.zero_add, List.range, List.range.loop]
  refine Reach.val plain_prog (.bool false) (plain_code hn) hfs rfl rfl (by decide) (fun τ d => by simp [go_sem, execOp, Act.eval]) ?_
  walk_nrm
  refine Reach.regionEnd plain_prog (plain_code hn) hfs ?_
  refine Reach.seq plain_prog hn hfs ?_
  refine Reach.seq plain_prog (plain_code hn) hfs ?_
  by_cases hbig : (1048576 : Int) < (n : Int)
  · refine Reach.region plain_prog (plain_code (plain_code hn)) hfs ?_
    simp only [List.size_toArray, List.length_cons, List.length_nil, Nat.reduceAdd, Nat.zero_add, List.range, List.range.loop]
    refine Reach.val plain_prog (.slice a n cap) (plain_code (plain_code hn)) hfs rfl rfl (by decide) (fun τ d => by simp [go_sem, execOp, Act.eval]) ?_
    walk_nrm
    refine Reach.val plain_prog (.int .i64 (n : Int)) (plain_code (plain_code hn)) hfs rfl rfl (by decide) (fun τ d => by simp [go_sem, execOp, Act.eval]) ?_
    walk_nrm
    refine Reach.val plain_prog (.bool true) (plain_code (plain_code hn)) hfs rfl rfl (by decide) (fun τ d => by simp [go_sem, execOp, Act.eval, hbig]) ?_
    walk_nrm
    refine Reach.regionEnd plain_prog (plain_code (plain_code hn)) hfs ?_
    refine Reach.cond plain_prog true rfl (plain_code hn) hfs ?_
    simp only [if_true]
    refine Reach.seq plain_prog (plain_code hn) hfs ?_
    refine Reach.region plain_prog (plain_code (plain_code hn)) hfs ?_
    simp only [List.size_toArray, List.length_cons, List.length_nil, Nat.zero_add, List.range, List.range.loop]
    refine Reach.val plain_prog (.bool true) (plain_code (plain_code hn)) hfs rfl rfl (by decide) (fun τ d => by simp [go_sem, execOp, Act.eval]) ?_
    walk_nrm
    refine Reach.regionEnd plain_prog (plain_code (plain_code hn)) hfs ?_
    refine Reach.ret plain_prog (plain_code hn) hfs ?_
    exact Reach.here fun d => ⟨_, .bool true, rfl, rfl, ⟨rfl, rfl, rfl, _, Try.func3, by simp [results, Try.f3, Frame.at]⟩, plain_code (plain_code hn), rfl, (BelX.refl _ _).on _ _⟩
  refine Reach.region plain_prog (plain_code (plain_code hn)) hfs ?_
  simp only [List.size_toArray, List.length_cons, List.length_nil, Nat.reduceAdd, Nat.zero_add, List.range, List.range.loop]
  refine Reach.val plain_prog (.slice a n cap) (plain_code (plain_code hn)) hfs rfl rfl (by decide) (fun τ d => by simp [go_sem, execOp, Act.eval]) ?_
  walk_nrm
  refine Reach.val plain_prog (.int .i64 (n : Int)) (plain_code (plain_code hn)) hfs rfl rfl (by decide) (fun τ d => by simp [go_sem, execOp, Act.eval]) ?_
  walk_nrm
  refine Reach.val plain_prog (.bool false) (plain_code (plain_code hn)) hfs rfl rfl (by decide) (fun τ d => by simp [go_sem, execOp, Act.eval, hbig]) ?_
  walk_nrm
  refine Reach.regionEnd plain_prog (plain_code (plain_code hn)) hfs ?_
  refine Reach.cond plain_prog false rfl (plain_code hn) hfs ?_
  simp only [Bool.false_eq_true, if_false]
  refine Reach.skip plain_prog (plain_code hn) hfs ?_
  refine Reach.seq plain_prog hn hfs ?_
  refine Reach.region plain_prog (plain_code hn) hfs ?_
  simp only [List.size_toArray, List.length_cons, List.length_nil, Nat.reduceAdd, Nat.zero_add, List.range, List.range.loop]
  refine Reach.val plain_prog (.slice a n cap) (plain_code hn) hfs rfl rfl (by decide) (fun τ d => by simp [go_sem, execOp, Act.eval]) ?_
  walk_nrm
  refine Reach.call plain_prog (f := 7) (args := #[.slice a n cap]) (plain_code hn) hfs rfl rfl (by decide) (fun w => by simp [go_sem, execOp, Act.eval]) (drawWays_B a n cap w h hc) ?_
  rintro _ w1 ⟨v, xs, z, rfl, o1, hl6, hz, b1⟩
  walk_nrm
  refine Reach.val plain_prog (.tuple #[v, .int .i64 z]) (plain_code hn) hfs rfl rfl (by decide) (fun τ d => by simp [go_sem, execOp, Act.eval]) ?_
  walk_nrm
  refine Reach.val plain_prog (v) (plain_code hn) hfs rfl rfl (by decide) (fun τ d => by simp [go_sem, execOp, Act.eval]) ?_
  walk_nrm
  refine Reach.val plain_prog (.int .i64 z) (plain_code hn) hfs rfl rfl (by decide) (fun τ d => by simp [go_sem, execOp, Act.eval]) ?_
  walk_nrm
  refine Reach.val plain_prog (v) (plain_code hn) hfs rfl rfl (by decide) (fun τ d => by simp [go_sem, execOp, Act.eval]) ?_
  walk_nrm
  refine Reach.val plain_prog (.int .i64 z) (plain_code hn) hfs rfl rfl (by decide) (fun τ d => by simp [go_sem, execOp, Act.eval]) ?_
  walk_nrm
  refine Reach.regionEnd plain_prog (plain_code hn) hfs ?_
  refine Reach.seq plain_prog hn hfs ?_
  refine Reach.region plain_prog (plain_code hn) hfs ?_
  simp only [List.size_toArray, List.length_cons, List.length_nil, Nat.reduceAdd, Nat.zero_add, List.range, List.range.loop]
  refine Reach.val plain_prog (v) (plain_code hn) hfs rfl rfl (by decide) (fun τ d => by simp [go_sem, execOp, Act.eval]) ?_
  walk_nrm
  refine Reach.val plain_prog (.int .i64 z) (plain_code hn) hfs rfl rfl (by decide) (fun τ d => by simp [go_sem, execOp, Act.eval]) ?_
  walk_nrm
  refine Reach.call plain_prog (f := 8) (args := #[v, .int .i64 z]) (plain_code hn) hfs rfl rfl (by decide) (fun w => by simp [go_sem, execOp, Act.eval]) (WaysOf_any v xs z w1 o1.ints (by omega) (own_cap2 o1)) ?_
  rintro _ w2 ⟨rfl, hb2⟩
  walk_nrm
  have b2 : BelX w.heap.size w w2 := b1.trans (hb2.mono b1.size)
  have o2 := own_belX o1 hb2
  refine Reach.val plain_prog (.int .i64 (waysV xs z)) (plain_code hn) hfs rfl rfl (by decide) (fun τ d => by simp [go_sem, execOp, Act.eval]) ?_
  walk_nrm
  refine Reach.regionEnd plain_prog (plain_code hn) hfs ?_
  refine Reach.seq plain_prog hn hfs ?_
  refine Reach.seq plain_prog (plain_code hn) hfs ?_
  by_cases hneg : waysV xs z < 0
  · refine Reach.region plain_prog (plain_code (plain_code hn)) hfs ?_
    simp only [List.size_toArray, List.length_cons, List.length_nil, Nat.reduceAdd, Nat.zero_add, List.range, List.range.loop]
    refine Reach.val plain_prog (.int .i64 (waysV xs z)) (plain_code (plain_code hn)) hfs rfl rfl (by decide) (fun τ d => by simp [go_sem, execOp, Act.eval]) ?_
    walk_nrm
    refine Reach.val plain_prog (v) (plain_code (plain_code hn)) hfs rfl rfl (by decide) (fun τ d => by simp [go_sem, execOp, Act.eval]) ?_
    walk_nrm
    refine Reach.val plain_prog (.int .i64 z) (plain_code (plain_code hn)) hfs rfl rfl (by decide) (fun τ d => by simp [go_sem, execOp, Act.eval]) ?_
    walk_nrm
    refine Reach.call plain_prog (f := 9) (args := #[v, .int .i64 z]) (plain_code (plain_code hn)) hfs rfl rfl (by decide) (fun w => by simp [go_sem, execOp, Act.eval]) (waysSpec_B v xs z w2 o2.ints (by omega)) ?_
    rintro _ w3 ⟨rfl, hb3⟩
    walk_nrm
    have b3 : BelX w.heap.size w w3 := b2.trans (hb3.mono b2.size)
    have o3 := own_belX o2 hb3
    refine Reach.val plain_prog (.bool false) (plain_code (plain_code hn)) hfs rfl rfl (by decide) (fun τ d => by simp [go_sem, execOp, Act.eval]) ?_
    walk_nrm
    refine Reach.val plain_prog (.bool false) (plain_code (plain_code hn)) hfs rfl rfl (by decide) (fun τ d => by simp [go_sem, execOp, Act.eval]) ?_
    walk_nrm
    refine Reach.val plain_prog (.int .i64 (waysV xs z)) (plain_code (plain_code hn)) hfs rfl rfl (by decide) (fun τ d => by simp [go_sem, execOp, Act.eval]) ?_
    walk_nrm
    refine Reach.val plain_prog (.bool true) (plain_code (plain_code hn)) hfs rfl rfl (by decide) (fun τ d => by simp [go_sem, execOp, Act.eval, hneg]) ?_
    walk_nrm
    refine Reach.val plain_prog (.bool true) (plain_code (plain_code hn)) hfs rfl rfl (by decide) (fun τ d => by simp [go_sem, execOp, Act.eval]) ?_
    walk_nrm
    refine Reach.regionEnd plain_prog (plain_code (plain_code hn)) hfs ?_
    refine Reach.cond plain_prog true rfl (plain_code hn) hfs ?_
    simp only [if_true]
    refine Reach.seq plain_prog (plain_code hn) hfs ?_
    refine Reach.region plain_prog (plain_code (plain_code hn)) hfs ?_
    simp only [List.size_toArray, List.length_cons, List.length_nil, Nat.reduceAdd, Nat.zero_add, List.range, List.range.loop]
    refine Reach.val plain_prog (.int .i64 (waysV xs z)) (plain_code (plain_code hn)) hfs rfl rfl (by decide) (fun τ d => by simp [go_sem, execOp, Act.eval]) ?_
    walk_nrm
    refine Reach.val plain_prog (v) (plain_code (plain_code hn)) hfs rfl rfl (by decide) (fun τ d => by simp [go_sem, execOp, Act.eval]) ?_
    walk_nrm
    refine Reach.val plain_prog (.int .i64 z) (plain_code (plain_code hn)) hfs rfl rfl (by decide) (fun τ d => by simp [go_sem, execOp, Act.eval]) ?_
    walk_nrm
    refine Reach.call plain_prog (f := 9) (args := #[v, .int .i64 z]) (plain_code (plain_code hn)) hfs rfl rfl (by decide) (fun w => by simp [go_sem, execOp, Act.eval]) (waysSpec_B v xs z w3 o3.ints (by omega)) ?_
    rintro _ w4 ⟨rfl, hb4⟩
    walk_nrm
    have b4 : BelX w.heap.size w w4 := b3.trans (hb4.mono b3.size)
    have o4 := own_belX o3 hb4
    refine Reach.val plain_prog (.bool true) (plain_code (plain_code hn)) hfs rfl rfl (by decide) (fun τ d => by simp [go_sem, execOp, Act.eval]) ?_
    walk_nrm
    refine Reach.val plain_prog (.bool true) (plain_code (plain_code hn)) hfs rfl rfl (by decide) (fun τ d => by simp [go_sem, execOp, Act.eval]) ?_
    walk_nrm
    refine Reach.regionEnd plain_prog (plain_code (plain_code hn)) hfs ?_
    refine Reach.ret plain_prog (plain_code hn) hfs ?_
    exact Reach.here fun d => ⟨_, .bool true, rfl, rfl, ⟨rfl, rfl, rfl, _, Try.func3, by simp [results, Try.f3, Frame.at]⟩, plain_code (plain_code hn), rfl, b4.on _ _⟩
  obtain ⟨hvc, hzr, hwv⟩ := ways_in hneg
  have hlen := vc_len hvc
  refine Reach.region plain_prog (plain_code (plain_code hn)) hfs ?_
  simp only [List.size_toArray, List.length_cons, List.length_nil, Nat.reduceAdd, Nat.zero_add, List.range, List.range.loop]
  refine Reach.val plain_prog (.int .i64 (waysV xs z)) (plain_code (plain_code hn)) hfs rfl rfl (by decide) (fun τ d => by simp [go_sem, execOp, Act.eval]) ?_
  walk_nrm
  refine Reach.val plain_prog (v) (plain_code (plain_code hn)) hfs rfl rfl (by decide) (fun τ d => by simp [go_sem, execOp, Act.eval]) ?_
  walk_nrm
  refine Reach.val plain_prog (.int .i64 z) (plain_code (plain_code hn)) hfs rfl rfl (by decide) (fun τ d => by simp [go_sem, execOp, Act.eval]) ?_
  walk_nrm
  refine Reach.call plain_prog (f := 9) (args := #[v, .int .i64 z]) (plain_code (plain_code hn)) hfs rfl rfl (by decide) (fun w => by simp [go_sem, execOp, Act.eval]) (waysSpec_B v xs z w2 o2.ints (by omega)) ?_
  rintro _ w3 ⟨rfl, hb3⟩
  walk_nrm
  have b3 : BelX w.heap.size w w3 := b2.trans (hb3.mono b2.size)
  have o3 := own_belX o2 hb3
  refine Reach.val plain_prog (.bool false) (plain_code (plain_code hn)) hfs rfl rfl (by decide) (fun τ d => by simp [go_sem, execOp, Act.eval]) ?_
  walk_nrm
  refine Reach.val plain_prog (.bool false) (plain_code (plain_code hn)) hfs rfl rfl (by decide) (fun τ d => by simp [go_sem, execOp, Act.eval]) ?_
  walk_nrm
  refine Reach.val plain_prog (.int .i64 (waysV xs z)) (plain_code (plain_code hn)) hfs rfl rfl (by decide) (fun τ d => by simp [go_sem, execOp, Act.eval]) ?_
  walk_nrm
  refine Reach.val plain_prog (.bool false) (plain_code (plain_code hn)) hfs rfl rfl (by decide) (fun τ d => by simp [go_sem, execOp, Act.eval, hneg]) ?_
  walk_nrm
  refine Reach.val plain_prog (.bool false) (plain_code (plain_code hn)) hfs rfl rfl (by decide) (fun τ d => by simp [go_sem, execOp, Act.eval]) ?_
  walk_nrm
  refine Reach.regionEnd plain_prog (plain_code (plain_code hn)) hfs ?_
  refine Reach.cond plain_prog false rfl (plain_code hn) hfs ?_
  simp only [Bool.false_eq_true, if_false]
  refine Reach.skip plain_prog (plain_code hn) hfs ?_
  obtain ⟨b, off, cap2, rfl, hblt, _⟩ := o3.ints.at0 hlen.1
  refine Reach.seq plain_prog hn hfs ?_
  refine Reach.region plain_prog (plain_code hn) hfs ?_
  simp only [List.size_toArray, List.length_cons, List.length_nil, Nat.reduceAdd, Nat.zero_add, List.range, List.range.loop]
  refine Reach.val plain_prog (.slice (some ⟨b, off, none⟩) xs.length cap2) (plain_code hn) hfs rfl rfl (by decide) (fun τ d => by simp [go_sem, execOp, Act.eval]) ?_
  walk_nrm
  refine Reach.val plain_prog (.int .i64 xs.length) (plain_code hn) hfs rfl rfl (by decide) (fun τ d => by simp [go_sem, execOp, Act.eval]) ?_
  walk_nrm
  refine Reach.val plain_prog (.int .i64 xs.length) (plain_code hn) hfs rfl rfl (by decide) (fun τ d => by simp [go_sem, execOp, Act.eval]) ?_
  walk_nrm
  refine Reach.regionEnd plain_prog (plain_code hn) hfs ?_
  refine Reach.seq plain_prog hn hfs ?_
  refine Reach.region plain_prog (plain_code hn) hfs ?_
  simp only [List.size_toArray, List.length_cons, List.length_nil, Nat.zero_add, List.range, List.range.loop]
  refine Reach.val plain_prog (.int .i64 0) (plain_code hn) hfs rfl rfl (by decide) (fun τ d => by simp [go_sem, execOp, Act.eval]) ?_
  walk_nrm
  refine Reach.regionEnd plain_prog (plain_code hn) hfs ?_
  have hcp := own_cap2 o3 _ _ _ rfl
  have hlt1 : ¬ (xs.length ≤ xs.length - 1) := by omega
  have hs1 : ¬ (cap2 + 1 < xs.length) := by omega
  have hs2 : cap2 ≠ 0 := by omega
  have hvt : ∀ j, 1 ≤ j → j ≤ xs.length → vCoins (xs.take j) = true := vc_take hvc
  have hw1 : IntKind.i64.wrap ((xs.length : Int) - 1) = ((xs.length - 1 : Nat) : Int) := by rw [IntWalk.i64_in _ ⟨by omega, by omega⟩]; omega
  refine Reach.seqThen plain_prog (fun a' w' => (∃ x38 x39 x40 x41 x42 x43 x44 x45 x46 x47, a' = ⟨#[(.slice a n cap), undef, (.bool false), (.slice (some ⟨b, off, none⟩) xs.length cap2), (.int .i64 z), (.int .i64 (waysV xs z)), (.int .i64 xs.length), (.int .i64 (wyV (xs.take (xs.length - 1)) z)), undef, undef, undef, (.slice a n cap), (.int .i64 (n : Int)), (.bool false), (.tuple #[.slice (some ⟨b, off, none⟩) xs.length cap2, .int .i64 z]), (.slice a n cap), (.tuple #[.slice (some ⟨b, off, none⟩) xs.length cap2, .int .i64 z]), (.slice (some ⟨b, off, none⟩) xs.length cap2), (.int .i64 z), (.slice (some ⟨b, off, none⟩) xs.length cap2), (.int .i64 z), (.int .i64 (waysV xs z)), (.int .i64 (waysV xs z)), (.slice (some ⟨b, off, none⟩) xs.length cap2), (.int .i64 z), (.int .i64 (waysV xs z)), (.bool false), (.bool false), (.int .i64 (waysV xs z)), (.bool false), (.bool false), undef, undef, undef, undef, undef, (.slice (some ⟨b, off, none⟩) xs.length cap2), (.int .i64 xs.length), x38, x39, x40, x41, x42, x43, x44, x45, x46, x47, undef, undef, undef, undef, undef, undef, undef, undef, undef, undef, undef, undef, undef, undef, undef, undef, undef, undef, undef, undef, undef, undef, undef, undef, undef, undef, undef, undef, undef, undef, undef, undef, undef, undef], []⟩) ∧ BelX w.heap.size w w' ∧ Own w' w.heap.size (.slice (some ⟨b, off, none⟩) xs.length cap2) xs) hn hfs ?_ ?_
  · refine Reach.seq plain_prog (plain_code hn) hfs ?_
    by_cases h1 : (1 : Int) < (xs.length : Int)
    · refine Reach.region plain_prog (plain_code (plain_code hn)) hfs ?_
      simp only [List.size_toArray, List.length_cons, List.length_nil, Nat.reduceAdd, Nat.zero_add, List.range, List.range.loop]
      refine Reach.val plain_prog (.int .i64 xs.length) (plain_code (plain_code hn)) hfs rfl rfl (by decide) (fun τ d => by simp [go_sem, execOp, Act.eval]) ?_
      walk_nrm
      refine Reach.val plain_prog (.bool true) (plain_code (plain_code hn)) hfs rfl rfl (by decide) (fun τ d => by simp [go_sem, execOp, Act.eval, h1]) ?_
      walk_nrm
      refine Reach.regionEnd plain_prog (plain_code (plain_code hn)) hfs ?_
      refine Reach.cond plain_prog true rfl (plain_code hn) hfs ?_
      simp only [if_true]
      refine Reach.region plain_prog (plain_code hn) hfs ?_
      simp only [List.size_toArray, List.length_cons, List.length_nil, Nat.reduceAdd, Nat.zero_add, List.range, List.range.loop]
      refine Reach.val plain_prog (.slice (some ⟨b, off, none⟩) xs.length cap2) (plain_code hn) hfs rfl rfl (by decide) (fun τ d => by simp [go_sem, execOp, Act.eval]) ?_
      walk_nrm
      refine Reach.val plain_prog (.int .i64 xs.length) (plain_code hn) hfs rfl rfl (by decide) (fun τ d => by simp [go_sem, execOp, Act.eval]) ?_
      walk_nrm
      refine Reach.val plain_prog (.int .i64 ((xs.length - 1 : Nat) : Int)) (plain_code hn) hfs rfl rfl (by decide) (fun τ d => by simp [go_sem, execOp, Act.eval, hw1]) ?_
      walk_nrm
      refine Reach.val plain_prog (.slice (some ⟨b, off, none⟩) (xs.length - 1) cap2) (plain_code hn) hfs rfl rfl (by decide) (fun τ d => by simp [go_sem, execOp, Act.eval, hs1, hs2]) ?_
      walk_nrm
      refine Reach.val plain_prog (.int .i64 z) (plain_code hn) hfs rfl rfl (by decide) (fun τ d => by simp [go_sem, execOp, Act.eval]) ?_
      walk_nrm
      refine Reach.call plain_prog (f := 8) (args := #[.slice (some ⟨b, off, none⟩) (xs.length - 1) cap2, .int .i64 z]) (plain_code hn) hfs rfl rfl (by decide) (fun w => by simp [go_sem, execOp, Act.eval]) (sub_ways xs z (xs.length - 1) w3 o3.ints (hvt _ (by omega) (by omega)) hzr (by omega) (by omega)) ?_
      rintro _ w4 ⟨rfl, hb4⟩
      walk_nrm
      refine Reach.val plain_prog (.int .i64 (wyV (xs.take (xs.length - 1)) z)) (plain_code hn) hfs rfl rfl (by decide) (fun τ d => by simp [go_sem, execOp, Act.eval]) ?_
      walk_nrm
      refine Reach.regionEnd plain_prog (plain_code hn) hfs ?_
      exact Reach.here fun d => ⟨_, rfl, ⟨_, _, _, _, _, _, _, _, _, _, rfl⟩, (b3.trans (hb4.mono b3.size)).on _ _, own_on (own_belX o3 hb4) _ _⟩
    have hl1 : xs.length = 1 := by omega
    refine Reach.region plain_prog (plain_code (plain_code hn)) hfs ?_
    simp only [List.size_toArray, List.length_cons, List.length_nil, Nat.reduceAdd, Nat.zero_add, List.range, List.range.loop]
    refine Reach.val plain_prog (.int .i64 xs.length) (plain_code (plain_code hn)) hfs rfl rfl (by decide) (fun τ d => by simp [go_sem, execOp, Act.eval]) ?_
    walk_nrm
    refine Reach.val plain_prog (.bool false) (plain_code (plain_code hn)) hfs rfl rfl (by decide) (fun τ d => by simp [go_sem, execOp, Act.eval, h1]) ?_
    walk_nrm
    refine Reach.regionEnd plain_prog (plain_code (plain_code hn)) hfs ?_
    refine Reach.cond plain_prog false rfl (plain_code hn) hfs ?_
    simp only [Bool.false_eq_true, if_false]
    refine Reach.seq plain_prog (plain_code hn) hfs ?_
    by_cases hz0 : z = 0
    · have hwy : wyV (xs.take (xs.length - 1)) z = 1 := by rw [hl1, hz0]; rfl
      refine Reach.region plain_prog (plain_code (plain_code hn)) hfs ?_
      simp only [List.size_toArray, List.length_cons, List.length_nil, Nat.reduceAdd, Nat.zero_add, List.range, List.range.loop]
      refine Reach.val plain_prog (.int .i64 z) (plain_code (plain_code hn)) hfs rfl rfl (by decide) (fun τ d => by simp [go_sem, execOp, Act.eval]) ?_
      walk_nrm
      refine Reach.val plain_prog (.bool true) (plain_code (plain_code hn)) hfs rfl rfl (by decide) (fun τ d => by simp [go_sem, execOp, Act.eval, hz0]) ?_
      walk_nrm
      refine Reach.regionEnd plain_prog (plain_code (plain_code hn)) hfs ?_
      refine Reach.cond plain_prog true rfl (plain_code hn) hfs ?_
      simp only [if_true]
      refine Reach.region plain_prog (plain_code hn) hfs ?_
      simp only [List.size_toArray, List.length_cons, List.length_nil, Nat.zero_add, List.range, List.range.loop]
      refine Reach.val plain_prog (.int .i64 1) (plain_code hn) hfs rfl rfl (by decide) (fun τ d => by simp [go_sem, execOp, Act.eval]) ?_
      walk_nrm
      refine Reach.regionEnd plain_prog (plain_code hn) hfs ?_
      exact Reach.here fun d => ⟨_, rfl, ⟨_, _, _, _, _, _, _, _, _, _, by rw [hwy]⟩, b3.on _ _, own_on o3 _ _⟩
    have hwy : wyV (xs.take (xs.length - 1)) z = 0 := by rw [hl1]; exact if_neg hz0
    refine Reach.region plain_prog (plain_code (plain_code hn)) hfs ?_
    simp only [List.size_toArray, List.length_cons, List.length_nil, Nat.reduceAdd, Nat.zero_add, List.range, List.range.loop]
    refine Reach.val plain_prog (.int .i64 z) (plain_code (plain_code hn)) hfs rfl rfl (by decide) (fun τ d => by simp [go_sem, execOp, Act.eval]) ?_
    walk_nrm
    refine Reach.val plain_prog (.bool false) (plain_code (plain_code hn)) hfs rfl rfl (by decide) (fun τ d => by simp [go_sem, execOp, Act.eval, hz0]) ?_
    walk_nrm
    refine Reach.regionEnd plain_prog (plain_code (plain_code hn)) hfs ?_
    refine Reach.cond plain_prog false rfl (plain_code hn) hfs ?_
    simp only [Bool.false_eq_true, if_false]
    refine Reach.skip plain_prog (plain_code hn) hfs ?_
    exact Reach.here fun d => ⟨_, rfl, ⟨_, _, _, _, _, _, _, _, _, _, by rw [hwy]⟩, b3.on _ _, own_on o3 _ _⟩
  rintro _ w4 ⟨⟨x38, x39, x40, x41, x42, x43, x44, x45, x46, x47, rfl⟩, b4, o4⟩
  clear b1 b2 b3 o1 o2 o3 hb2 hb3
  have hc4 := ints_cell o4.ints (j := xs.length - 1) (by omega)
  have hge := vc_at hvc (i := xs.length - 1) (by omega)
  have hsn : xs.take (xs.length - 1) ++ [xs.getD (xs.length - 1) 0] = xs := by rw [← take_snoc xs (by omega), Nat.sub_add_cancel (by omega), List.take_length]
  generalize hlast : xs.getD (xs.length - 1) 0 = gr at *
  refine Reach.seqThen plain_prog (fun a' w' => (∃ x48 x49 x50 x51 x52 x53 x54 x55 x56 x57 x58 x59 x60 x61 x62 x63 x64 x65, a' = ⟨#[(.slice a n cap), undef, (.bool false), (.slice (some ⟨b, off, none⟩) xs.length cap2), (.int .i64 z), (.int .i64 (waysV xs z)), (.int .i64 xs.length), (.int .i64 (wyV xs z)), undef, undef, undef, (.slice a n cap), (.int .i64 (n : Int)), (.bool false), (.tuple #[.slice (some ⟨b, off, none⟩) xs.length cap2, .int .i64 z]), (.slice a n cap), (.tuple #[.slice (some ⟨b, off, none⟩) xs.length cap2, .int .i64 z]), (.slice (some ⟨b, off, none⟩) xs.length cap2), (.int .i64 z), (.slice (some ⟨b, off, none⟩) xs.length cap2), (.int .i64 z), (.int .i64 (waysV xs z)), (.int .i64 (waysV xs z)), (.slice (some ⟨b, off, none⟩) xs.length cap2), (.int .i64 z), (.int .i64 (waysV xs z)), (.bool false), (.bool false), (.int .i64 (waysV xs z)), (.bool false), (.bool false), undef, undef, undef, undef, undef, (.slice (some ⟨b, off, none⟩) xs.length cap2), (.int .i64 xs.length), x38, x39, x40, x41, x42, x43, x44, x45, x46, x47, x48, x49, x50, x51, x52, x53, x54, x55, x56, x57, x58, x59, x60, x61, x62, x63, x64, x65, undef, undef, undef, undef, undef, undef, undef, undef, undef, undef, undef, undef, undef, undef, undef, undef], []⟩) ∧ BelX w.heap.size w w' ∧ Own w' w.heap.size (.slice (some ⟨b, off, none⟩) xs.length cap2) xs) hn hfs ?_ ?_
  · refine Reach.seq plain_prog (plain_code hn) hfs ?_
    by_cases hzg : gr ≤ z
    · refine Reach.region plain_prog (plain_code (plain_code hn)) hfs ?_
      simp only [List.size_toArray, List.length_cons, List.length_nil, Nat.reduceAdd, Nat.zero_add, List.range, List.range.loop]
      refine Reach.val plain_prog (.int .i64 z) (plain_code (plain_code hn)) hfs rfl rfl (by decide) (fun τ d => by simp [go_sem, execOp, Act.eval]) ?_
      walk_nrm
      refine Reach.val plain_prog (.slice (some ⟨b, off, none⟩) xs.length cap2) (plain_code (plain_code hn)) hfs rfl rfl (by decide) (fun τ d => by simp [go_sem, execOp, Act.eval]) ?_
      walk_nrm
      refine Reach.val plain_prog (.int .i64 xs.length) (plain_code (plain_code hn)) hfs rfl rfl (by decide) (fun τ d => by simp [go_sem, execOp, Act.eval]) ?_
      walk_nrm
      refine Reach.val plain_prog (.int .i64 ((xs.length - 1 : Nat) : Int)) (plain_code (plain_code hn)) hfs rfl rfl (by decide) (fun τ d => by simp [go_sem, execOp, Act.eval, hw1]) ?_
      walk_nrm
      refine Reach.val plain_prog (.pointer (some ⟨b, off + (xs.length - 1), none⟩)) (plain_code (plain_code hn)) hfs rfl rfl (by decide) (fun τ d => by simp [go_sem, execOp, Act.eval, hlt1]) ?_
      walk_nrm
      refine Reach.val plain_prog (.int .i64 gr) (plain_code (plain_code hn)) hfs rfl rfl (by decide) (fun τ d => by simp [go_sem, execOp, Act.eval, on_cell, hc4]) ?_
      walk_nrm
      refine Reach.val plain_prog (.bool true) (plain_code (plain_code hn)) hfs rfl rfl (by decide) (fun τ d => by simp [go_sem, execOp, Act.eval, hzg]) ?_
      walk_nrm
      refine Reach.regionEnd plain_prog (plain_code (plain_code hn)) hfs ?_
      refine Reach.cond plain_prog true rfl (plain_code hn) hfs ?_
      simp only [if_true]
      have hw2 : IntKind.i64.wrap (z - gr) = z - gr := IntWalk.i64_in _ ⟨by omega, by omega⟩
      have hsum : wyV xs z = wyV (xs.take (xs.length - 1)) z + wyV xs (z - gr) := by have := wy_snoc (P := xs.take (xs.length - 1)) hzg hge.1; rw [hsn] at this; exact this
      have hw3 : IntKind.i64.wrap (wyV (xs.take (xs.length - 1)) z + wyV xs (z - gr)) = wyV xs z := by rw [← hsum]; exact IntWalk.i64_in _ ⟨by have := wy_nonneg xs z; omega, by have := wy_le (vc_pos hvc) hlen.2 hzr.2; omega⟩
      refine Reach.region plain_prog (plain_code hn) hfs ?_
      simp only [List.size_toArray, List.length_cons, List.length_nil, Nat.reduceAdd, Nat.zero_add, List.range, List.range.loop]
      refine Reach.val plain_prog (.int .i64 (wyV (xs.take (xs.length - 1)) z)) (plain_code hn) hfs rfl rfl (by decide) (fun τ d => by simp [go_sem, execOp, Act.eval]) ?_
      walk_nrm
      refine Reach.val plain_prog (.slice (some ⟨b, off, none⟩) xs.length cap2) (plain_code hn) hfs rfl rfl (by decide) (fun τ d => by simp [go_sem, execOp, Act.eval]) ?_
      walk_nrm
      refine Reach.val plain_prog (.int .i64 z) (plain_code hn) hfs rfl rfl (by decide) (fun τ d => by simp [go_sem, execOp, Act.eval]) ?_
      walk_nrm
      refine Reach.val plain_prog (.slice (some ⟨b, off, none⟩) xs.length cap2) (plain_code hn) hfs rfl rfl (by decide) (fun τ d => by simp [go_sem, execOp, Act.eval]) ?_
      walk_nrm
      refine Reach.val plain_prog (.int .i64 xs.length) (plain_code hn) hfs rfl rfl (by decide) (fun τ d => by simp [go_sem, execOp, Act.eval]) ?_
      walk_nrm
      refine Reach.val plain_prog (.int .i64 ((xs.length - 1 : Nat) : Int)) (plain_code hn) hfs rfl rfl (by decide) (fun τ d => by simp [go_sem, execOp, Act.eval, hw1]) ?_
      walk_nrm
      refine Reach.val plain_prog (.pointer (some ⟨b, off + (xs.length - 1), none⟩)) (plain_code hn) hfs rfl rfl (by decide) (fun τ d => by simp [go_sem, execOp, Act.eval, hlt1]) ?_
      walk_nrm
      refine Reach.val plain_prog (.int .i64 gr) (plain_code hn) hfs rfl rfl (by decide) (fun τ d => by simp [go_sem, execOp, Act.eval, on_cell, hc4]) ?_
      walk_nrm
      refine Reach.val plain_prog (.int .i64 (z - gr)) (plain_code hn) hfs rfl rfl (by decide) (fun τ d => by simp [go_sem, execOp, Act.eval, hw2]) ?_
      walk_nrm
      refine Reach.call plain_prog (f := 8) (args := #[.slice (some ⟨b, off, none⟩) xs.length cap2, .int .i64 (z - gr)]) (plain_code hn) hfs rfl rfl (by decide) (fun w => by simp [go_sem, execOp, Act.eval]) (all_ways xs (z - gr) w4 o4.ints hvc ⟨by omega, by omega⟩ hcp) ?_
      rintro _ w5 ⟨rfl, hb5⟩
      walk_nrm
      refine Reach.val plain_prog (.int .i64 (wyV xs z)) (plain_code hn) hfs rfl rfl (by decide) (fun τ d => by simp [go_sem, execOp, Act.eval, hw3]) ?_
      walk_nrm
      refine Reach.val plain_prog (.int .i64 (wyV xs z)) (plain_code hn) hfs rfl rfl (by decide) (fun τ d => by simp [go_sem, execOp, Act.eval]) ?_
      walk_nrm
      refine Reach.regionEnd plain_prog (plain_code hn) hfs ?_
      exact Reach.here fun d => ⟨_, rfl, ⟨_, _, _, _, _, _, _, _, _, _, _, _, _, _, _, _, _, _, rfl⟩, (b4.trans (hb5.mono b4.size)).on _ _, own_on (own_belX o4 hb5) _ _⟩
    have hwy : wyV xs z = wyV (xs.take (xs.length - 1)) z := by have := wy_snoc_less (P := xs.take (xs.length - 1)) (show z < gr by omega) hge.1; rw [hsn] at this; exact this
    refine Reach.region plain_prog (plain_code (plain_code hn)) hfs ?_
    simp only [List.size_toArray, List.length_cons, List.length_nil, Nat.reduceAdd, Nat.zero_add, List.range, List.range.loop]
    refine Reach.val plain_prog (.int .i64 z) (plain_code (plain_code hn)) hfs rfl rfl (by decide) (fun τ d => by simp [go_sem, execOp, Act.eval]) ?_
    walk_nrm
    refine Reach.val plain_prog (.slice (some ⟨b, off, none⟩) xs.length cap2) (plain_code (plain_code hn)) hfs rfl rfl (by decide) (fun τ d => by simp [go_sem, execOp, Act.eval]) ?_
    walk_nrm
    refine Reach.val plain_prog (.int .i64 xs.length) (plain_code (plain_code hn)) hfs rfl rfl (by decide) (fun τ d => by simp [go_sem, execOp, Act.eval]) ?_
    walk_nrm
    refine Reach.val plain_prog (.int .i64 ((xs.length - 1 : Nat) : Int)) (plain_code (plain_code hn)) hfs rfl rfl (by decide) (fun τ d => by simp [go_sem, execOp, Act.eval, hw1]) ?_
    walk_nrm
    refine Reach.val plain_prog (.pointer (some ⟨b, off + (xs.length - 1), none⟩)) (plain_code (plain_code hn)) hfs rfl rfl (by decide) (fun τ d => by simp [go_sem, execOp, Act.eval, hlt1]) ?_
    walk_nrm
    refine Reach.val plain_prog (.int .i64 gr) (plain_code (plain_code hn)) hfs rfl rfl (by decide) (fun τ d => by simp [go_sem, execOp, Act.eval, on_cell, hc4]) ?_
    walk_nrm
    refine Reach.val plain_prog (.bool false) (plain_code (plain_code hn)) hfs rfl rfl (by decide) (fun τ d => by simp [go_sem, execOp, Act.eval, hzg]) ?_
    walk_nrm
    refine Reach.regionEnd plain_prog (plain_code (plain_code hn)) hfs ?_
    refine Reach.cond plain_prog false rfl (plain_code hn) hfs ?_
    simp only [Bool.false_eq_true, if_false]
    refine Reach.skip plain_prog (plain_code hn) hfs ?_
    exact Reach.here fun d => ⟨_, rfl, ⟨_, _, _, _, _, _, _, _, _, _, _, _, _, _, _, _, _, _, by rw [hwy]⟩, b4.on _ _, own_on o4 _ _⟩
  rintro _ w6 ⟨⟨x48, x49, x50, x51, x52, x53, x54, x55, x56, x57, x58, x59, x60, x61, x62, x63, x64, x65, rfl⟩, b6, o6⟩
  refine Reach.seq plain_prog hn hfs ?_
  refine Reach.region plain_prog (plain_code hn) hfs ?_
  simp only [List.size_toArray, List.length_cons, List.length_nil, Nat.reduceAdd, Nat.zero_add, List.range, List.range.loop]
  refine Reach.val plain_prog (.slice (some ⟨b, off, none⟩) xs.length cap2) (plain_code hn) hfs rfl rfl (by decide) (fun τ d => by simp [go_sem, execOp, Act.eval]) ?_
  walk_nrm
  refine Reach.val plain_prog (.int .i64 z) (plain_code hn) hfs rfl rfl (by decide) (fun τ d => by simp [go_sem, execOp, Act.eval]) ?_
  walk_nrm
  refine Reach.call plain_prog (f := 10) (args := #[.slice (some ⟨b, off, none⟩) xs.length cap2, .int .i64 z]) (plain_code hn) hfs rfl rfl (by decide) (fun w => by simp [go_sem, execOp, Act.eval]) (few_B _ xs z w6 o6.ints (by omega)) ?_
  rintro _ w7 ⟨v7, rfl, hb7⟩
  walk_nrm
  have b7 : BelX w.heap.size w w7 := b6.trans (hb7.mono b6.size)
  refine Reach.val plain_prog (.tuple #[.int .i64 (fewN xs z), v7, .bool (cFew xs z)]) (plain_code hn) hfs rfl rfl (by decide) (fun τ d => by simp [go_sem, execOp, Act.eval]) ?_
  walk_nrm
  refine Reach.val plain_prog (.int .i64 (fewN xs z)) (plain_code hn) hfs rfl rfl (by decide) (fun τ d => by simp [go_sem, execOp, Act.eval]) ?_
  walk_nrm
  refine Reach.val plain_prog (v7) (plain_code hn) hfs rfl rfl (by decide) (fun τ d => by simp [go_sem, execOp, Act.eval]) ?_
  walk_nrm
  refine Reach.val plain_prog (.bool (cFew xs z)) (plain_code hn) hfs rfl rfl (by decide) (fun τ d => by simp [go_sem, execOp, Act.eval]) ?_
  walk_nrm
  refine Reach.val plain_prog (.int .i64 (fewN xs z)) (plain_code hn) hfs rfl rfl (by decide) (fun τ d => by simp [go_sem, execOp, Act.eval]) ?_
  walk_nrm
  refine Reach.val plain_prog (v7) (plain_code hn) hfs rfl rfl (by decide) (fun τ d => by simp [go_sem, execOp, Act.eval]) ?_
  walk_nrm
  refine Reach.val plain_prog (.bool (cFew xs z)) (plain_code hn) hfs rfl rfl (by decide) (fun τ d => by simp [go_sem, execOp, Act.eval]) ?_
  walk_nrm
  refine Reach.regionEnd plain_prog (plain_code hn) hfs ?_
  have hfw : cFew xs z = decide (0 < wyV xs z) := by unfold cFew; rw [hvc]; simp [inR, hzr, wy_pos_iff (vc_pos hvc)]
  refine Reach.seq plain_prog hn hfs ?_
  refine Reach.region plain_prog (plain_code hn) hfs ?_
  simp only [List.size_toArray, List.length_cons, List.length_nil, Nat.reduceAdd, Nat.zero_add, List.range, List.range.loop]
  refine Reach.val plain_prog (.int .i64 (waysV xs z)) (plain_code hn) hfs rfl rfl (by decide) (fun τ d => by simp [go_sem, execOp, Act.eval]) ?_
  walk_nrm
  refine Reach.val plain_prog (.int .i64 (wyV xs z)) (plain_code hn) hfs rfl rfl (by decide) (fun τ d => by simp [go_sem, execOp, Act.eval]) ?_
  walk_nrm
  refine Reach.val plain_prog (.bool true) (plain_code hn) hfs rfl rfl (by decide) (fun τ d => by simp [go_sem, execOp, Act.eval, hwv]) ?_
  walk_nrm
  refine Reach.val plain_prog (.bool true) (plain_code hn) hfs rfl rfl (by decide) (fun τ d => by simp [go_sem, execOp, Act.eval]) ?_
  walk_nrm
  refine Reach.val plain_prog (.bool (cFew xs z)) (plain_code hn) hfs rfl rfl (by decide) (fun τ d => by simp [go_sem, execOp, Act.eval]) ?_
  walk_nrm
  refine Reach.val plain_prog (.int .i64 (waysV xs z)) (plain_code hn) hfs rfl rfl (by decide) (fun τ d => by simp [go_sem, execOp, Act.eval]) ?_
  walk_nrm
  refine Reach.val plain_prog (.bool (decide (0 < wyV xs z))) (plain_code hn) hfs rfl rfl (by decide) (fun τ d => by simp [go_sem, execOp, Act.eval, hwv]) ?_
  walk_nrm
  refine Reach.val plain_prog (.bool true) (plain_code hn) hfs rfl rfl (by decide) (fun τ d => by simp [go_sem, execOp, Act.eval, hfw]) ?_
  walk_nrm
  refine Reach.val plain_prog (.bool true) (plain_code hn) hfs rfl rfl (by decide) (fun τ d => by simp [go_sem, execOp, Act.eval]) ?_
  walk_nrm
  refine Reach.val plain_prog (.bool true) (plain_code hn) hfs rfl rfl (by decide) (fun τ d => by simp [go_sem, execOp, Act.eval]) ?_
  walk_nrm
  refine Reach.regionEnd plain_prog (plain_code hn) hfs ?_
  refine Reach.ret plain_prog hn hfs ?_
  exact Reach.here fun d => ⟨_, .bool true, rfl, rfl, ⟨rfl, rfl, rfl, _, Try.func3, by simp [results, Try.f3, Frame.at]⟩, plain_code hn, rfl, b7.on _ _⟩
end Go.Proofs.Ytkhmooemgjichaa
