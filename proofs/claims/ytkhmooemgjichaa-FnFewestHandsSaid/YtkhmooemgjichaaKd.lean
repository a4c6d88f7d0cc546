/- The law FnFewestHands, beside others that only leave. -/
import Derived.Test.YtkhmooemgjichaaKc
import Derived.Test.YtkhmooemgjichaaHy
namespace Go.Proofs.Ytkhmooemgjichaa
open Go Go.Conc Go.RowKit

set_option maxRecDepth 100000 in
set_option maxHeartbeats 8000000 in
theorem FnFewestHands_B (a : Option Addr) (n cap : Nat) (w : World) (h : IsBytes w a n) (hc : n ≤ cap) :
    CallsB Try.prog 6 #[.slice a n cap] w fun x w' => x = .bool true ∧ BelX w.heap.size w w' := by
  intro fs hfs
  rw [enter_bN _ Try.func6 rfl]
  simp only [Try.ntmps6, List.size_toArray, List.length_cons, List.length_nil, Nat.reduceAdd, Nat.reduceSub, Array.replicate_succ, Array.replicate_zero, List.push_toArray, List.append_toArray, List.nil_append, List.cons_append]
  have hn := PlainT.nil
  refine Reach.seq plain_prog hn hfs ?_
  refine Reach.region plain_prog (plain_code hn) hfs ?_
  simp only [List.size_toArray, List.length_cons, List.length_nil, Nat.zero_add, List.range, List.range.loop]
  refine Reach.val plain_prog (.bool false) (plain_code hn) hfs rfl rfl (by decide) (fun τ d => by simp [go_sem, execOp, Act.eval]) ?_
  walk_nrm
  refine Reach.regionEnd plain_prog (plain_code hn) hfs ?_
  refine Reach.seq plain_prog hn hfs ?_
  refine Reach.seq plain_prog (plain_code hn) hfs ?_
  by_cases hbig : (1048576 : Int) < (n : Int)
  · refine Reach.region plain_prog (plain_code (plain_code hn)) hfs ?_
    simp only [List.size_toArray, List.length_cons, List.length_nil, Nat.reduceAdd, Nat.zero_add, List.range, List.range.loop]
    refine Reach.val plain_prog (.slice a n cap) (plain_code (plain_code hn)) hfs rfl rfl (by decide) (fun τ d => by simp [go_sem, execOp, Act.eval]) ?_
    walk_nrm
    refine Reach.val plain_prog (.int .i64 (n : Int)) (plain_code (plain_code hn)) hfs rfl rfl (by decide) (fun τ d => by simp [go_sem, execOp, Act.eval]) ?_
    walk_nrm
    refine Reach.val plain_prog (.bool true) (plain_code (plain_code hn)) hfs rfl rfl (by decide) (fun τ d => by simp [go_sem, execOp, Act.eval, hbig]) ?_
    walk_nrm
    refine Reach.regionEnd plain_prog (plain_code (plain_code hn)) hfs ?_
    refine Reach.cond plain_prog true rfl (plain_code hn) hfs ?_
    simp only [if_true]
    refine Reach.seq plain_prog (plain_code hn) hfs ?_
    refine Reach.region plain_prog (plain_code (plain_code hn)) hfs ?_
    simp only [List.size_toArray, List.length_cons, List.length_nil, Nat.zero_add, List.range, List.range.loop]
    refine Reach.val plain_prog (.bool true) (plain_code (plain_code hn)) hfs rfl rfl (by decide) (fun τ d => by simp [go_sem, execOp, Act.eval]) ?_
    walk_nrm
    refine Reach.regionEnd plain_prog (plain_code (plain_code hn)) hfs ?_
    refine Reach.ret plain_prog (plain_code hn) hfs ?_
    exact Reach.here fun d => ⟨_, .bool true, rfl, rfl, ⟨rfl, rfl, rfl, _, Try.func6, by simp [results, Try.f6, Frame.at]⟩, plain_code (plain_code hn), rfl, (BelX.refl _ _).on _ _⟩
  refine Reach.region plain_prog (plain_code (plain_code hn)) hfs ?_
  simp only [List.size_toArray, List.length_cons, List.length_nil, Nat.reduceAdd, Nat.zero_add, List.range, List.range.loop]
  refine Reach.val plain_prog (.slice a n cap) (plain_code (plain_code hn)) hfs rfl rfl (by decide) (fun τ d => by simp [go_sem, execOp, Act.eval]) ?_
  walk_nrm
  refine Reach.val plain_prog (.int .i64 (n : Int)) (plain_code (plain_code hn)) hfs rfl rfl (by decide) (fun τ d => by simp [go_sem, execOp, Act.eval]) ?_
  walk_nrm
  refine Reach.val plain_prog (.bool false) (plain_code (plain_code hn)) hfs rfl rfl (by decide) (fun τ d => by simp [go_sem, execOp, Act.eval, hbig]) ?_
  walk_nrm
  refine Reach.regionEnd plain_prog (plain_code (plain_code hn)) hfs ?_
  refine Reach.cond plain_prog false rfl (plain_code hn) hfs ?_
  simp only [Bool.false_eq_true, if_false]
  refine Reach.skip plain_prog (plain_code hn) hfs ?_
  refine Reach.seq plain_prog hn hfs ?_
  refine Reach.region plain_prog (plain_code hn) hfs ?_
  simp only [List.size_toArray, List.length_cons, List.length_nil, Nat.reduceAdd, Nat.zero_add, List.range, List.range.loop]
  refine Reach.val plain_prog (.slice a n cap) (plain_code hn) hfs rfl rfl (by decide) (fun τ d => by simp [go_sem, execOp, Act.eval]) ?_
  walk_nrm
  refine Reach.call plain_prog (f := 16) (args := #[.slice a n cap]) (plain_code hn) hfs rfl rfl (by decide) (fun w => by simp [go_sem, execOp, Act.eval]) (drawHands_B a n cap w h hc) ?_
  rintro _ w1 ⟨v, xs, z, rfl, o1, hl6, hz, b1⟩
  walk_nrm
  refine Reach.val plain_prog (.tuple #[v, .int .i64 z]) (plain_code hn) hfs rfl rfl (by decide) (fun τ d => by simp [go_sem, execOp, Act.eval]) ?_
  walk_nrm
  refine Reach.val plain_prog (v) (plain_code hn) hfs rfl rfl (by decide) (fun τ d => by simp [go_sem, execOp, Act.eval]) ?_
  walk_nrm
  refine Reach.val plain_prog (.int .i64 z) (plain_code hn) hfs rfl rfl (by decide) (fun τ d => by simp [go_sem, execOp, Act.eval]) ?_
  walk_nrm
  refine Reach.val plain_prog (v) (plain_code hn) hfs rfl rfl (by decide) (fun τ d => by simp [go_sem, execOp, Act.eval]) ?_
  walk_nrm
  refine Reach.val plain_prog (.int .i64 z) (plain_code hn) hfs rfl rfl (by decide) (fun τ d => by simp [go_sem, execOp, Act.eval]) ?_
  walk_nrm
  refine Reach.regionEnd plain_prog (plain_code hn) hfs ?_
  refine Reach.seq plain_prog hn hfs ?_
  refine Reach.region plain_prog (plain_code hn) hfs ?_
  simp only [List.size_toArray, List.length_cons, List.length_nil, Nat.reduceAdd, Nat.zero_add, List.range, List.range.loop]
  refine Reach.val plain_prog (v) (plain_code hn) hfs rfl rfl (by decide) (fun τ d => by simp [go_sem, execOp, Act.eval]) ?_
  walk_nrm
  refine Reach.val plain_prog (.int .i64 z) (plain_code hn) hfs rfl rfl (by decide) (fun τ d => by simp [go_sem, execOp, Act.eval]) ?_
  walk_nrm
  refine Reach.call plain_prog (f := 17) (args := #[v, .int .i64 z]) (plain_code hn) hfs rfl rfl (by decide) (fun w => by simp [go_sem, execOp, Act.eval]) (hands_B v xs z w1 o1.ints (by omega)) ?_
  rintro _ w2 ⟨rfl, hb2⟩
  walk_nrm
  have b2 : BelX w.heap.size w w2 := b1.trans (hb2.mono b1.size)
  have o2 := own_belX o1 hb2
  refine Reach.val plain_prog (.tuple #[.int .i64 (handV xs z), .bool (cHand xs z)]) (plain_code hn) hfs rfl rfl (by decide) (fun τ d => by simp [go_sem, execOp, Act.eval]) ?_
  walk_nrm
  refine Reach.val plain_prog (.int .i64 (handV xs z)) (plain_code hn) hfs rfl rfl (by decide) (fun τ d => by simp [go_sem, execOp, Act.eval]) ?_
  walk_nrm
  refine Reach.val plain_prog (.bool (cHand xs z)) (plain_code hn) hfs rfl rfl (by decide) (fun τ d => by simp [go_sem, execOp, Act.eval]) ?_
  walk_nrm
  refine Reach.val plain_prog (.int .i64 (handV xs z)) (plain_code hn) hfs rfl rfl (by decide) (fun τ d => by simp [go_sem, execOp, Act.eval]) ?_
  walk_nrm
  refine Reach.val plain_prog (.bool (cHand xs z)) (plain_code hn) hfs rfl rfl (by decide) (fun τ d => by simp [go_sem, execOp, Act.eval]) ?_
  walk_nrm
  refine Reach.regionEnd plain_prog (plain_code hn) hfs ?_
  refine Reach.seq plain_prog hn hfs ?_
  refine Reach.region plain_prog (plain_code hn) hfs ?_
  simp only [List.size_toArray, List.length_cons, List.length_nil, Nat.reduceAdd, Nat.zero_add, List.range, List.range.loop]
  refine Reach.val plain_prog (v) (plain_code hn) hfs rfl rfl (by decide) (fun τ d => by simp [go_sem, execOp, Act.eval]) ?_
  walk_nrm
  refine Reach.val plain_prog (.int .i64 z) (plain_code hn) hfs rfl rfl (by decide) (fun τ d => by simp [go_sem, execOp, Act.eval]) ?_
  walk_nrm
  refine Reach.call plain_prog (f := 18) (args := #[v, .int .i64 z]) (plain_code hn) hfs rfl rfl (by decide) (fun w => by simp [go_sem, execOp, Act.eval]) (handsSpec_B v xs z w2 o2.ints (by omega)) ?_
  rintro _ w3 ⟨rfl, hb3⟩
  walk_nrm
  have b3 : BelX w.heap.size w w3 := b2.trans (hb3.mono b2.size)
  have o3 := own_belX o2 hb3
  refine Reach.val plain_prog (.tuple #[.int .i64 (handV xs z), .bool (cHand xs z)]) (plain_code hn) hfs rfl rfl (by decide) (fun τ d => by simp [go_sem, execOp, Act.eval]) ?_
  walk_nrm
  refine Reach.val plain_prog (.int .i64 (handV xs z)) (plain_code hn) hfs rfl rfl (by decide) (fun τ d => by simp [go_sem, execOp, Act.eval]) ?_
  walk_nrm
  refine Reach.val plain_prog (.bool (cHand xs z)) (plain_code hn) hfs rfl rfl (by decide) (fun τ d => by simp [go_sem, execOp, Act.eval]) ?_
  walk_nrm
  refine Reach.val plain_prog (.int .i64 (handV xs z)) (plain_code hn) hfs rfl rfl (by decide) (fun τ d => by simp [go_sem, execOp, Act.eval]) ?_
  walk_nrm
  refine Reach.val plain_prog (.bool (cHand xs z)) (plain_code hn) hfs rfl rfl (by decide) (fun τ d => by simp [go_sem, execOp, Act.eval]) ?_
  walk_nrm
  refine Reach.regionEnd plain_prog (plain_code hn) hfs ?_
  refine Reach.seq plain_prog hn hfs ?_
  refine Reach.seq plain_prog (plain_code hn) hfs ?_
  by_cases hneg : waysV xs z < 0
  · refine Reach.region plain_prog (plain_code (plain_code hn)) hfs ?_
    simp only [List.size_toArray, List.length_cons, List.length_nil, Nat.reduceAdd, Nat.zero_add, List.range, List.range.loop]
    refine Reach.val plain_prog (.int .i64 (handV xs z)) (plain_code (plain_code hn)) hfs rfl rfl (by decide) (fun τ d => by simp [go_sem, execOp, Act.eval]) ?_
    walk_nrm
    refine Reach.val plain_prog (.int .i64 (handV xs z)) (plain_code (plain_code hn)) hfs rfl rfl (by decide) (fun τ d => by simp [go_sem, execOp, Act.eval]) ?_
    walk_nrm
    refine Reach.val plain_prog (.bool false) (plain_code (plain_code hn)) hfs rfl rfl (by decide) (fun τ d => by simp [go_sem, execOp, Act.eval]) ?_
    walk_nrm
    refine Reach.val plain_prog (.bool false) (plain_code (plain_code hn)) hfs rfl rfl (by decide) (fun τ d => by simp [go_sem, execOp, Act.eval]) ?_
    walk_nrm
    refine Reach.val plain_prog (.bool (cHand xs z)) (plain_code (plain_code hn)) hfs rfl rfl (by decide) (fun τ d => by simp [go_sem, execOp, Act.eval]) ?_
    walk_nrm
    refine Reach.val plain_prog (.bool (cHand xs z)) (plain_code (plain_code hn)) hfs rfl rfl (by decide) (fun τ d => by simp [go_sem, execOp, Act.eval]) ?_
    walk_nrm
    refine Reach.val plain_prog (.bool false) (plain_code (plain_code hn)) hfs rfl rfl (by decide) (fun τ d => by simp [go_sem, execOp, Act.eval]) ?_
    walk_nrm
    refine Reach.val plain_prog (.bool false) (plain_code (plain_code hn)) hfs rfl rfl (by decide) (fun τ d => by simp [go_sem, execOp, Act.eval]) ?_
    walk_nrm
    refine Reach.val plain_prog (.bool false) (plain_code (plain_code hn)) hfs rfl rfl (by decide) (fun τ d => by simp [go_sem, execOp, Act.eval]) ?_
    walk_nrm
    refine Reach.val plain_prog (v) (plain_code (plain_code hn)) hfs rfl rfl (by decide) (fun τ d => by simp [go_sem, execOp, Act.eval]) ?_
    walk_nrm
    refine Reach.val plain_prog (.int .i64 z) (plain_code (plain_code hn)) hfs rfl rfl (by decide) (fun τ d => by simp [go_sem, execOp, Act.eval]) ?_
    walk_nrm
    refine Reach.call plain_prog (f := 8) (args := #[v, .int .i64 z]) (plain_code (plain_code hn)) hfs rfl rfl (by decide) (fun w => by simp [go_sem, execOp, Act.eval]) (WaysOf_any v xs z w3 o3.ints (by omega) (own_cap2 o3)) ?_
    rintro _ w4 ⟨rfl, hb4⟩
    walk_nrm
    have b4 : BelX w.heap.size w w4 := b3.trans (hb4.mono b3.size)
    have o4 := own_belX o3 hb4
    refine Reach.val plain_prog (.bool true) (plain_code (plain_code hn)) hfs rfl rfl (by decide) (fun τ d => by simp [go_sem, execOp, Act.eval, hneg]) ?_
    walk_nrm
    refine Reach.val plain_prog (.bool true) (plain_code (plain_code hn)) hfs rfl rfl (by decide) (fun τ d => by simp [go_sem, execOp, Act.eval]) ?_
    walk_nrm
    refine Reach.regionEnd plain_prog (plain_code (plain_code hn)) hfs ?_
    refine Reach.cond plain_prog true rfl (plain_code hn) hfs ?_
    simp only [if_true]
    refine Reach.seq plain_prog (plain_code hn) hfs ?_
    refine Reach.region plain_prog (plain_code (plain_code hn)) hfs ?_
    simp only [List.size_toArray, List.length_cons, List.length_nil, Nat.reduceAdd, Nat.zero_add, List.range, List.range.loop]
    refine Reach.val plain_prog (.int .i64 (handV xs z)) (plain_code (plain_code hn)) hfs rfl rfl (by decide) (fun τ d => by simp [go_sem, execOp, Act.eval]) ?_
    walk_nrm
    refine Reach.val plain_prog (.int .i64 (handV xs z)) (plain_code (plain_code hn)) hfs rfl rfl (by decide) (fun τ d => by simp [go_sem, execOp, Act.eval]) ?_
    walk_nrm
    refine Reach.val plain_prog (.bool true) (plain_code (plain_code hn)) hfs rfl rfl (by decide) (fun τ d => by simp [go_sem, execOp, Act.eval]) ?_
    walk_nrm
    refine Reach.val plain_prog (.bool true) (plain_code (plain_code hn)) hfs rfl rfl (by decide) (fun τ d => by simp [go_sem, execOp, Act.eval]) ?_
    walk_nrm
    refine Reach.val plain_prog (.bool (cHand xs z)) (plain_code (plain_code hn)) hfs rfl rfl (by decide) (fun τ d => by simp [go_sem, execOp, Act.eval]) ?_
    walk_nrm
    refine Reach.val plain_prog (.bool (cHand xs z)) (plain_code (plain_code hn)) hfs rfl rfl (by decide) (fun τ d => by simp [go_sem, execOp, Act.eval]) ?_
    walk_nrm
    refine Reach.val plain_prog (.bool true) (plain_code (plain_code hn)) hfs rfl rfl (by decide) (fun τ d => by simp [go_sem, execOp, Act.eval]) ?_
    walk_nrm
    refine Reach.val plain_prog (.bool true) (plain_code (plain_code hn)) hfs rfl rfl (by decide) (fun τ d => by simp [go_sem, execOp, Act.eval]) ?_
    walk_nrm
    refine Reach.val plain_prog (.bool true) (plain_code (plain_code hn)) hfs rfl rfl (by decide) (fun τ d => by simp [go_sem, execOp, Act.eval]) ?_
    walk_nrm
    refine Reach.regionEnd plain_prog (plain_code (plain_code hn)) hfs ?_
    refine Reach.ret plain_prog (plain_code hn) hfs ?_
    exact Reach.here fun d => ⟨_, .bool true, rfl, rfl, ⟨rfl, rfl, rfl, _, Try.func6, by simp [results, Try.f6, Frame.at]⟩, plain_code (plain_code hn), rfl, b4.on _ _⟩
  obtain ⟨hvc, hzr, _⟩ := ways_in hneg
  have hlen := vc_len hvc
  refine Reach.region plain_prog (plain_code (plain_code hn)) hfs ?_
  simp only [List.size_toArray, List.length_cons, List.length_nil, Nat.reduceAdd, Nat.zero_add, List.range, List.range.loop]
  refine Reach.val plain_prog (.int .i64 (handV xs z)) (plain_code (plain_code hn)) hfs rfl rfl (by decide) (fun τ d => by simp [go_sem, execOp, Act.eval]) ?_
  walk_nrm
  refine Reach.val plain_prog (.int .i64 (handV xs z)) (plain_code (plain_code hn)) hfs rfl rfl (by decide) (fun τ d => by simp [go_sem, execOp, Act.eval]) ?_
  walk_nrm
  refine Reach.val plain_prog (.bool false) (plain_code (plain_code hn)) hfs rfl rfl (by decide) (fun τ d => by simp [go_sem, execOp, Act.eval]) ?_
  walk_nrm
  refine Reach.val plain_prog (.bool false) (plain_code (plain_code hn)) hfs rfl rfl (by decide) (fun τ d => by simp [go_sem, execOp, Act.eval]) ?_
  walk_nrm
  refine Reach.val plain_prog (.bool (cHand xs z)) (plain_code (plain_code hn)) hfs rfl rfl (by decide) (fun τ d => by simp [go_sem, execOp, Act.eval]) ?_
  walk_nrm
  refine Reach.val plain_prog (.bool (cHand xs z)) (plain_code (plain_code hn)) hfs rfl rfl (by decide) (fun τ d => by simp [go_sem, execOp, Act.eval]) ?_
  walk_nrm
  refine Reach.val plain_prog (.bool false) (plain_code (plain_code hn)) hfs rfl rfl (by decide) (fun τ d => by simp [go_sem, execOp, Act.eval]) ?_
  walk_nrm
  refine Reach.val plain_prog (.bool false) (plain_code (plain_code hn)) hfs rfl rfl (by decide) (fun τ d => by simp [go_sem, execOp, Act.eval]) ?_
  walk_nrm
  refine Reach.val plain_prog (.bool false) (plain_code (plain_code hn)) hfs rfl rfl (by decide) (fun τ d => by simp [go_sem, execOp, Act.eval]) ?_
  walk_nrm
  refine Reach.val plain_prog (v) (plain_code (plain_code hn)) hfs rfl rfl (by decide) (fun τ d => by simp [go_sem, execOp, Act.eval]) ?_
  walk_nrm
  refine Reach.val plain_prog (.int .i64 z) (plain_code (plain_code hn)) hfs rfl rfl (by decide) (fun τ d => by simp [go_sem, execOp, Act.eval]) ?_
  walk_nrm
  refine Reach.call plain_prog (f := 8) (args := #[v, .int .i64 z]) (plain_code (plain_code hn)) hfs rfl rfl (by decide) (fun w => by simp [go_sem, execOp, Act.eval]) (WaysOf_any v xs z w3 o3.ints (by omega) (own_cap2 o3)) ?_
  rintro _ w4 ⟨rfl, hb4⟩
  walk_nrm
  have b4 : BelX w.heap.size w w4 := b3.trans (hb4.mono b3.size)
  have o4 := own_belX o3 hb4
  refine Reach.val plain_prog (.bool false) (plain_code (plain_code hn)) hfs rfl rfl (by decide) (fun τ d => by simp [go_sem, execOp, Act.eval, hneg]) ?_
  walk_nrm
  refine Reach.val plain_prog (.bool false) (plain_code (plain_code hn)) hfs rfl rfl (by decide) (fun τ d => by simp [go_sem, execOp, Act.eval]) ?_
  walk_nrm
  refine Reach.regionEnd plain_prog (plain_code (plain_code hn)) hfs ?_
  refine Reach.cond plain_prog false rfl (plain_code hn) hfs ?_
  simp only [Bool.false_eq_true, if_false]
  refine Reach.skip plain_prog (plain_code hn) hfs ?_
  obtain ⟨b, off, cap2, rfl, hblt, _⟩ := o4.ints.at0 hlen.1
  clear b1 b2 b3 o1 o2 o3 hb2 hb3 hb4
  refine Reach.seq plain_prog hn hfs ?_
  refine Reach.region plain_prog (plain_code hn) hfs ?_
  simp only [List.size_toArray, List.length_cons, List.length_nil, Nat.zero_add, List.range, List.range.loop]
  refine Reach.val plain_prog (.int .i64 0) (plain_code hn) hfs rfl rfl (by decide) (fun τ d => by simp [go_sem, execOp, Act.eval]) ?_
  walk_nrm
  refine Reach.regionEnd plain_prog (plain_code hn) hfs ?_
  refine Reach.seqThen plain_prog (fun a' w' => (∃ x10 x56 x57 x58 x59 x60 x61 x62 x63 x64 x65 x66 x67, a' = ⟨#[(.slice a n cap), undef, (.bool false), (.slice (some ⟨b, off, none⟩) xs.length cap2), (.int .i64 z), (.int .i64 (handV xs z)), (.bool (cHand xs z)), (.int .i64 (handV xs z)), (.bool (cHand xs z)), (.int .i64 (gcdL xs)), x10, undef, undef, undef, (.slice a n cap), (.int .i64 (n : Int)), (.bool false), (.tuple #[.slice (some ⟨b, off, none⟩) xs.length cap2, .int .i64 z]), (.slice a n cap), (.tuple #[.slice (some ⟨b, off, none⟩) xs.length cap2, .int .i64 z]), (.slice (some ⟨b, off, none⟩) xs.length cap2), (.int .i64 z), (.tuple #[.int .i64 (handV xs z), .bool (cHand xs z)]), (.slice (some ⟨b, off, none⟩) xs.length cap2), (.int .i64 z), (.tuple #[.int .i64 (handV xs z), .bool (cHand xs z)]), (.int .i64 (handV xs z)), (.bool (cHand xs z)), (.tuple #[.int .i64 (handV xs z), .bool (cHand xs z)]), (.slice (some ⟨b, off, none⟩) xs.length cap2), (.int .i64 z), (.tuple #[.int .i64 (handV xs z), .bool (cHand xs z)]), (.int .i64 (handV xs z)), (.bool (cHand xs z)), (.int .i64 (handV xs z)), (.int .i64 (handV xs z)), (.bool false), (.bool false), (.bool (cHand xs z)), (.bool (cHand xs z)), (.bool false), (.bool false), (.bool false), (.slice (some ⟨b, off, none⟩) xs.length cap2), (.int .i64 z), (.int .i64 (waysV xs z)), (.bool false), (.bool false), undef, undef, undef, undef, undef, undef, undef, undef, x56, x57, x58, x59, x60, x61, x62, x63, x64, x65, x66, x67, undef, undef, undef, undef, undef, undef, undef, undef, undef, undef, undef, undef, undef, undef, undef, undef, undef, undef, undef, undef, undef, undef, undef, undef, undef, undef, undef, undef, undef, undef, undef, undef, undef], []⟩) ∧ BelX w.heap.size w w' ∧ Own w' w.heap.size (.slice (some ⟨b, off, none⟩) xs.length cap2) xs) hn hfs ?_ ?_
  · refine Reach.seq plain_prog (plain_code hn) hfs ?_
    refine Reach.region plain_prog (plain_code (plain_code hn)) hfs ?_
    simp only [List.size_toArray, List.length_cons, List.length_nil, Nat.zero_add, List.range, List.range.loop]
    refine Reach.val plain_prog (.int .i64 0) (plain_code (plain_code hn)) hfs rfl rfl (by decide) (fun τ d => by simp [go_sem, execOp, Act.eval]) ?_
    walk_nrm
    refine Reach.regionEnd plain_prog (plain_code (plain_code hn)) hfs ?_
    refine Reach.block plain_prog (plain_code hn) hfs ?_
    refine Reach.loop plain_prog (n := xs.length) (fun m a' w' => ∃ i : Nat, i ≤ xs.length ∧ m = xs.length - i ∧ (∃ x56 x57 x58 x59 x60 x61 x62 x63 x64 x65 x66 x67, a' = ⟨#[(.slice a n cap), undef, (.bool false), (.slice (some ⟨b, off, none⟩) xs.length cap2), (.int .i64 z), (.int .i64 (handV xs z)), (.bool (cHand xs z)), (.int .i64 (handV xs z)), (.bool (cHand xs z)), (.int .i64 (gcdL (xs.take i))), (.int .i64 (i : Int)), undef, undef, undef, (.slice a n cap), (.int .i64 (n : Int)), (.bool false), (.tuple #[.slice (some ⟨b, off, none⟩) xs.length cap2, .int .i64 z]), (.slice a n cap), (.tuple #[.slice (some ⟨b, off, none⟩) xs.length cap2, .int .i64 z]), (.slice (some ⟨b, off, none⟩) xs.length cap2), (.int .i64 z), (.tuple #[.int .i64 (handV xs z), .bool (cHand xs z)]), (.slice (some ⟨b, off, none⟩) xs.length cap2), (.int .i64 z), (.tuple #[.int .i64 (handV xs z), .bool (cHand xs z)]), (.int .i64 (handV xs z)), (.bool (cHand xs z)), (.tuple #[.int .i64 (handV xs z), .bool (cHand xs z)]), (.slice (some ⟨b, off, none⟩) xs.length cap2), (.int .i64 z), (.tuple #[.int .i64 (handV xs z), .bool (cHand xs z)]), (.int .i64 (handV xs z)), (.bool (cHand xs z)), (.int .i64 (handV xs z)), (.int .i64 (handV xs z)), (.bool false), (.bool false), (.bool (cHand xs z)), (.bool (cHand xs z)), (.bool false), (.bool false), (.bool false), (.slice (some ⟨b, off, none⟩) xs.length cap2), (.int .i64 z), (.int .i64 (waysV xs z)), (.bool false), (.bool false), undef, undef, undef, undef, undef, undef, undef, undef, x56, x57, x58, x59, x60, x61, x62, x63, x64, x65, x66, x67, undef, undef, undef, undef, undef, undef, undef, undef, undef, undef, undef, undef, undef, undef, undef, undef, undef, undef, undef, undef, undef, undef, undef, undef, undef, undef, undef, undef, undef, undef, undef, undef, undef], []⟩) ∧ BelX w.heap.size w w' ∧ Own w' w.heap.size (.slice (some ⟨b, off, none⟩) xs.length cap2) xs) (plain_item (x := .inBlock 0) trivial (plain_code hn)) hfs ?_ ⟨0, Nat.zero_le _, rfl, ⟨_, _, _, _, _, _, _, _, _, _, _, _, rfl⟩, b4, o4⟩
    rintro m _ w5 ⟨i, hi, rfl, ⟨x56, x57, x58, x59, x60, x61, x62, x63, x64, x65, x66, x67, rfl⟩, b5, o5⟩ hk ih
    refine Reach.seq plain_prog hk hfs ?_
    refine Reach.seq plain_prog (plain_code hk) hfs ?_
    by_cases hlt : (i : Int) < (xs.length : Int)
    · refine Reach.region plain_prog (plain_code (plain_code hk)) hfs ?_
      simp only [List.size_toArray, List.length_cons, List.length_nil, Nat.reduceAdd, Nat.zero_add, List.range, List.range.loop]
      refine Reach.val plain_prog (.int .i64 (i : Int)) (plain_code (plain_code hk)) hfs rfl rfl (by decide) (fun τ d => by simp [go_sem, execOp, Act.eval]) ?_
      walk_nrm
      refine Reach.val plain_prog (.slice (some ⟨b, off, none⟩) xs.length cap2) (plain_code (plain_code hk)) hfs rfl rfl (by decide) (fun τ d => by simp [go_sem, execOp, Act.eval]) ?_
      walk_nrm
      refine Reach.val plain_prog (.int .i64 (xs.length : Int)) (plain_code (plain_code hk)) hfs rfl rfl (by decide) (fun τ d => by simp [go_sem, execOp, Act.eval]) ?_
      walk_nrm
      refine Reach.val plain_prog (.bool true) (plain_code (plain_code hk)) hfs rfl rfl (by decide) (fun τ d => by simp [go_sem, execOp, Act.eval, hlt]) ?_
      walk_nrm
      refine Reach.regionEnd plain_prog (plain_code (plain_code hk)) hfs ?_
      refine Reach.cond plain_prog true rfl (plain_code hk) hfs ?_
      simp only [if_true]
      refine Reach.skip plain_prog (plain_code hk) hfs ?_
      refine Reach.seq plain_prog hk hfs ?_
      refine Reach.block plain_prog (plain_code hk) hfs ?_
      have hc5 := ints_cell o5.ints (j := i) (by omega)
      have hlt1 : ¬ (xs.length ≤ i) := by omega
      refine Reach.region plain_prog (plain_item (x := .inBlock 1) trivial (plain_code hk)) hfs ?_
      simp only [List.size_toArray, List.length_cons, List.length_nil, Nat.reduceAdd, Nat.zero_add, List.range, List.range.loop]
      refine Reach.val plain_prog (.slice (some ⟨b, off, none⟩) xs.length cap2) (plain_item (x := .inBlock 1) trivial (plain_code hk)) hfs rfl rfl (by decide) (fun τ d => by simp [go_sem, execOp, Act.eval]) ?_
      walk_nrm
      refine Reach.val plain_prog (.int .i64 (i : Int)) (plain_item (x := .inBlock 1) trivial (plain_code hk)) hfs rfl rfl (by decide) (fun τ d => by simp [go_sem, execOp, Act.eval]) ?_
      walk_nrm
      refine Reach.val plain_prog (.pointer (some ⟨b, off + i, none⟩)) (plain_item (x := .inBlock 1) trivial (plain_code hk)) hfs rfl rfl (by decide) (fun τ d => by simp [go_sem, execOp, Act.eval, hlt1]) ?_
      walk_nrm
      refine Reach.val plain_prog (.int .i64 (xs.getD i 0)) (plain_item (x := .inBlock 1) trivial (plain_code hk)) hfs rfl rfl (by decide) (fun τ d => by simp [go_sem, execOp, Act.eval, on_cell, hc5]) ?_
      walk_nrm
      refine Reach.val plain_prog (.int .i64 (gcdL (xs.take i))) (plain_item (x := .inBlock 1) trivial (plain_code hk)) hfs rfl rfl (by decide) (fun τ d => by simp [go_sem, execOp, Act.eval]) ?_
      walk_nrm
      refine Reach.call plain_prog (f := 19) (args := #[.int .i64 (xs.getD i 0), .int .i64 (gcdL (xs.take i))]) (plain_item (x := .inBlock 1) trivial (plain_code hk)) hfs rfl rfl (by decide) (fun w => by simp [go_sem, execOp, Act.eval]) (divisor_B xs i w5 hvc (by omega)) ?_
      rintro _ w6 ⟨rfl, hb6⟩
      walk_nrm
      refine Reach.val plain_prog (.int .i64 (gcdL (xs.take (i + 1)))) (plain_item (x := .inBlock 1) trivial (plain_code hk)) hfs rfl rfl (by decide) (fun τ d => by simp [go_sem, execOp, Act.eval]) ?_
      walk_nrm
      refine Reach.regionEnd plain_prog (plain_item (x := .inBlock 1) trivial (plain_code hk)) hfs ?_
      refine Reach.inBlock plain_prog (plain_item (x := .inBlock 1) trivial (plain_code hk)) hfs ?_
      have hw1 : IntKind.i64.wrap ((i : Int) + 1) = ((i + 1 : Nat) : Int) := by rw [IntWalk.i64_in _ ⟨by omega, by omega⟩]; omega
      refine Reach.region plain_prog hk hfs ?_
      simp only [List.size_toArray, List.length_cons, List.length_nil, Nat.reduceAdd, Nat.zero_add, List.range, List.range.loop]
      refine Reach.val plain_prog (.int .i64 (i : Int)) hk hfs rfl rfl (by decide) (fun τ d => by simp [go_sem, execOp, Act.eval]) ?_
      walk_nrm
      refine Reach.val plain_prog (.int .i64 ((i + 1 : Nat) : Int)) hk hfs rfl rfl (by decide) (fun τ d => by simp [go_sem, execOp, Act.eval, hw1]) ?_
      walk_nrm
      refine Reach.val plain_prog (.int .i64 ((i + 1 : Nat) : Int)) hk hfs rfl rfl (by decide) (fun τ d => by simp [go_sem, execOp, Act.eval]) ?_
      walk_nrm
      refine Reach.regionEnd plain_prog hk hfs ?_
      exact ih (xs.length - (i + 1)) _ w6 (by omega) ⟨i + 1, by omega, rfl, ⟨_, _, _, _, _, _, _, _, _, _, _, _, rfl⟩, b5.trans (hb6.mono b5.size), own_belX o5 hb6⟩
    refine Reach.region plain_prog (plain_code (plain_code hk)) hfs ?_
    simp only [List.size_toArray, List.length_cons, List.length_nil, Nat.reduceAdd, Nat.zero_add, List.range, List.range.loop]
    refine Reach.val plain_prog (.int .i64 (i : Int)) (plain_code (plain_code hk)) hfs rfl rfl (by decide) (fun τ d => by simp [go_sem, execOp, Act.eval]) ?_
    walk_nrm
    refine Reach.val plain_prog (.slice (some ⟨b, off, none⟩) xs.length cap2) (plain_code (plain_code hk)) hfs rfl rfl (by decide) (fun τ d => by simp [go_sem, execOp, Act.eval]) ?_
    walk_nrm
    refine Reach.val plain_prog (.int .i64 (xs.length : Int)) (plain_code (plain_code hk)) hfs rfl rfl (by decide) (fun τ d => by simp [go_sem, execOp, Act.eval]) ?_
    walk_nrm
    refine Reach.val plain_prog (.bool false) (plain_code (plain_code hk)) hfs rfl rfl (by decide) (fun τ d => by simp [go_sem, execOp, Act.eval, hlt]) ?_
    walk_nrm
    refine Reach.regionEnd plain_prog (plain_code (plain_code hk)) hfs ?_
    refine Reach.cond plain_prog false rfl (plain_code hk) hfs ?_
    simp only [Bool.false_eq_true, if_false]
    refine Reach.exit plain_prog rfl (plain_code hk) hfs ?_
    have hil : xs.take i = xs := List.take_of_length_le (by omega)
    exact Reach.here fun d => ⟨_, rfl, ⟨_, _, _, _, _, _, _, _, _, _, _, _, _, by rw [hil]⟩, b5.on _ _, own_on o5 _ _⟩
  rintro _ w7 ⟨⟨x10, x56, x57, x58, x59, x60, x61, x62, x63, x64, x65, x66, x67, rfl⟩, b7, o7⟩
  refine Reach.seq plain_prog hn hfs ?_
  refine Reach.region plain_prog (plain_code hn) hfs ?_
  simp only [List.size_toArray, List.length_cons, List.length_nil, Nat.reduceAdd, Nat.zero_add, List.range, List.range.loop]
  refine Reach.val plain_prog (.slice (some ⟨b, off, none⟩) xs.length cap2) (plain_code hn) hfs rfl rfl (by decide) (fun τ d => by simp [go_sem, execOp, Act.eval]) ?_
  walk_nrm
  refine Reach.val plain_prog (.int .i64 z) (plain_code hn) hfs rfl rfl (by decide) (fun τ d => by simp [go_sem, execOp, Act.eval]) ?_
  walk_nrm
  refine Reach.call plain_prog (f := 10) (args := #[.slice (some ⟨b, off, none⟩) xs.length cap2, .int .i64 z]) (plain_code hn) hfs rfl rfl (by decide) (fun w => by simp [go_sem, execOp, Act.eval]) (few_B _ xs z w7 o7.ints (by omega)) ?_
  rintro _ w8 ⟨v8, rfl, hb8⟩
  walk_nrm
  have b8 : BelX w.heap.size w w8 := b7.trans (hb8.mono b7.size)
  refine Reach.val plain_prog (.tuple #[.int .i64 (fewN xs z), v8, .bool (cFew xs z)]) (plain_code hn) hfs rfl rfl (by decide) (fun τ d => by simp [go_sem, execOp, Act.eval]) ?_
  walk_nrm
  refine Reach.val plain_prog (.int .i64 (fewN xs z)) (plain_code hn) hfs rfl rfl (by decide) (fun τ d => by simp [go_sem, execOp, Act.eval]) ?_
  walk_nrm
  refine Reach.val plain_prog (v8) (plain_code hn) hfs rfl rfl (by decide) (fun τ d => by simp [go_sem, execOp, Act.eval]) ?_
  walk_nrm
  refine Reach.val plain_prog (.bool (cFew xs z)) (plain_code hn) hfs rfl rfl (by decide) (fun τ d => by simp [go_sem, execOp, Act.eval]) ?_
  walk_nrm
  refine Reach.val plain_prog (.int .i64 (fewN xs z)) (plain_code hn) hfs rfl rfl (by decide) (fun τ d => by simp [go_sem, execOp, Act.eval]) ?_
  walk_nrm
  refine Reach.val plain_prog (v8) (plain_code hn) hfs rfl rfl (by decide) (fun τ d => by simp [go_sem, execOp, Act.eval]) ?_
  walk_nrm
  refine Reach.val plain_prog (.bool (cFew xs z)) (plain_code hn) hfs rfl rfl (by decide) (fun τ d => by simp [go_sem, execOp, Act.eval]) ?_
  walk_nrm
  refine Reach.regionEnd plain_prog (plain_code hn) hfs ?_
  obtain ⟨hh, hle, h0⟩ := hand_facts hvc hzr
  have hg1 := gcdL_pos (vc_pos hvc) (fun e => by rw [e] at hlen; simp at hlen)
  have hg0 : gcdL xs ≠ 0 := by omega
  have hrem : z.tmod (gcdL xs) = z % gcdL xs := Int.tmod_eq_emod_of_nonneg hzr.1
  have hdv : (z % gcdL xs = 0) ↔ cHand xs z = true := by rw [hh, Int.dvd_iff_emod_eq_zero]
  have hr0 := Int.emod_nonneg z hg0
  have hr1 := Int.emod_lt_of_pos z (show 0 < gcdL xs by omega)
  refine Reach.seq plain_prog hn hfs ?_
  cases hH : cHand xs z <;> cases hF : cFew xs z
  · rw [hH] at hdv h0
    rw [hF] at hle
    have hz0 : ¬ (z % gcdL xs = 0) := by simpa using hdv
    refine Reach.region plain_prog (plain_code hn) hfs ?_
    simp only [List.size_toArray, List.length_cons, List.length_nil, Nat.reduceAdd, Nat.zero_add, List.range, List.range.loop]
    refine Reach.val plain_prog (.bool false) (plain_code hn) hfs rfl rfl (by decide) (fun τ d => by simp [go_sem, execOp, Act.eval]) ?_
    walk_nrm
    refine Reach.val plain_prog (.int .i64 z) (plain_code hn) hfs rfl rfl (by decide) (fun τ d => by simp [go_sem, execOp, Act.eval]) ?_
    walk_nrm
    refine Reach.val plain_prog (.int .i64 (gcdL xs)) (plain_code hn) hfs rfl rfl (by decide) (fun τ d => by simp [go_sem, execOp, Act.eval]) ?_
    walk_nrm
    refine Reach.val plain_prog (.int .i64 (z % gcdL xs)) (plain_code hn) hfs rfl rfl (by decide) (fun τ d => by simp [go_sem, execOp, Act.eval, hg0, hrem]) ?_
    walk_nrm
    refine Reach.val plain_prog (.bool false) (plain_code hn) hfs rfl rfl (by decide) (fun τ d => by simp [go_sem, execOp, Act.eval, hz0]) ?_
    walk_nrm
    refine Reach.val plain_prog (.bool true) (plain_code hn) hfs rfl rfl (by decide) (fun τ d => by simp [go_sem, execOp, Act.eval]) ?_
    walk_nrm
    refine Reach.val plain_prog (.bool true) (plain_code hn) hfs rfl rfl (by decide) (fun τ d => by simp [go_sem, execOp, Act.eval]) ?_
    walk_nrm
    refine Reach.val plain_prog (.bool false) (plain_code hn) hfs rfl rfl (by decide) (fun τ d => by simp [go_sem, execOp, Act.eval]) ?_
    walk_nrm
    refine Reach.val plain_prog (.bool true) (plain_code hn) hfs rfl rfl (by decide) (fun τ d => by simp [go_sem, execOp, Act.eval]) ?_
    walk_nrm
    refine Reach.val plain_prog (.bool true) (plain_code hn) hfs rfl rfl (by decide) (fun τ d => by simp [go_sem, execOp, Act.eval]) ?_
    walk_nrm
    refine Reach.unwanted plain_prog (plain_code hn) hfs rfl rfl ?_
    walk_nrm
    refine Reach.unwanted plain_prog (plain_code hn) hfs rfl rfl ?_
    walk_nrm
    refine Reach.unwanted plain_prog (plain_code hn) hfs rfl rfl ?_
    walk_nrm
    refine Reach.val plain_prog (.bool true) (plain_code hn) hfs rfl rfl (by decide) (fun τ d => by simp [go_sem, execOp, Act.eval]) ?_
    walk_nrm
    refine Reach.val plain_prog (.bool true) (plain_code hn) hfs rfl rfl (by decide) (fun τ d => by simp [go_sem, execOp, Act.eval]) ?_
    walk_nrm
    refine Reach.val plain_prog (.bool true) (plain_code hn) hfs rfl rfl (by decide) (fun τ d => by simp [go_sem, execOp, Act.eval]) ?_
    walk_nrm
    refine Reach.val plain_prog (.bool false) (plain_code hn) hfs rfl rfl (by decide) (fun τ d => by simp [go_sem, execOp, Act.eval]) ?_
    walk_nrm
    refine Reach.val plain_prog (.bool true) (plain_code hn) hfs rfl rfl (by decide) (fun τ d => by simp [go_sem, execOp, Act.eval]) ?_
    walk_nrm
    refine Reach.val plain_prog (.bool true) (plain_code hn) hfs rfl rfl (by decide) (fun τ d => by simp [go_sem, execOp, Act.eval]) ?_
    walk_nrm
    refine Reach.unwanted plain_prog (plain_code hn) hfs rfl rfl ?_
    walk_nrm
    refine Reach.unwanted plain_prog (plain_code hn) hfs rfl rfl ?_
    walk_nrm
    refine Reach.unwanted plain_prog (plain_code hn) hfs rfl rfl ?_
    walk_nrm
    refine Reach.unwanted plain_prog (plain_code hn) hfs rfl rfl ?_
    walk_nrm
    refine Reach.unwanted plain_prog (plain_code hn) hfs rfl rfl ?_
    walk_nrm
    refine Reach.val plain_prog (.bool true) (plain_code hn) hfs rfl rfl (by decide) (fun τ d => by simp [go_sem, execOp, Act.eval]) ?_
    walk_nrm
    refine Reach.val plain_prog (.bool true) (plain_code hn) hfs rfl rfl (by decide) (fun τ d => by simp [go_sem, execOp, Act.eval]) ?_
    walk_nrm
    refine Reach.val plain_prog (.bool true) (plain_code hn) hfs rfl rfl (by decide) (fun τ d => by simp [go_sem, execOp, Act.eval]) ?_
    walk_nrm
    refine Reach.regionEnd plain_prog (plain_code hn) hfs ?_
    refine Reach.ret plain_prog hn hfs ?_
    exact Reach.here fun d => ⟨_, .bool true, rfl, rfl, ⟨rfl, rfl, rfl, _, Try.func6, by simp [results, Try.f6, Frame.at]⟩, plain_code hn, rfl, b8.on _ _⟩
  · rw [hH] at hdv h0
    rw [hF] at hle
    have hz0 : ¬ (z % gcdL xs = 0) := by simpa using hdv
    refine Reach.region plain_prog (plain_code hn) hfs ?_
    simp only [List.size_toArray, List.length_cons, List.length_nil, Nat.reduceAdd, Nat.zero_add, List.range, List.range.loop]
    refine Reach.val plain_prog (.bool false) (plain_code hn) hfs rfl rfl (by decide) (fun τ d => by simp [go_sem, execOp, Act.eval]) ?_
    walk_nrm
    refine Reach.val plain_prog (.int .i64 z) (plain_code hn) hfs rfl rfl (by decide) (fun τ d => by simp [go_sem, execOp, Act.eval]) ?_
    walk_nrm
    refine Reach.val plain_prog (.int .i64 (gcdL xs)) (plain_code hn) hfs rfl rfl (by decide) (fun τ d => by simp [go_sem, execOp, Act.eval]) ?_
    walk_nrm
    refine Reach.val plain_prog (.int .i64 (z % gcdL xs)) (plain_code hn) hfs rfl rfl (by decide) (fun τ d => by simp [go_sem, execOp, Act.eval, hg0, hrem]) ?_
    walk_nrm
    refine Reach.val plain_prog (.bool false) (plain_code hn) hfs rfl rfl (by decide) (fun τ d => by simp [go_sem, execOp, Act.eval, hz0]) ?_
    walk_nrm
    refine Reach.val plain_prog (.bool true) (plain_code hn) hfs rfl rfl (by decide) (fun τ d => by simp [go_sem, execOp, Act.eval]) ?_
    walk_nrm
    refine Reach.val plain_prog (.bool true) (plain_code hn) hfs rfl rfl (by decide) (fun τ d => by simp [go_sem, execOp, Act.eval]) ?_
    walk_nrm
    refine Reach.val plain_prog (.bool true) (plain_code hn) hfs rfl rfl (by decide) (fun τ d => by simp [go_sem, execOp, Act.eval]) ?_
    walk_nrm
    refine Reach.val plain_prog (.bool false) (plain_code hn) hfs rfl rfl (by decide) (fun τ d => by simp [go_sem, execOp, Act.eval]) ?_
    walk_nrm
    refine Reach.val plain_prog (.bool false) (plain_code hn) hfs rfl rfl (by decide) (fun τ d => by simp [go_sem, execOp, Act.eval]) ?_
    walk_nrm
    refine Reach.val plain_prog (.int .i64 (handV xs z)) (plain_code hn) hfs rfl rfl (by decide) (fun τ d => by simp [go_sem, execOp, Act.eval]) ?_
    walk_nrm
    refine Reach.val plain_prog (.int .i64 (fewN xs z)) (plain_code hn) hfs rfl rfl (by decide) (fun τ d => by simp [go_sem, execOp, Act.eval]) ?_
    walk_nrm
    refine Reach.val plain_prog (.bool true) (plain_code hn) hfs rfl rfl (by decide) (fun τ d => by simp [go_sem, execOp, Act.eval, hle rfl]) ?_
    walk_nrm
    refine Reach.val plain_prog (.bool true) (plain_code hn) hfs rfl rfl (by decide) (fun τ d => by simp [go_sem, execOp, Act.eval]) ?_
    walk_nrm
    refine Reach.val plain_prog (.bool true) (plain_code hn) hfs rfl rfl (by decide) (fun τ d => by simp [go_sem, execOp, Act.eval]) ?_
    walk_nrm
    refine Reach.val plain_prog (.bool true) (plain_code hn) hfs rfl rfl (by decide) (fun τ d => by simp [go_sem, execOp, Act.eval]) ?_
    walk_nrm
    refine Reach.val plain_prog (.bool false) (plain_code hn) hfs rfl rfl (by decide) (fun τ d => by simp [go_sem, execOp, Act.eval]) ?_
    walk_nrm
    refine Reach.val plain_prog (.bool true) (plain_code hn) hfs rfl rfl (by decide) (fun τ d => by simp [go_sem, execOp, Act.eval]) ?_
    walk_nrm
    refine Reach.val plain_prog (.bool true) (plain_code hn) hfs rfl rfl (by decide) (fun τ d => by simp [go_sem, execOp, Act.eval]) ?_
    walk_nrm
    refine Reach.unwanted plain_prog (plain_code hn) hfs rfl rfl ?_
    walk_nrm
    refine Reach.unwanted plain_prog (plain_code hn) hfs rfl rfl ?_
    walk_nrm
    refine Reach.unwanted plain_prog (plain_code hn) hfs rfl rfl ?_
    walk_nrm
    refine Reach.unwanted plain_prog (plain_code hn) hfs rfl rfl ?_
    walk_nrm
    refine Reach.unwanted plain_prog (plain_code hn) hfs rfl rfl ?_
    walk_nrm
    refine Reach.val plain_prog (.bool true) (plain_code hn) hfs rfl rfl (by decide) (fun τ d => by simp [go_sem, execOp, Act.eval]) ?_
    walk_nrm
    refine Reach.val plain_prog (.bool true) (plain_code hn) hfs rfl rfl (by decide) (fun τ d => by simp [go_sem, execOp, Act.eval]) ?_
    walk_nrm
    refine Reach.val plain_prog (.bool true) (plain_code hn) hfs rfl rfl (by decide) (fun τ d => by simp [go_sem, execOp, Act.eval]) ?_
    walk_nrm
    refine Reach.regionEnd plain_prog (plain_code hn) hfs ?_
    refine Reach.ret plain_prog hn hfs ?_
    exact Reach.here fun d => ⟨_, .bool true, rfl, rfl, ⟨rfl, rfl, rfl, _, Try.func6, by simp [results, Try.f6, Frame.at]⟩, plain_code hn, rfl, b8.on _ _⟩
  · rw [hH] at hdv h0
    rw [hF] at hle
    have hz0 : z % gcdL xs = 0 := by simpa using hdv
    have h00 : (handV xs z == 0) = (z == 0) := by rw [Bool.eq_iff_iff]; simp [h0 rfl]
    refine Reach.region plain_prog (plain_code hn) hfs ?_
    simp only [List.size_toArray, List.length_cons, List.length_nil, Nat.reduceAdd, Nat.zero_add, List.range, List.range.loop]
    refine Reach.val plain_prog (.bool true) (plain_code hn) hfs rfl rfl (by decide) (fun τ d => by simp [go_sem, execOp, Act.eval]) ?_
    walk_nrm
    refine Reach.val plain_prog (.int .i64 z) (plain_code hn) hfs rfl rfl (by decide) (fun τ d => by simp [go_sem, execOp, Act.eval]) ?_
    walk_nrm
    refine Reach.val plain_prog (.int .i64 (gcdL xs)) (plain_code hn) hfs rfl rfl (by decide) (fun τ d => by simp [go_sem, execOp, Act.eval]) ?_
    walk_nrm
    refine Reach.val plain_prog (.int .i64 (z % gcdL xs)) (plain_code hn) hfs rfl rfl (by decide) (fun τ d => by simp [go_sem, execOp, Act.eval, hg0, hrem]) ?_
    walk_nrm
    refine Reach.val plain_prog (.bool true) (plain_code hn) hfs rfl rfl (by decide) (fun τ d => by simp [go_sem, execOp, Act.eval, hz0]) ?_
    walk_nrm
    refine Reach.val plain_prog (.bool true) (plain_code hn) hfs rfl rfl (by decide) (fun τ d => by simp [go_sem, execOp, Act.eval]) ?_
    walk_nrm
    refine Reach.val plain_prog (.bool true) (plain_code hn) hfs rfl rfl (by decide) (fun τ d => by simp [go_sem, execOp, Act.eval]) ?_
    walk_nrm
    refine Reach.val plain_prog (.bool false) (plain_code hn) hfs rfl rfl (by decide) (fun τ d => by simp [go_sem, execOp, Act.eval]) ?_
    walk_nrm
    refine Reach.val plain_prog (.bool true) (plain_code hn) hfs rfl rfl (by decide) (fun τ d => by simp [go_sem, execOp, Act.eval]) ?_
    walk_nrm
    refine Reach.val plain_prog (.bool true) (plain_code hn) hfs rfl rfl (by decide) (fun τ d => by simp [go_sem, execOp, Act.eval]) ?_
    walk_nrm
    refine Reach.unwanted plain_prog (plain_code hn) hfs rfl rfl ?_
    walk_nrm
    refine Reach.unwanted plain_prog (plain_code hn) hfs rfl rfl ?_
    walk_nrm
    refine Reach.unwanted plain_prog (plain_code hn) hfs rfl rfl ?_
    walk_nrm
    refine Reach.val plain_prog (.bool true) (plain_code hn) hfs rfl rfl (by decide) (fun τ d => by simp [go_sem, execOp, Act.eval]) ?_
    walk_nrm
    refine Reach.val plain_prog (.bool true) (plain_code hn) hfs rfl rfl (by decide) (fun τ d => by simp [go_sem, execOp, Act.eval]) ?_
    walk_nrm
    refine Reach.val plain_prog (.bool true) (plain_code hn) hfs rfl rfl (by decide) (fun τ d => by simp [go_sem, execOp, Act.eval]) ?_
    walk_nrm
    refine Reach.val plain_prog (.bool true) (plain_code hn) hfs rfl rfl (by decide) (fun τ d => by simp [go_sem, execOp, Act.eval]) ?_
    walk_nrm
    refine Reach.val plain_prog (.bool false) (plain_code hn) hfs rfl rfl (by decide) (fun τ d => by simp [go_sem, execOp, Act.eval]) ?_
    walk_nrm
    refine Reach.val plain_prog (.bool false) (plain_code hn) hfs rfl rfl (by decide) (fun τ d => by simp [go_sem, execOp, Act.eval]) ?_
    walk_nrm
    refine Reach.val plain_prog (.int .i64 (handV xs z)) (plain_code hn) hfs rfl rfl (by decide) (fun τ d => by simp [go_sem, execOp, Act.eval]) ?_
    walk_nrm
    refine Reach.val plain_prog (.bool (handV xs z == 0)) (plain_code hn) hfs rfl rfl (by decide) (fun τ d => by simp [go_sem, execOp, Act.eval]) ?_
    walk_nrm
    refine Reach.val plain_prog (.int .i64 z) (plain_code hn) hfs rfl rfl (by decide) (fun τ d => by simp [go_sem, execOp, Act.eval]) ?_
    walk_nrm
    refine Reach.val plain_prog (.bool (z == 0)) (plain_code hn) hfs rfl rfl (by decide) (fun τ d => by simp [go_sem, execOp, Act.eval]) ?_
    walk_nrm
    refine Reach.val plain_prog (.bool true) (plain_code hn) hfs rfl rfl (by decide) (fun τ d => by simp [go_sem, execOp, Act.eval, h00]) ?_
    walk_nrm
    refine Reach.val plain_prog (.bool true) (plain_code hn) hfs rfl rfl (by decide) (fun τ d => by simp [go_sem, execOp, Act.eval]) ?_
    walk_nrm
    refine Reach.val plain_prog (.bool true) (plain_code hn) hfs rfl rfl (by decide) (fun τ d => by simp [go_sem, execOp, Act.eval]) ?_
    walk_nrm
    refine Reach.val plain_prog (.bool true) (plain_code hn) hfs rfl rfl (by decide) (fun τ d => by simp [go_sem, execOp, Act.eval]) ?_
    walk_nrm
    refine Reach.regionEnd plain_prog (plain_code hn) hfs ?_
    refine Reach.ret plain_prog hn hfs ?_
    exact Reach.here fun d => ⟨_, .bool true, rfl, rfl, ⟨rfl, rfl, rfl, _, Try.func6, by simp [results, Try.f6, Frame.at]⟩, plain_code hn, rfl, b8.on _ _⟩
  · rw [hH] at hdv h0
    rw [hF] at hle
    have hz0 : z % gcdL xs = 0 := by simpa using hdv
    have h00 : (handV xs z == 0) = (z == 0) := by rw [Bool.eq_iff_iff]; simp [h0 rfl]
    refine Reach.region plain_prog (plain_code hn) hfs ?_
    simp only [List.size_toArray, List.length_cons, List.length_nil, Nat.reduceAdd, Nat.zero_add, List.range, List.range.loop]
    refine Reach.val plain_prog (.bool true) (plain_code hn) hfs rfl rfl (by decide) (fun τ d => by simp [go_sem, execOp, Act.eval]) ?_
    walk_nrm
    refine Reach.val plain_prog (.int .i64 z) (plain_code hn) hfs rfl rfl (by decide) (fun τ d => by simp [go_sem, execOp, Act.eval]) ?_
    walk_nrm
    refine Reach.val plain_prog (.int .i64 (gcdL xs)) (plain_code hn) hfs rfl rfl (by decide) (fun τ d => by simp [go_sem, execOp, Act.eval]) ?_
    walk_nrm
    refine Reach.val plain_prog (.int .i64 (z % gcdL xs)) (plain_code hn) hfs rfl rfl (by decide) (fun τ d => by simp [go_sem, execOp, Act.eval, hg0, hrem]) ?_
    walk_nrm
    refine Reach.val plain_prog (.bool true) (plain_code hn) hfs rfl rfl (by decide) (fun τ d => by simp [go_sem, execOp, Act.eval, hz0]) ?_
    walk_nrm
    refine Reach.val plain_prog (.bool true) (plain_code hn) hfs rfl rfl (by decide) (fun τ d => by simp [go_sem, execOp, Act.eval]) ?_
    walk_nrm
    refine Reach.val plain_prog (.bool true) (plain_code hn) hfs rfl rfl (by decide) (fun τ d => by simp [go_sem, execOp, Act.eval]) ?_
    walk_nrm
    refine Reach.val plain_prog (.bool true) (plain_code hn) hfs rfl rfl (by decide) (fun τ d => by simp [go_sem, execOp, Act.eval]) ?_
    walk_nrm
    refine Reach.val plain_prog (.bool false) (plain_code hn) hfs rfl rfl (by decide) (fun τ d => by simp [go_sem, execOp, Act.eval]) ?_
    walk_nrm
    refine Reach.val plain_prog (.bool false) (plain_code hn) hfs rfl rfl (by decide) (fun τ d => by simp [go_sem, execOp, Act.eval]) ?_
    walk_nrm
    refine Reach.val plain_prog (.int .i64 (handV xs z)) (plain_code hn) hfs rfl rfl (by decide) (fun τ d => by simp [go_sem, execOp, Act.eval]) ?_
    walk_nrm
    refine Reach.val plain_prog (.int .i64 (fewN xs z)) (plain_code hn) hfs rfl rfl (by decide) (fun τ d => by simp [go_sem, execOp, Act.eval]) ?_
    walk_nrm
    refine Reach.val plain_prog (.bool true) (plain_code hn) hfs rfl rfl (by decide) (fun τ d => by simp [go_sem, execOp, Act.eval, hle rfl]) ?_
    walk_nrm
    refine Reach.val plain_prog (.bool true) (plain_code hn) hfs rfl rfl (by decide) (fun τ d => by simp [go_sem, execOp, Act.eval]) ?_
    walk_nrm
    refine Reach.val plain_prog (.bool true) (plain_code hn) hfs rfl rfl (by decide) (fun τ d => by simp [go_sem, execOp, Act.eval]) ?_
    walk_nrm
    refine Reach.val plain_prog (.bool true) (plain_code hn) hfs rfl rfl (by decide) (fun τ d => by simp [go_sem, execOp, Act.eval]) ?_
    walk_nrm
    refine Reach.val plain_prog (.bool true) (plain_code hn) hfs rfl rfl (by decide) (fun τ d => by simp [go_sem, execOp, Act.eval]) ?_
    walk_nrm
    refine Reach.val plain_prog (.bool false) (plain_code hn) hfs rfl rfl (by decide) (fun τ d => by simp [go_sem, execOp, Act.eval]) ?_
    walk_nrm
    refine Reach.val plain_prog (.bool false) (plain_code hn) hfs rfl rfl (by decide) (fun τ d => by simp [go_sem, execOp, Act.eval]) ?_
    walk_nrm
    refine Reach.val plain_prog (.int .i64 (handV xs z)) (plain_code hn) hfs rfl rfl (by decide) (fun τ d => by simp [go_sem, execOp, Act.eval]) ?_
    walk_nrm
    refine Reach.val plain_prog (.bool (handV xs z == 0)) (plain_code hn) hfs rfl rfl (by decide) (fun τ d => by simp [go_sem, execOp, Act.eval]) ?_
    walk_nrm
    refine Reach.val plain_prog (.int .i64 z) (plain_code hn) hfs rfl rfl (by decide) (fun τ d => by simp [go_sem, execOp, Act.eval]) ?_
    walk_nrm
    refine Reach.val plain_prog (.bool (z == 0)) (plain_code hn) hfs rfl rfl (by decide) (fun τ d => by simp [go_sem, execOp, Act.eval]) ?_
    walk_nrm
    refine Reach.val plain_prog (.bool true) (plain_code hn) hfs rfl rfl (by decide) (fun τ d => by simp [go_sem, execOp, Act.eval, h00]) ?_
    walk_nrm
    refine Reach.val plain_prog (.bool true) (plain_code hn) hfs rfl rfl (by decide) (fun τ d => by simp [go_sem, execOp, Act.eval]) ?_
    walk_nrm
    refine Reach.val plain_prog (.bool true) (plain_code hn) hfs rfl rfl (by decide) (fun τ d => by simp [go_sem, execOp, Act.eval]) ?_
    walk_nrm
    refine Reach.val plain_prog (.bool true) (plain_code hn) hfs rfl rfl (by decide) (fun τ d => by simp [go_sem, execOp, Act.eval]) ?_
    walk_nrm
    refine Reach.regionEnd plain_prog (plain_code hn) hfs ?_
    refine Reach.ret plain_prog hn hfs ?_
    exact Reach.here fun d => ⟨_, .bool true, rfl, rfl, ⟨rfl, rfl, rfl, _, Try.func6, by simp [results, Try.f6, Frame.at]⟩, plain_code hn, rfl, b8.on _ _⟩
end Go.Proofs.Ytkhmooemgjichaa
