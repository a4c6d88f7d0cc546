/- The law FnLastUnpaid, beside others that only leave. -/
import Derived.Test.YtkhmooemgjichaaKe
import Derived.Test.YtkhmooemgjichaaHy
import Derived.Test.YtkhmooemgjichaaKr
namespace Go.Proofs.Ytkhmooemgjichaa
open Go Go.Conc Go.RowKit

set_option maxRecDepth 100000 in
set_option maxHeartbeats 8000000 in
theorem FnLastUnpaid_B (a : Option Addr) (n cap : Nat) (w : World) (h : IsBytes w a n) (hc : n ≤ cap) :
    CallsB Try.prog 5 #[.slice a n cap] w fun x w' => x = .bool true ∧ BelX w.heap.size w w' := by
  intro fs hfs
  rw [enter_bN _ Try.func5 rfl]
  simp only [Try.ntmps5, List.size_toArray, List.length_cons, List.length_nil, Nat.reduceAdd, Nat.reduceSub, Array.replicate_succ, Array.replicate_zero, List.push_toArray, List.append_toArray, List.nil_append, List.cons_append]
  have hn := PlainT.nil
  refine Reach.seq plain_prog hn hfs ?_
  refine Reach.region plain_prog (plain_code hn) hfs ?_
  simp only [List.size_toArray, List.length_cons, List.length_nil, Nat.zero_add, List.range, List.range.loop]
  refine Reach.val plain_prog (.bool false) (plain_code hn) hfs rfl rfl (by decide) (fun τ d => by simp [go_sem, execOp, Act.eval]) ?_
  walk_nrm
  refine Reach.regionEnd plain_prog (plain_code hn) hfs ?_
  refine Reach.seq plain_prog hn hfs ?_
  refine Reach.seq plain_prog (plain_code hn) hfs ?_
  by_cases hbig : (1048576 : Int) < (n : Int)
  · refine Reach.region plain_prog (plain_code (plain_code hn)) hfs ?_
    simp only [List.size_toArray, List.length_cons, List.length_nil, Nat.reduceAdd, Nat.zero_add, List.range, List.range.loop]
    refine Reach.val plain_prog (.slice a n cap) (plain_code (plain_code hn)) hfs rfl rfl (by decide) (fun τ d => by simp [go_sem, execOp, Act.eval]) ?_
    walk_nrm
    refine Reach.val plain_prog (.int .i64 (n : Int)) (plain_code (plain_code hn)) hfs rfl rfl (by decide) (fun τ d => by simp [go_sem, execOp, Act.eval]) ?_
    walk_nrm
    refine Reach.val plain_prog (.bool true) (plain_code (plain_code hn)) hfs rfl rfl (by decide) (fun τ d => by simp [go_sem, execOp, Act.eval, hbig]) ?_
    walk_nrm
    refine Reach.regionEnd plain_prog (plain_code (plain_code hn)) hfs ?_
    refine Reach.cond plain_prog true rfl (plain_code hn) hfs ?_
    simp only [if_true]
    refine Reach.seq plain_prog (plain_code hn) hfs ?_
    refine Reach.region plain_prog (plain_code (plain_code hn)) hfs ?_
    simp only [List.size_toArray, List.length_cons, List.length_nil, Nat.zero_add, List.range, List.range.loop]
    refine Reach.val plain_prog (.bool true) (plain_code (plain_code hn)) hfs rfl rfl (by decide) (fun τ d => by simp [go_sem, execOp, Act.eval]) ?_
    walk_nrm
    refine Reach.regionEnd plain_prog (plain_code (plain_code hn)) hfs ?_
    refine Reach.ret plain_prog (plain_code hn) hfs ?_
    exact Reach.here fun d => ⟨_, .bool true, rfl, rfl, ⟨rfl, rfl, rfl, _, Try.func5, by simp [results, Try.f5, Frame.at]⟩, plain_code (plain_code hn), rfl, (BelX.refl _ _).on _ _⟩
  refine Reach.region plain_prog (plain_code (plain_code hn)) hfs ?_
  simp only [List.size_toArray, List.length_cons, List.length_nil, Nat.reduceAdd, Nat.zero_add, List.range, List.range.loop]
  refine Reach.val plain_prog (.slice a n cap) (plain_code (plain_code hn)) hfs rfl rfl (by decide) (fun τ d => by simp [go_sem, execOp, Act.eval]) ?_
  walk_nrm
  refine Reach.val plain_prog (.int .i64 (n : Int)) (plain_code (plain_code hn)) hfs rfl rfl (by decide) (fun τ d => by simp [go_sem, execOp, Act.eval]) ?_
  walk_nrm
  refine Reach.val plain_prog (.bool false) (plain_code (plain_code hn)) hfs rfl rfl (by decide) (fun τ d => by simp [go_sem, execOp, Act.eval, hbig]) ?_
  walk_nrm
  refine Reach.regionEnd plain_prog (plain_code (plain_code hn)) hfs ?_
  refine Reach.cond plain_prog false rfl (plain_code hn) hfs ?_
  simp only [Bool.false_eq_true, if_false]
  refine Reach.skip plain_prog (plain_code hn) hfs ?_
  refine Reach.seq plain_prog hn hfs ?_
  refine Reach.region plain_prog (plain_code hn) hfs ?_
  simp only [List.size_toArray, List.length_cons, List.length_nil, Nat.reduceAdd, Nat.zero_add, List.range, List.range.loop]
  refine Reach.val plain_prog (.slice a n cap) (plain_code hn) hfs rfl rfl (by decide) (fun τ d => by simp [go_sem, execOp, Act.eval]) ?_
  walk_nrm
  refine Reach.call plain_prog (f := 13) (args := #[.slice a n cap]) (plain_code hn) hfs rfl rfl (by decide) (fun w => by simp [go_sem, execOp, Act.eval]) (drawLast_B a n cap w h hc) ?_
  rintro v w1 ⟨xs, o1, hl6, b1⟩
  walk_nrm
  refine Reach.val plain_prog (v) (plain_code hn) hfs rfl rfl (by decide) (fun τ d => by simp [go_sem, execOp, Act.eval]) ?_
  walk_nrm
  refine Reach.regionEnd plain_prog (plain_code hn) hfs ?_
  refine Reach.seq plain_prog hn hfs ?_
  refine Reach.region plain_prog (plain_code hn) hfs ?_
  simp only [List.size_toArray, List.length_cons, List.length_nil, Nat.reduceAdd, Nat.zero_add, List.range, List.range.loop]
  refine Reach.val plain_prog (v) (plain_code hn) hfs rfl rfl (by decide) (fun τ d => by simp [go_sem, execOp, Act.eval]) ?_
  walk_nrm
  refine Reach.call plain_prog (f := 14) (args := #[v]) (plain_code hn) hfs rfl rfl (by decide) (fun w => by simp [go_sem, execOp, Act.eval]) (last_B v xs w1 o1.ints (by omega)) ?_
  rintro _ w2 ⟨rfl, hb2⟩
  walk_nrm
  have b2 : BelX w.heap.size w w2 := b1.trans (hb2.mono b1.size)
  have o2 := own_belX o1 hb2
  refine Reach.val plain_prog (.tuple #[.int .i64 (lastP xs).1, .int .i64 (lastP xs).2, .bool (cLast xs)]) (plain_code hn) hfs rfl rfl (by decide) (fun τ d => by simp [go_sem, execOp, Act.eval]) ?_
  walk_nrm
  refine Reach.val plain_prog (.int .i64 (lastP xs).1) (plain_code hn) hfs rfl rfl (by decide) (fun τ d => by simp [go_sem, execOp, Act.eval]) ?_
  walk_nrm
  refine Reach.val plain_prog (.int .i64 (lastP xs).2) (plain_code hn) hfs rfl rfl (by decide) (fun τ d => by simp [go_sem, execOp, Act.eval]) ?_
  walk_nrm
  refine Reach.val plain_prog (.bool (cLast xs)) (plain_code hn) hfs rfl rfl (by decide) (fun τ d => by simp [go_sem, execOp, Act.eval]) ?_
  walk_nrm
  refine Reach.val plain_prog (.int .i64 (lastP xs).1) (plain_code hn) hfs rfl rfl (by decide) (fun τ d => by simp [go_sem, execOp, Act.eval]) ?_
  walk_nrm
  refine Reach.val plain_prog (.int .i64 (lastP xs).2) (plain_code hn) hfs rfl rfl (by decide) (fun τ d => by simp [go_sem, execOp, Act.eval]) ?_
  walk_nrm
  refine Reach.val plain_prog (.bool (cLast xs)) (plain_code hn) hfs rfl rfl (by decide) (fun τ d => by simp [go_sem, execOp, Act.eval]) ?_
  walk_nrm
  refine Reach.regionEnd plain_prog (plain_code hn) hfs ?_
  refine Reach.seq plain_prog hn hfs ?_
  refine Reach.region plain_prog (plain_code hn) hfs ?_
  simp only [List.size_toArray, List.length_cons, List.length_nil, Nat.reduceAdd, Nat.zero_add, List.range, List.range.loop]
  refine Reach.val plain_prog (v) (plain_code hn) hfs rfl rfl (by decide) (fun τ d => by simp [go_sem, execOp, Act.eval]) ?_
  walk_nrm
  refine Reach.call plain_prog (f := 15) (args := #[v]) (plain_code hn) hfs rfl rfl (by decide) (fun w => by simp [go_sem, execOp, Act.eval]) (lastSpec_B v xs w2 o2.ints (by omega)) ?_
  rintro _ w3 ⟨rfl, hb3⟩
  walk_nrm
  have b3 : BelX w.heap.size w w3 := b2.trans (hb3.mono b2.size)
  have o3 := own_belX o2 hb3
  refine Reach.val plain_prog (.tuple #[.int .i64 (lastP xs).1, .int .i64 (lastP xs).2, .bool (cLast xs)]) (plain_code hn) hfs rfl rfl (by decide) (fun τ d => by simp [go_sem, execOp, Act.eval]) ?_
  walk_nrm
  refine Reach.val plain_prog (.int .i64 (lastP xs).1) (plain_code hn) hfs rfl rfl (by decide) (fun τ d => by simp [go_sem, execOp, Act.eval]) ?_
  walk_nrm
  refine Reach.val plain_prog (.int .i64 (lastP xs).2) (plain_code hn) hfs rfl rfl (by decide) (fun τ d => by simp [go_sem, execOp, Act.eval]) ?_
  walk_nrm
  refine Reach.val plain_prog (.bool (cLast xs)) (plain_code hn) hfs rfl rfl (by decide) (fun τ d => by simp [go_sem, execOp, Act.eval]) ?_
  walk_nrm
  refine Reach.val plain_prog (.int .i64 (lastP xs).1) (plain_code hn) hfs rfl rfl (by decide) (fun τ d => by simp [go_sem, execOp, Act.eval]) ?_
  walk_nrm
  refine Reach.val plain_prog (.int .i64 (lastP xs).2) (plain_code hn) hfs rfl rfl (by decide) (fun τ d => by simp [go_sem, execOp, Act.eval]) ?_
  walk_nrm
  refine Reach.val plain_prog (.bool (cLast xs)) (plain_code hn) hfs rfl rfl (by decide) (fun τ d => by simp [go_sem, execOp, Act.eval]) ?_
  walk_nrm
  refine Reach.regionEnd plain_prog (plain_code hn) hfs ?_
  refine Reach.seq plain_prog hn hfs ?_
  refine Reach.seq plain_prog (plain_code hn) hfs ?_
  cases hL : cLast xs
  · refine Reach.region plain_prog (plain_code (plain_code hn)) hfs ?_
    simp only [List.size_toArray, List.length_cons, List.length_nil, Nat.reduceAdd, Nat.zero_add, List.range, List.range.loop]
    refine Reach.val plain_prog (.int .i64 (lastP xs).1) (plain_code (plain_code hn)) hfs rfl rfl (by decide) (fun τ d => by simp [go_sem, execOp, Act.eval]) ?_
    walk_nrm
    refine Reach.val plain_prog (.int .i64 (lastP xs).1) (plain_code (plain_code hn)) hfs rfl rfl (by decide) (fun τ d => by simp [go_sem, execOp, Act.eval]) ?_
    walk_nrm
    refine Reach.val plain_prog (.bool false) (plain_code (plain_code hn)) hfs rfl rfl (by decide) (fun τ d => by simp [go_sem, execOp, Act.eval]) ?_
    walk_nrm
    refine Reach.val plain_prog (.bool false) (plain_code (plain_code hn)) hfs rfl rfl (by decide) (fun τ d => by simp [go_sem, execOp, Act.eval]) ?_
    walk_nrm
    refine Reach.val plain_prog (.int .i64 (lastP xs).2) (plain_code (plain_code hn)) hfs rfl rfl (by decide) (fun τ d => by simp [go_sem, execOp, Act.eval]) ?_
    walk_nrm
    refine Reach.val plain_prog (.int .i64 (lastP xs).2) (plain_code (plain_code hn)) hfs rfl rfl (by decide) (fun τ d => by simp [go_sem, execOp, Act.eval]) ?_
    walk_nrm
    refine Reach.val plain_prog (.bool false) (plain_code (plain_code hn)) hfs rfl rfl (by decide) (fun τ d => by simp [go_sem, execOp, Act.eval]) ?_
    walk_nrm
    refine Reach.val plain_prog (.bool false) (plain_code (plain_code hn)) hfs rfl rfl (by decide) (fun τ d => by simp [go_sem, execOp, Act.eval]) ?_
    walk_nrm
    refine Reach.val plain_prog (.bool false) (plain_code (plain_code hn)) hfs rfl rfl (by decide) (fun τ d => by simp [go_sem, execOp, Act.eval]) ?_
    walk_nrm
    refine Reach.val plain_prog (.bool false) (plain_code (plain_code hn)) hfs rfl rfl (by decide) (fun τ d => by simp [go_sem, execOp, Act.eval]) ?_
    walk_nrm
    refine Reach.val plain_prog (.bool false) (plain_code (plain_code hn)) hfs rfl rfl (by decide) (fun τ d => by simp [go_sem, execOp, Act.eval]) ?_
    walk_nrm
    refine Reach.val plain_prog (.bool false) (plain_code (plain_code hn)) hfs rfl rfl (by decide) (fun τ d => by simp [go_sem, execOp, Act.eval]) ?_
    walk_nrm
    refine Reach.val plain_prog (.bool false) (plain_code (plain_code hn)) hfs rfl rfl (by decide) (fun τ d => by simp [go_sem, execOp, Act.eval]) ?_
    walk_nrm
    refine Reach.val plain_prog (.bool false) (plain_code (plain_code hn)) hfs rfl rfl (by decide) (fun τ d => by simp [go_sem, execOp, Act.eval]) ?_
    walk_nrm
    refine Reach.val plain_prog (.bool false) (plain_code (plain_code hn)) hfs rfl rfl (by decide) (fun τ d => by simp [go_sem, execOp, Act.eval]) ?_
    walk_nrm
    refine Reach.val plain_prog (.bool true) (plain_code (plain_code hn)) hfs rfl rfl (by decide) (fun τ d => by simp [go_sem, execOp, Act.eval]) ?_
    walk_nrm
    refine Reach.val plain_prog (.bool true) (plain_code (plain_code hn)) hfs rfl rfl (by decide) (fun τ d => by simp [go_sem, execOp, Act.eval]) ?_
    walk_nrm
    refine Reach.regionEnd plain_prog (plain_code (plain_code hn)) hfs ?_
    refine Reach.cond plain_prog true rfl (plain_code hn) hfs ?_
    simp only [if_true]
    refine Reach.seq plain_prog (plain_code hn) hfs ?_
    refine Reach.region plain_prog (plain_code (plain_code hn)) hfs ?_
    simp only [List.size_toArray, List.length_cons, List.length_nil, Nat.reduceAdd, Nat.zero_add, List.range, List.range.loop]
    refine Reach.val plain_prog (.int .i64 (lastP xs).1) (plain_code (plain_code hn)) hfs rfl rfl (by decide) (fun τ d => by simp [go_sem, execOp, Act.eval]) ?_
    walk_nrm
    refine Reach.val plain_prog (.int .i64 (lastP xs).1) (plain_code (plain_code hn)) hfs rfl rfl (by decide) (fun τ d => by simp [go_sem, execOp, Act.eval]) ?_
    walk_nrm
    refine Reach.val plain_prog (.bool true) (plain_code (plain_code hn)) hfs rfl rfl (by decide) (fun τ d => by simp [go_sem, execOp, Act.eval]) ?_
    walk_nrm
    refine Reach.val plain_prog (.bool true) (plain_code (plain_code hn)) hfs rfl rfl (by decide) (fun τ d => by simp [go_sem, execOp, Act.eval]) ?_
    walk_nrm
    refine Reach.val plain_prog (.int .i64 (lastP xs).2) (plain_code (plain_code hn)) hfs rfl rfl (by decide) (fun τ d => by simp [go_sem, execOp, Act.eval]) ?_
    walk_nrm
    refine Reach.val plain_prog (.int .i64 (lastP xs).2) (plain_code (plain_code hn)) hfs rfl rfl (by decide) (fun τ d => by simp [go_sem, execOp, Act.eval]) ?_
    walk_nrm
    refine Reach.val plain_prog (.bool true) (plain_code (plain_code hn)) hfs rfl rfl (by decide) (fun τ d => by simp [go_sem, execOp, Act.eval]) ?_
    walk_nrm
    refine Reach.val plain_prog (.bool true) (plain_code (plain_code hn)) hfs rfl rfl (by decide) (fun τ d => by simp [go_sem, execOp, Act.eval]) ?_
    walk_nrm
    refine Reach.val plain_prog (.bool true) (plain_code (plain_code hn)) hfs rfl rfl (by decide) (fun τ d => by simp [go_sem, execOp, Act.eval]) ?_
    walk_nrm
    refine Reach.val plain_prog (.bool false) (plain_code (plain_code hn)) hfs rfl rfl (by decide) (fun τ d => by simp [go_sem, execOp, Act.eval]) ?_
    walk_nrm
    refine Reach.val plain_prog (.bool false) (plain_code (plain_code hn)) hfs rfl rfl (by decide) (fun τ d => by simp [go_sem, execOp, Act.eval]) ?_
    walk_nrm
    refine Reach.val plain_prog (.bool true) (plain_code (plain_code hn)) hfs rfl rfl (by decide) (fun τ d => by simp [go_sem, execOp, Act.eval]) ?_
    walk_nrm
    refine Reach.val plain_prog (.bool true) (plain_code (plain_code hn)) hfs rfl rfl (by decide) (fun τ d => by simp [go_sem, execOp, Act.eval]) ?_
    walk_nrm
    refine Reach.val plain_prog (.bool true) (plain_code (plain_code hn)) hfs rfl rfl (by decide) (fun τ d => by simp [go_sem, execOp, Act.eval]) ?_
    walk_nrm
    refine Reach.regionEnd plain_prog (plain_code (plain_code hn)) hfs ?_
    refine Reach.ret plain_prog (plain_code hn) hfs ?_
    exact Reach.here fun d => ⟨_, .bool true, rfl, rfl, ⟨rfl, rfl, rfl, _, Try.func5, by simp [results, Try.f5, Frame.at]⟩, plain_code (plain_code hn), rfl, b3.on _ _⟩
  obtain ⟨hvc, hm, hu, hpaid, hm0, hmp, h2⟩ := last_facts hL
  have hlen := vc_len hvc
  refine Reach.region plain_prog (plain_code (plain_code hn)) hfs ?_
  simp only [List.size_toArray, List.length_cons, List.length_nil, Nat.reduceAdd, Nat.zero_add, List.range, List.range.loop]
  refine Reach.val plain_prog (.int .i64 (lastP xs).1) (plain_code (plain_code hn)) hfs rfl rfl (by decide) (fun τ d => by simp [go_sem, execOp, Act.eval]) ?_
  walk_nrm
  refine Reach.val plain_prog (.int .i64 (lastP xs).1) (plain_code (plain_code hn)) hfs rfl rfl (by decide) (fun τ d => by simp [go_sem, execOp, Act.eval]) ?_
  walk_nrm
  refine Reach.val plain_prog (.bool false) (plain_code (plain_code hn)) hfs rfl rfl (by decide) (fun τ d => by simp [go_sem, execOp, Act.eval]) ?_
  walk_nrm
  refine Reach.val plain_prog (.bool false) (plain_code (plain_code hn)) hfs rfl rfl (by decide) (fun τ d => by simp [go_sem, execOp, Act.eval]) ?_
  walk_nrm
  refine Reach.val plain_prog (.int .i64 (lastP xs).2) (plain_code (plain_code hn)) hfs rfl rfl (by decide) (fun τ d => by simp [go_sem, execOp, Act.eval]) ?_
  walk_nrm
  refine Reach.val plain_prog (.int .i64 (lastP xs).2) (plain_code (plain_code hn)) hfs rfl rfl (by decide) (fun τ d => by simp [go_sem, execOp, Act.eval]) ?_
  walk_nrm
  refine Reach.val plain_prog (.bool false) (plain_code (plain_code hn)) hfs rfl rfl (by decide) (fun τ d => by simp [go_sem, execOp, Act.eval]) ?_
  walk_nrm
  refine Reach.val plain_prog (.bool false) (plain_code (plain_code hn)) hfs rfl rfl (by decide) (fun τ d => by simp [go_sem, execOp, Act.eval]) ?_
  walk_nrm
  refine Reach.val plain_prog (.bool false) (plain_code (plain_code hn)) hfs rfl rfl (by decide) (fun τ d => by simp [go_sem, execOp, Act.eval]) ?_
  walk_nrm
  refine Reach.val plain_prog (.bool true) (plain_code (plain_code hn)) hfs rfl rfl (by decide) (fun τ d => by simp [go_sem, execOp, Act.eval]) ?_
  walk_nrm
  refine Reach.val plain_prog (.bool true) (plain_code (plain_code hn)) hfs rfl rfl (by decide) (fun τ d => by simp [go_sem, execOp, Act.eval]) ?_
  walk_nrm
  refine Reach.val plain_prog (.bool false) (plain_code (plain_code hn)) hfs rfl rfl (by decide) (fun τ d => by simp [go_sem, execOp, Act.eval]) ?_
  walk_nrm
  refine Reach.val plain_prog (.bool false) (plain_code (plain_code hn)) hfs rfl rfl (by decide) (fun τ d => by simp [go_sem, execOp, Act.eval]) ?_
  walk_nrm
  refine Reach.val plain_prog (.bool false) (plain_code (plain_code hn)) hfs rfl rfl (by decide) (fun τ d => by simp [go_sem, execOp, Act.eval]) ?_
  walk_nrm
  refine Reach.val plain_prog (.bool true) (plain_code (plain_code hn)) hfs rfl rfl (by decide) (fun τ d => by simp [go_sem, execOp, Act.eval]) ?_
  walk_nrm
  refine Reach.val plain_prog (.bool false) (plain_code (plain_code hn)) hfs rfl rfl (by decide) (fun τ d => by simp [go_sem, execOp, Act.eval]) ?_
  walk_nrm
  refine Reach.val plain_prog (.bool false) (plain_code (plain_code hn)) hfs rfl rfl (by decide) (fun τ d => by simp [go_sem, execOp, Act.eval]) ?_
  walk_nrm
  refine Reach.regionEnd plain_prog (plain_code (plain_code hn)) hfs ?_
  refine Reach.cond plain_prog false rfl (plain_code hn) hfs ?_
  simp only [Bool.false_eq_true, if_false]
  refine Reach.skip plain_prog (plain_code hn) hfs ?_
  obtain ⟨b, off, cap2, rfl, hblt, _⟩ := o3.ints.at0 hlen.1
  have hcp := own_cap2 o3 _ _ _ rfl
  clear b1 b2 o1 o2 hb2 hb3
  generalize (lastP xs).1 = m at *
  generalize (lastP xs).2 = u at *
  refine Reach.seq plain_prog hn hfs ?_
  refine Reach.seq plain_prog (plain_code hn) hfs ?_
  refine Reach.code plain_prog (Qx := fun a' w' => (∃ x58 x59 x60 x61 x62 x63 x64 x65 x66 x67 x68 x69 x70 x71 x72 x73 x74 x75 x76 x77 x78 x79 x80 x81 x82 x83 x84 x85 x86 x87 x88 x89 x90 x91 x92 x93, a' = ⟨#[(.slice a n cap), undef, (.bool false), (.slice (some ⟨b, off, none⟩) xs.length cap2), (.int .i64 m), (.int .i64 u), (.bool true), (.int .i64 m), (.int .i64 u), (.bool true), undef, (.slice a n cap), (.int .i64 (n : Int)), (.bool false), (.slice a n cap), (.slice (some ⟨b, off, none⟩) xs.length cap2), (.tuple #[.int .i64 m, .int .i64 u, .bool (true)]), (.slice (some ⟨b, off, none⟩) xs.length cap2), (.tuple #[.int .i64 m, .int .i64 u, .bool (true)]), (.int .i64 m), (.int .i64 u), (.bool true), (.tuple #[.int .i64 m, .int .i64 u, .bool (true)]), (.slice (some ⟨b, off, none⟩) xs.length cap2), (.tuple #[.int .i64 m, .int .i64 u, .bool (true)]), (.int .i64 m), (.int .i64 u), (.bool true), (.int .i64 m), (.int .i64 m), (.bool false), (.bool false), (.int .i64 u), (.int .i64 u), (.bool false), (.bool false), (.bool false), (.bool true), (.bool true), (.bool false), (.bool false), (.bool false), (.bool true), (.bool false), (.bool false), undef, undef, undef, undef, undef, undef, undef, undef, undef, undef, undef, undef, undef, x58, x59, x60, x61, x62, x63, x64, x65, x66, x67, x68, x69, x70, x71, x72, x73, x74, x75, x76, x77, x78, x79, x80, x81, x82, x83, x84, x85, x86, x87, x88, x89, x90, x91, x92, x93, (.bool false), undef, undef, undef, undef, undef, undef, undef, undef, undef, undef, undef, undef, undef, undef, undef, undef, undef, undef, undef, undef, undef, undef, undef, undef, undef, undef, undef, undef, undef, undef, undef, undef, undef, undef, undef, undef, undef, undef, undef, undef], []⟩) ∧ BelX w.heap.size w w' ∧ Own w' w.heap.size (.slice (some ⟨b, off, none⟩) xs.length cap2) xs) (plain_code (plain_code hn)) hfs (fun a w τ d h => ⟨h.1, h.2.1.on τ d, own_on h.2.2 τ d⟩) (fun τ => ?_) ?_
  · have b4 := b3.on τ 0
    have o4 := own_on o3 τ 0
    generalize On w3 τ 0 = W at *
    clear b3 o3
    have hfin : ∀ (q : Nat), BelX w.heap.size w (W.drewN q) ∧ Own (W.drewN q) w.heap.size (.slice (some ⟨b, off, none⟩) xs.length cap2) xs := fun q => ⟨b4.trans (belX_drawn ⟨q, rfl⟩ |>.mono b4.size), own_belX o4 (belX_drawn ⟨q, rfl⟩)⟩
    by_cases hl2 : xs.length = 2
    · obtain ⟨e1, e2⟩ := h2 hl2
      have hc0 := ints_cell o4.ints (j := 0) (by omega)
      have hc1 := ints_cell o4.ints (j := 1) (by omega)
      rw [Nat.add_zero] at hc0
      exact reg_two a n cap b off cap2 xs.length m u _ _ W hl2 hc0 hc1 (vc_at hvc (by omega)) (vc_at hvc (by omega)) _ hfin e1 e2
    exact reg_other a n cap b off cap2 xs.length m u W (by omega) _ hfin
  rintro _ w4 ⟨⟨x58, x59, x60, x61, x62, x63, x64, x65, x66, x67, x68, x69, x70, x71, x72, x73, x74, x75, x76, x77, x78, x79, x80, x81, x82, x83, x84, x85, x86, x87, x88, x89, x90, x91, x92, x93, rfl⟩, b4, o4⟩
  clear b3 o3 h2
  refine Reach.cond plain_prog false rfl (plain_code hn) hfs ?_
  simp only [Bool.false_eq_true, if_false]
  refine Reach.skip plain_prog (plain_code hn) hfs ?_
  refine Reach.seqThen plain_prog (fun a' w' => (∃ x10 x95 x96 x97 x98 x99 x100 x101 x102 x103 x104 x105 x106 x107 x108 x109 x110 x111 x112 x113, a' = ⟨#[(.slice a n cap), undef, (.bool false), (.slice (some ⟨b, off, none⟩) xs.length cap2), (.int .i64 m), (.int .i64 u), (.bool true), (.int .i64 m), (.int .i64 u), (.bool true), x10, (.slice a n cap), (.int .i64 (n : Int)), (.bool false), (.slice a n cap), (.slice (some ⟨b, off, none⟩) xs.length cap2), (.tuple #[.int .i64 m, .int .i64 u, .bool (true)]), (.slice (some ⟨b, off, none⟩) xs.length cap2), (.tuple #[.int .i64 m, .int .i64 u, .bool (true)]), (.int .i64 m), (.int .i64 u), (.bool true), (.tuple #[.int .i64 m, .int .i64 u, .bool (true)]), (.slice (some ⟨b, off, none⟩) xs.length cap2), (.tuple #[.int .i64 m, .int .i64 u, .bool (true)]), (.int .i64 m), (.int .i64 u), (.bool true), (.int .i64 m), (.int .i64 m), (.bool false), (.bool false), (.int .i64 u), (.int .i64 u), (.bool false), (.bool false), (.bool false), (.bool true), (.bool true), (.bool false), (.bool false), (.bool false), (.bool true), (.bool false), (.bool false), undef, undef, undef, undef, undef, undef, undef, undef, undef, undef, undef, undef, undef, x58, x59, x60, x61, x62, x63, x64, x65, x66, x67, x68, x69, x70, x71, x72, x73, x74, x75, x76, x77, x78, x79, x80, x81, x82, x83, x84, x85, x86, x87, x88, x89, x90, x91, x92, x93, (.bool false), x95, x96, x97, x98, x99, x100, x101, x102, x103, x104, x105, x106, x107, x108, x109, x110, x111, x112, x113, undef, undef, undef, undef, undef, undef, undef, undef, undef, undef, undef, undef, undef, undef, undef, undef, undef, undef, undef, undef, undef], []⟩) ∧ BelX w.heap.size w w' ∧ Own w' w.heap.size (.slice (some ⟨b, off, none⟩) xs.length cap2) xs) hn hfs ?_ ?_
  · refine Reach.seq plain_prog (plain_code hn) hfs ?_
    have hw1 : IntKind.i64.wrap (m + 1) = m + 1 := IntWalk.i64_in _ ⟨by omega, by omega⟩
    refine Reach.region plain_prog (plain_code (plain_code hn)) hfs ?_
    simp only [List.size_toArray, List.length_cons, List.length_nil, Nat.reduceAdd, Nat.zero_add, List.range, List.range.loop]
    refine Reach.val plain_prog (.int .i64 m) (plain_code (plain_code hn)) hfs rfl rfl (by decide) (fun τ d => by simp [go_sem, execOp, Act.eval]) ?_
    walk_nrm
    refine Reach.val plain_prog (.int .i64 (m + 1)) (plain_code (plain_code hn)) hfs rfl rfl (by decide) (fun τ d => by simp [go_sem, execOp, Act.eval, hw1]) ?_
    walk_nrm
    refine Reach.val plain_prog (.int .i64 (m + 1)) (plain_code (plain_code hn)) hfs rfl rfl (by decide) (fun τ d => by simp [go_sem, execOp, Act.eval]) ?_
    walk_nrm
    refine Reach.regionEnd plain_prog (plain_code (plain_code hn)) hfs ?_
    refine Reach.block plain_prog (plain_code hn) hfs ?_
    refine Reach.loop plain_prog (n := (1001 + (999 - (m + 1))).toNat) (fun k a' w' => ∃ y : Int, m < y ∧ y ≤ 1000 ∧ k = (1001 + (999 - y)).toNat ∧ (∃ x97 x98 x99 x100 x101 x102 x103 x104 x105 x106 x107 x108 x109 x110 x111 x112 x113, a' = ⟨#[(.slice a n cap), undef, (.bool false), (.slice (some ⟨b, off, none⟩) xs.length cap2), (.int .i64 m), (.int .i64 u), (.bool true), (.int .i64 m), (.int .i64 u), (.bool true), (.int .i64 y), (.slice a n cap), (.int .i64 (n : Int)), (.bool false), (.slice a n cap), (.slice (some ⟨b, off, none⟩) xs.length cap2), (.tuple #[.int .i64 m, .int .i64 u, .bool (true)]), (.slice (some ⟨b, off, none⟩) xs.length cap2), (.tuple #[.int .i64 m, .int .i64 u, .bool (true)]), (.int .i64 m), (.int .i64 u), (.bool true), (.tuple #[.int .i64 m, .int .i64 u, .bool (true)]), (.slice (some ⟨b, off, none⟩) xs.length cap2), (.tuple #[.int .i64 m, .int .i64 u, .bool (true)]), (.int .i64 m), (.int .i64 u), (.bool true), (.int .i64 m), (.int .i64 m), (.bool false), (.bool false), (.int .i64 u), (.int .i64 u), (.bool false), (.bool false), (.bool false), (.bool true), (.bool true), (.bool false), (.bool false), (.bool false), (.bool true), (.bool false), (.bool false), undef, undef, undef, undef, undef, undef, undef, undef, undef, undef, undef, undef, undef, x58, x59, x60, x61, x62, x63, x64, x65, x66, x67, x68, x69, x70, x71, x72, x73, x74, x75, x76, x77, x78, x79, x80, x81, x82, x83, x84, x85, x86, x87, x88, x89, x90, x91, x92, x93, (.bool false), (.int .i64 m), (.int .i64 (m + 1)), x97, x98, x99, x100, x101, x102, x103, x104, x105, x106, x107, x108, x109, x110, x111, x112, x113, undef, undef, undef, undef, undef, undef, undef, undef, undef, undef, undef, undef, undef, undef, undef, undef, undef, undef, undef, undef, undef], []⟩) ∧ BelX w.heap.size w w' ∧ Own w' w.heap.size (.slice (some ⟨b, off, none⟩) xs.length cap2) xs) (plain_item (x := .inBlock 0) trivial (plain_code hn)) hfs ?_ ?_
    · rintro k _ w5 ⟨y, hy0, hy1, rfl, ⟨x97, x98, x99, x100, x101, x102, x103, x104, x105, x106, x107, x108, x109, x110, x111, x112, x113, rfl⟩, b5, o5⟩ hk ih
      refine Reach.seq plain_prog hk hfs ?_
      refine Reach.seq plain_prog (plain_code hk) hfs ?_
      have hc5 := ints_cell o5.ints (j := 0) (by omega)
      rw [Nat.add_zero] at hc5
      have hr0 := vc_at hvc (i := 0) (by omega)
      have hlt1 : ¬ (xs.length ≤ 0) := by omega
      have hlt2 : 0 < xs.length := by omega
      have hne : xs.length ≠ 0 := by omega
      generalize hx0 : xs.getD 0 0 = c0 at *
      have hw2 : IntKind.i64.wrap (m + c0) = m + c0 := IntWalk.i64_in _ ⟨by omega, by omega⟩
      by_cases hy2 : y ≤ m + c0
      · by_cases hy3 : y ≤ 120
        · refine Reach.region plain_prog (plain_code (plain_code hk)) hfs ?_
          simp only [List.size_toArray, List.length_cons, List.length_nil, Nat.reduceAdd, Nat.zero_add, List.range, List.range.loop]
          refine Reach.val plain_prog (.int .i64 y) (plain_code (plain_code hk)) hfs rfl rfl (by decide) (fun τ d => by simp [go_sem, execOp, Act.eval]) ?_
          walk_nrm
          refine Reach.val plain_prog (.int .i64 m) (plain_code (plain_code hk)) hfs rfl rfl (by decide) (fun τ d => by simp [go_sem, execOp, Act.eval]) ?_
          walk_nrm
          refine Reach.val plain_prog (.slice (some ⟨b, off, none⟩) xs.length cap2) (plain_code (plain_code hk)) hfs rfl rfl (by decide) (fun τ d => by simp [go_sem, execOp, Act.eval]) ?_
          walk_nrm
          refine Reach.val plain_prog (.pointer (some ⟨b, off, none⟩)) (plain_code (plain_code hk)) hfs rfl rfl (by decide) (fun τ d => by simp [go_sem, execOp, Act.eval, hlt2]) ?_
          walk_nrm
          refine Reach.val plain_prog (.int .i64 c0) (plain_code (plain_code hk)) hfs rfl rfl (by decide) (fun τ d => by simp [go_sem, execOp, Act.eval, on_cell, hc5]) ?_
          walk_nrm
          refine Reach.val plain_prog (.int .i64 (m + c0)) (plain_code (plain_code hk)) hfs rfl rfl (by decide) (fun τ d => by simp [go_sem, execOp, Act.eval, hw2]) ?_
          walk_nrm
          refine Reach.val plain_prog (.bool true) (plain_code (plain_code hk)) hfs rfl rfl (by decide) (fun τ d => by simp [go_sem, execOp, Act.eval, hy2]) ?_
          walk_nrm
          refine Reach.val plain_prog (.bool true) (plain_code (plain_code hk)) hfs rfl rfl (by decide) (fun τ d => by simp [go_sem, execOp, Act.eval]) ?_
          walk_nrm
          refine Reach.val plain_prog (.int .i64 y) (plain_code (plain_code hk)) hfs rfl rfl (by decide) (fun τ d => by simp [go_sem, execOp, Act.eval]) ?_
          walk_nrm
          refine Reach.val plain_prog (.bool true) (plain_code (plain_code hk)) hfs rfl rfl (by decide) (fun τ d => by simp [go_sem, execOp, Act.eval, hy3]) ?_
          walk_nrm
          refine Reach.val plain_prog (.bool true) (plain_code (plain_code hk)) hfs rfl rfl (by decide) (fun τ d => by simp [go_sem, execOp, Act.eval]) ?_
          walk_nrm
          refine Reach.regionEnd plain_prog (plain_code (plain_code hk)) hfs ?_
          refine Reach.cond plain_prog true rfl (plain_code hk) hfs ?_
          simp only [if_true]
          refine Reach.skip plain_prog (plain_code hk) hfs ?_
          refine Reach.seq plain_prog hk hfs ?_
          refine Reach.block plain_prog (plain_code hk) hfs ?_
          refine Reach.seq plain_prog (plain_item (x := .inBlock 1) trivial (plain_code hk)) hfs ?_
          have hwy : waysV xs y = wyV xs y := ways_at hvc (by omega) hy3
          have hny : wyV xs y ≠ 0 := by rw [← hwy]; exact hpaid y hy0 hy3
          refine Reach.region plain_prog (plain_code (plain_item (x := .inBlock 1) trivial (plain_code hk))) hfs ?_
          simp only [List.size_toArray, List.length_cons, List.length_nil, Nat.reduceAdd, Nat.zero_add, List.range, List.range.loop]
          refine Reach.val plain_prog (.slice (some ⟨b, off, none⟩) xs.length cap2) (plain_code (plain_item (x := .inBlock 1) trivial (plain_code hk))) hfs rfl rfl (by decide) (fun τ d => by simp [go_sem, execOp, Act.eval]) ?_
          walk_nrm
          refine Reach.val plain_prog (.int .i64 y) (plain_code (plain_item (x := .inBlock 1) trivial (plain_code hk))) hfs rfl rfl (by decide) (fun τ d => by simp [go_sem, execOp, Act.eval]) ?_
          walk_nrm
          refine Reach.call plain_prog (f := 8) (args := #[.slice (some ⟨b, off, none⟩) xs.length cap2, .int .i64 y]) (plain_code (plain_item (x := .inBlock 1) trivial (plain_code hk))) hfs rfl rfl (by decide) (fun w => by simp [go_sem, execOp, Act.eval]) (all_ways xs y w5 o5.ints hvc ⟨by omega, hy3⟩ hcp) ?_
          rintro _ w6 ⟨rfl, hb6⟩
          walk_nrm
          refine Reach.val plain_prog (.bool false) (plain_code (plain_item (x := .inBlock 1) trivial (plain_code hk))) hfs rfl rfl (by decide) (fun τ d => by simp [go_sem, execOp, Act.eval, hny]) ?_
          walk_nrm
          refine Reach.regionEnd plain_prog (plain_code (plain_item (x := .inBlock 1) trivial (plain_code hk))) hfs ?_
          refine Reach.cond plain_prog false rfl (plain_item (x := .inBlock 1) trivial (plain_code hk)) hfs ?_
          simp only [Bool.false_eq_true, if_false]
          refine Reach.skip plain_prog (plain_item (x := .inBlock 1) trivial (plain_code hk)) hfs ?_
          refine Reach.inBlock plain_prog (plain_item (x := .inBlock 1) trivial (plain_code hk)) hfs ?_
          have hw3 : IntKind.i64.wrap (y + 1) = y + 1 := IntWalk.i64_in _ ⟨by omega, by omega⟩
          refine Reach.region plain_prog hk hfs ?_
          simp only [List.size_toArray, List.length_cons, List.length_nil, Nat.reduceAdd, Nat.zero_add, List.range, List.range.loop]
          refine Reach.val plain_prog (.int .i64 y) hk hfs rfl rfl (by decide) (fun τ d => by simp [go_sem, execOp, Act.eval]) ?_
          walk_nrm
          refine Reach.val plain_prog (.int .i64 (y + 1)) hk hfs rfl rfl (by decide) (fun τ d => by simp [go_sem, execOp, Act.eval, hw3]) ?_
          walk_nrm
          refine Reach.val plain_prog (.int .i64 (y + 1)) hk hfs rfl rfl (by decide) (fun τ d => by simp [go_sem, execOp, Act.eval]) ?_
          walk_nrm
          refine Reach.regionEnd plain_prog hk hfs ?_
          exact ih ((1001 + (999 - (y + 1))).toNat) _ w6 (by omega) ⟨y + 1, by omega, by omega, rfl, ⟨_, _, _, _, _, _, _, _, _, _, _, _, _, _, _, _, _, rfl⟩, b5.trans (hb6.mono b5.size), own_belX o5 hb6⟩
        refine Reach.region plain_prog (plain_code (plain_code hk)) hfs ?_
        simp only [List.size_toArray, List.length_cons, List.length_nil, Nat.reduceAdd, Nat.zero_add, List.range, List.range.loop]
        refine Reach.val plain_prog (.int .i64 y) (plain_code (plain_code hk)) hfs rfl rfl (by decide) (fun τ d => by simp [go_sem, execOp, Act.eval]) ?_
        walk_nrm
        refine Reach.val plain_prog (.int .i64 m) (plain_code (plain_code hk)) hfs rfl rfl (by decide) (fun τ d => by simp [go_sem, execOp, Act.eval]) ?_
        walk_nrm
        refine Reach.val plain_prog (.slice (some ⟨b, off, none⟩) xs.length cap2) (plain_code (plain_code hk)) hfs rfl rfl (by decide) (fun τ d => by simp [go_sem, execOp, Act.eval]) ?_
        walk_nrm
        refine Reach.val plain_prog (.pointer (some ⟨b, off, none⟩)) (plain_code (plain_code hk)) hfs rfl rfl (by decide) (fun τ d => by simp [go_sem, execOp, Act.eval, hlt2]) ?_
        walk_nrm
        refine Reach.val plain_prog (.int .i64 c0) (plain_code (plain_code hk)) hfs rfl rfl (by decide) (fun τ d => by simp [go_sem, execOp, Act.eval, on_cell, hc5]) ?_
        walk_nrm
        refine Reach.val plain_prog (.int .i64 (m + c0)) (plain_code (plain_code hk)) hfs rfl rfl (by decide) (fun τ d => by simp [go_sem, execOp, Act.eval, hw2]) ?_
        walk_nrm
        refine Reach.val plain_prog (.bool true) (plain_code (plain_code hk)) hfs rfl rfl (by decide) (fun τ d => by simp [go_sem, execOp, Act.eval, hy2]) ?_
        walk_nrm
        refine Reach.val plain_prog (.bool true) (plain_code (plain_code hk)) hfs rfl rfl (by decide) (fun τ d => by simp [go_sem, execOp, Act.eval]) ?_
        walk_nrm
        refine Reach.val plain_prog (.int .i64 y) (plain_code (plain_code hk)) hfs rfl rfl (by decide) (fun τ d => by simp [go_sem, execOp, Act.eval]) ?_
        walk_nrm
        refine Reach.val plain_prog (.bool false) (plain_code (plain_code hk)) hfs rfl rfl (by decide) (fun τ d => by simp [go_sem, execOp, Act.eval, hy3]) ?_
        walk_nrm
        refine Reach.val plain_prog (.bool false) (plain_code (plain_code hk)) hfs rfl rfl (by decide) (fun τ d => by simp [go_sem, execOp, Act.eval]) ?_
        walk_nrm
        refine Reach.regionEnd plain_prog (plain_code (plain_code hk)) hfs ?_
        refine Reach.cond plain_prog false rfl (plain_code hk) hfs ?_
        simp only [Bool.false_eq_true, if_false]
        refine Reach.exit plain_prog rfl (plain_code hk) hfs ?_
        exact Reach.here fun d => ⟨_, rfl, ⟨_, _, _, _, _, _, _, _, _, _, _, _, _, _, _, _, _, _, _, _, rfl⟩, b5.on _ _, own_on o5 _ _⟩
      refine Reach.region plain_prog (plain_code (plain_code hk)) hfs ?_
      simp only [List.size_toArray, List.length_cons, List.length_nil, Nat.reduceAdd, Nat.zero_add, List.range, List.range.loop]
      refine Reach.val plain_prog (.int .i64 y) (plain_code (plain_code hk)) hfs rfl rfl (by decide) (fun τ d => by simp [go_sem, execOp, Act.eval]) ?_
      walk_nrm
      refine Reach.val plain_prog (.int .i64 m) (plain_code (plain_code hk)) hfs rfl rfl (by decide) (fun τ d => by simp [go_sem, execOp, Act.eval]) ?_
      walk_nrm
      refine Reach.val plain_prog (.slice (some ⟨b, off, none⟩) xs.length cap2) (plain_code (plain_code hk)) hfs rfl rfl (by decide) (fun τ d => by simp [go_sem, execOp, Act.eval]) ?_
      walk_nrm
      refine Reach.val plain_prog (.pointer (some ⟨b, off, none⟩)) (plain_code (plain_code hk)) hfs rfl rfl (by decide) (fun τ d => by simp [go_sem, execOp, Act.eval, hlt2]) ?_
      walk_nrm
      refine Reach.val plain_prog (.int .i64 c0) (plain_code (plain_code hk)) hfs rfl rfl (by decide) (fun τ d => by simp [go_sem, execOp, Act.eval, on_cell, hc5]) ?_
      walk_nrm
      refine Reach.val plain_prog (.int .i64 (m + c0)) (plain_code (plain_code hk)) hfs rfl rfl (by decide) (fun τ d => by simp [go_sem, execOp, Act.eval, hw2]) ?_
      walk_nrm
      refine Reach.val plain_prog (.bool false) (plain_code (plain_code hk)) hfs rfl rfl (by decide) (fun τ d => by simp [go_sem, execOp, Act.eval, hy2]) ?_
      walk_nrm
      refine Reach.val plain_prog (.bool false) (plain_code (plain_code hk)) hfs rfl rfl (by decide) (fun τ d => by simp [go_sem, execOp, Act.eval]) ?_
      walk_nrm
      refine Reach.unwanted plain_prog (plain_code (plain_code hk)) hfs rfl rfl ?_
      walk_nrm
      refine Reach.unwanted plain_prog (plain_code (plain_code hk)) hfs rfl rfl ?_
      walk_nrm
      refine Reach.val plain_prog (.bool false) (plain_code (plain_code hk)) hfs rfl rfl (by decide) (fun τ d => by simp [go_sem, execOp, Act.eval]) ?_
      walk_nrm
      refine Reach.regionEnd plain_prog (plain_code (plain_code hk)) hfs ?_
      refine Reach.cond plain_prog false rfl (plain_code hk) hfs ?_
      simp only [Bool.false_eq_true, if_false]
      refine Reach.exit plain_prog rfl (plain_code hk) hfs ?_
      exact Reach.here fun d => ⟨_, rfl, ⟨_, _, _, _, _, _, _, _, _, _, _, _, _, _, _, _, _, _, _, _, rfl⟩, b5.on _ _, own_on o5 _ _⟩
    exact ⟨m + 1, by omega, by omega, rfl, ⟨_, _, _, _, _, _, _, _, _, _, _, _, _, _, _, _, _, rfl⟩, b4, o4⟩
  rintro _ w7 ⟨⟨x10, x95, x96, x97, x98, x99, x100, x101, x102, x103, x104, x105, x106, x107, x108, x109, x110, x111, x112, x113, rfl⟩, b7, o7⟩
  have hc7 := ints_cell o7.ints (j := 0) (by omega)
  rw [Nat.add_zero] at hc7
  have hlt2 : 0 < xs.length := by omega
  have hne : xs.length ≠ 0 := by omega
  generalize hx0 : xs.getD 0 0 = c0 at *
  refine Reach.seq plain_prog hn hfs ?_
  by_cases hmz : m = 0
  · have hc1 : c0 = 1 := hm0.1 hmz
    subst hmz hc1
    refine Reach.region plain_prog (plain_code hn) hfs ?_
    simp only [List.size_toArray, List.length_cons, List.length_nil, Nat.reduceAdd, Nat.zero_add, List.range, List.range.loop]
    refine Reach.val plain_prog (.int .i64 0) (plain_code hn) hfs rfl rfl (by decide) (fun τ d => by simp [go_sem, execOp, Act.eval]) ?_
    walk_nrm
    refine Reach.val plain_prog (.bool true) (plain_code hn) hfs rfl rfl (by decide) (fun τ d => by simp [go_sem, execOp, Act.eval]) ?_
    walk_nrm
    refine Reach.val plain_prog (.slice (some ⟨b, off, none⟩) xs.length cap2) (plain_code hn) hfs rfl rfl (by decide) (fun τ d => by simp [go_sem, execOp, Act.eval]) ?_
    walk_nrm
    refine Reach.val plain_prog (.pointer (some ⟨b, off, none⟩)) (plain_code hn) hfs rfl rfl (by decide) (fun τ d => by simp [go_sem, execOp, Act.eval, hlt2]) ?_
    walk_nrm
    refine Reach.val plain_prog (.int .i64 1) (plain_code hn) hfs rfl rfl (by decide) (fun τ d => by simp [go_sem, execOp, Act.eval, on_cell, hc7]) ?_
    walk_nrm
    refine Reach.val plain_prog (.bool true) (plain_code hn) hfs rfl rfl (by decide) (fun τ d => by simp [go_sem, execOp, Act.eval]) ?_
    walk_nrm
    refine Reach.val plain_prog (.bool true) (plain_code hn) hfs rfl rfl (by decide) (fun τ d => by simp [go_sem, execOp, Act.eval]) ?_
    walk_nrm
    refine Reach.val plain_prog (.bool true) (plain_code hn) hfs rfl rfl (by decide) (fun τ d => by simp [go_sem, execOp, Act.eval]) ?_
    walk_nrm
    refine Reach.val plain_prog (.int .i64 0) (plain_code hn) hfs rfl rfl (by decide) (fun τ d => by simp [go_sem, execOp, Act.eval]) ?_
    walk_nrm
    refine Reach.val plain_prog (.bool true) (plain_code hn) hfs rfl rfl (by decide) (fun τ d => by simp [go_sem, execOp, Act.eval]) ?_
    walk_nrm
    refine Reach.val plain_prog (.bool true) (plain_code hn) hfs rfl rfl (by decide) (fun τ d => by simp [go_sem, execOp, Act.eval]) ?_
    walk_nrm
    refine Reach.unwanted plain_prog (plain_code hn) hfs rfl rfl ?_
    walk_nrm
    refine Reach.unwanted plain_prog (plain_code hn) hfs rfl rfl ?_
    walk_nrm
    refine Reach.val plain_prog (.bool true) (plain_code hn) hfs rfl rfl (by decide) (fun τ d => by simp [go_sem, execOp, Act.eval]) ?_
    walk_nrm
    refine Reach.val plain_prog (.bool true) (plain_code hn) hfs rfl rfl (by decide) (fun τ d => by simp [go_sem, execOp, Act.eval]) ?_
    walk_nrm
    refine Reach.unwanted plain_prog (plain_code hn) hfs rfl rfl ?_
    walk_nrm
    refine Reach.unwanted plain_prog (plain_code hn) hfs rfl rfl ?_
    walk_nrm
    refine Reach.unwanted plain_prog (plain_code hn) hfs rfl rfl ?_
    walk_nrm
    refine Reach.unwanted plain_prog (plain_code hn) hfs rfl rfl ?_
    walk_nrm
    refine Reach.val plain_prog (.bool true) (plain_code hn) hfs rfl rfl (by decide) (fun τ d => by simp [go_sem, execOp, Act.eval]) ?_
    walk_nrm
    refine Reach.val plain_prog (.bool true) (plain_code hn) hfs rfl rfl (by decide) (fun τ d => by simp [go_sem, execOp, Act.eval]) ?_
    walk_nrm
    refine Reach.val plain_prog (.bool true) (plain_code hn) hfs rfl rfl (by decide) (fun τ d => by simp [go_sem, execOp, Act.eval]) ?_
    walk_nrm
    refine Reach.regionEnd plain_prog (plain_code hn) hfs ?_
    refine Reach.ret plain_prog hn hfs ?_
    exact Reach.here fun d => ⟨_, .bool true, rfl, rfl, ⟨rfl, rfl, rfl, _, Try.func5, by simp [results, Try.f5, Frame.at]⟩, plain_code hn, rfl, b7.on _ _⟩
  have hc1 : ¬ c0 = 1 := fun e => hmz (hm0.2 e)
  by_cases hmb : 120 < m
  · refine Reach.region plain_prog (plain_code hn) hfs ?_
    simp only [List.size_toArray, List.length_cons, List.length_nil, Nat.reduceAdd, Nat.zero_add, List.range, List.range.loop]
    refine Reach.val plain_prog (.int .i64 m) (plain_code hn) hfs rfl rfl (by decide) (fun τ d => by simp [go_sem, execOp, Act.eval]) ?_
    walk_nrm
    refine Reach.val plain_prog (.bool false) (plain_code hn) hfs rfl rfl (by decide) (fun τ d => by simp [go_sem, execOp, Act.eval, hmz]) ?_
    walk_nrm
    refine Reach.val plain_prog (.slice (some ⟨b, off, none⟩) xs.length cap2) (plain_code hn) hfs rfl rfl (by decide) (fun τ d => by simp [go_sem, execOp, Act.eval]) ?_
    walk_nrm
    refine Reach.val plain_prog (.pointer (some ⟨b, off, none⟩)) (plain_code hn) hfs rfl rfl (by decide) (fun τ d => by simp [go_sem, execOp, Act.eval, hlt2]) ?_
    walk_nrm
    refine Reach.val plain_prog (.int .i64 c0) (plain_code hn) hfs rfl rfl (by decide) (fun τ d => by simp [go_sem, execOp, Act.eval, on_cell, hc7]) ?_
    walk_nrm
    refine Reach.val plain_prog (.bool false) (plain_code hn) hfs rfl rfl (by decide) (fun τ d => by simp [go_sem, execOp, Act.eval, hc1]) ?_
    walk_nrm
    refine Reach.val plain_prog (.bool true) (plain_code hn) hfs rfl rfl (by decide) (fun τ d => by simp [go_sem, execOp, Act.eval]) ?_
    walk_nrm
    refine Reach.val plain_prog (.bool true) (plain_code hn) hfs rfl rfl (by decide) (fun τ d => by simp [go_sem, execOp, Act.eval]) ?_
    walk_nrm
    refine Reach.val plain_prog (.int .i64 m) (plain_code hn) hfs rfl rfl (by decide) (fun τ d => by simp [go_sem, execOp, Act.eval]) ?_
    walk_nrm
    refine Reach.val plain_prog (.bool false) (plain_code hn) hfs rfl rfl (by decide) (fun τ d => by simp [go_sem, execOp, Act.eval, hmz]) ?_
    walk_nrm
    refine Reach.val plain_prog (.bool false) (plain_code hn) hfs rfl rfl (by decide) (fun τ d => by simp [go_sem, execOp, Act.eval]) ?_
    walk_nrm
    refine Reach.val plain_prog (.int .i64 m) (plain_code hn) hfs rfl rfl (by decide) (fun τ d => by simp [go_sem, execOp, Act.eval]) ?_
    walk_nrm
    refine Reach.val plain_prog (.bool true) (plain_code hn) hfs rfl rfl (by decide) (fun τ d => by simp [go_sem, execOp, Act.eval, hmb]) ?_
    walk_nrm
    refine Reach.val plain_prog (.bool true) (plain_code hn) hfs rfl rfl (by decide) (fun τ d => by simp [go_sem, execOp, Act.eval]) ?_
    walk_nrm
    refine Reach.val plain_prog (.bool true) (plain_code hn) hfs rfl rfl (by decide) (fun τ d => by simp [go_sem, execOp, Act.eval]) ?_
    walk_nrm
    refine Reach.unwanted plain_prog (plain_code hn) hfs rfl rfl ?_
    walk_nrm
    refine Reach.unwanted plain_prog (plain_code hn) hfs rfl rfl ?_
    walk_nrm
    refine Reach.unwanted plain_prog (plain_code hn) hfs rfl rfl ?_
    walk_nrm
    refine Reach.unwanted plain_prog (plain_code hn) hfs rfl rfl ?_
    walk_nrm
    refine Reach.val plain_prog (.bool true) (plain_code hn) hfs rfl rfl (by decide) (fun τ d => by simp [go_sem, execOp, Act.eval]) ?_
    walk_nrm
    refine Reach.val plain_prog (.bool true) (plain_code hn) hfs rfl rfl (by decide) (fun τ d => by simp [go_sem, execOp, Act.eval]) ?_
    walk_nrm
    refine Reach.val plain_prog (.bool true) (plain_code hn) hfs rfl rfl (by decide) (fun τ d => by simp [go_sem, execOp, Act.eval]) ?_
    walk_nrm
    refine Reach.regionEnd plain_prog (plain_code hn) hfs ?_
    refine Reach.ret plain_prog hn hfs ?_
    exact Reach.here fun d => ⟨_, .bool true, rfl, rfl, ⟨rfl, rfl, rfl, _, Try.func5, by simp [results, Try.f5, Frame.at]⟩, plain_code hn, rfl, b7.on _ _⟩
  have hwy : waysV xs m = wyV xs m := ways_at hvc (by omega) (by omega)
  have hwz : wyV xs m = 0 := by rw [← hwy]; exact hmp hmz (by omega)
  refine Reach.region plain_prog (plain_code hn) hfs ?_
  simp only [List.size_toArray, List.length_cons, List.length_nil, Nat.reduceAdd, Nat.zero_add, List.range, List.range.loop]
  refine Reach.val plain_prog (.int .i64 m) (plain_code hn) hfs rfl rfl (by decide) (fun τ d => by simp [go_sem, execOp, Act.eval]) ?_
  walk_nrm
  refine Reach.val plain_prog (.bool false) (plain_code hn) hfs rfl rfl (by decide) (fun τ d => by simp [go_sem, execOp, Act.eval, hmz]) ?_
  walk_nrm
  refine Reach.val plain_prog (.slice (some ⟨b, off, none⟩) xs.length cap2) (plain_code hn) hfs rfl rfl (by decide) (fun τ d => by simp [go_sem, execOp, Act.eval]) ?_
  walk_nrm
  refine Reach.val plain_prog (.pointer (some ⟨b, off, none⟩)) (plain_code hn) hfs rfl rfl (by decide) (fun τ d => by simp [go_sem, execOp, Act.eval, hlt2]) ?_
  walk_nrm
  refine Reach.val plain_prog (.int .i64 c0) (plain_code hn) hfs rfl rfl (by decide) (fun τ d => by simp [go_sem, execOp, Act.eval, on_cell, hc7]) ?_
  walk_nrm
  refine Reach.val plain_prog (.bool false) (plain_code hn) hfs rfl rfl (by decide) (fun τ d => by simp [go_sem, execOp, Act.eval, hc1]) ?_
  walk_nrm
  refine Reach.val plain_prog (.bool true) (plain_code hn) hfs rfl rfl (by decide) (fun τ d => by simp [go_sem, execOp, Act.eval]) ?_
  walk_nrm
  refine Reach.val plain_prog (.bool true) (plain_code hn) hfs rfl rfl (by decide) (fun τ d => by simp [go_sem, execOp, Act.eval]) ?_
  walk_nrm
  refine Reach.val plain_prog (.int .i64 m) (plain_code hn) hfs rfl rfl (by decide) (fun τ d => by simp [go_sem, execOp, Act.eval]) ?_
  walk_nrm
  refine Reach.val plain_prog (.bool false) (plain_code hn) hfs rfl rfl (by decide) (fun τ d => by simp [go_sem, execOp, Act.eval, hmz]) ?_
  walk_nrm
  refine Reach.val plain_prog (.bool false) (plain_code hn) hfs rfl rfl (by decide) (fun τ d => by simp [go_sem, execOp, Act.eval]) ?_
  walk_nrm
  refine Reach.val plain_prog (.int .i64 m) (plain_code hn) hfs rfl rfl (by decide) (fun τ d => by simp [go_sem, execOp, Act.eval]) ?_
  walk_nrm
  refine Reach.val plain_prog (.bool false) (plain_code hn) hfs rfl rfl (by decide) (fun τ d => by simp [go_sem, execOp, Act.eval, hmb]) ?_
  walk_nrm
  refine Reach.val plain_prog (.bool false) (plain_code hn) hfs rfl rfl (by decide) (fun τ d => by simp [go_sem, execOp, Act.eval]) ?_
  walk_nrm
  refine Reach.val plain_prog (.bool false) (plain_code hn) hfs rfl rfl (by decide) (fun τ d => by simp [go_sem, execOp, Act.eval]) ?_
  walk_nrm
  refine Reach.val plain_prog (.slice (some ⟨b, off, none⟩) xs.length cap2) (plain_code hn) hfs rfl rfl (by decide) (fun τ d => by simp [go_sem, execOp, Act.eval]) ?_
  walk_nrm
  refine Reach.val plain_prog (.int .i64 m) (plain_code hn) hfs rfl rfl (by decide) (fun τ d => by simp [go_sem, execOp, Act.eval]) ?_
  walk_nrm
  refine Reach.call plain_prog (f := 8) (args := #[.slice (some ⟨b, off, none⟩) xs.length cap2, .int .i64 m]) (plain_code hn) hfs rfl rfl (by decide) (fun w => by simp [go_sem, execOp, Act.eval]) (all_ways xs m w7 o7.ints hvc ⟨by omega, by omega⟩ hcp) ?_
  rintro _ w8 ⟨rfl, hb8⟩
  walk_nrm
  refine Reach.val plain_prog (.bool true) (plain_code hn) hfs rfl rfl (by decide) (fun τ d => by simp [go_sem, execOp, Act.eval, hwz]) ?_
  walk_nrm
  refine Reach.val plain_prog (.bool true) (plain_code hn) hfs rfl rfl (by decide) (fun τ d => by simp [go_sem, execOp, Act.eval]) ?_
  walk_nrm
  refine Reach.val plain_prog (.bool true) (plain_code hn) hfs rfl rfl (by decide) (fun τ d => by simp [go_sem, execOp, Act.eval]) ?_
  walk_nrm
  refine Reach.val plain_prog (.bool true) (plain_code hn) hfs rfl rfl (by decide) (fun τ d => by simp [go_sem, execOp, Act.eval]) ?_
  walk_nrm
  refine Reach.regionEnd plain_prog (plain_code hn) hfs ?_
  refine Reach.ret plain_prog hn hfs ?_
  exact Reach.here fun d => ⟨_, .bool true, rfl, rfl, ⟨rfl, rfl, rfl, _, Try.func5, by simp [results, Try.f5, Frame.at]⟩, plain_code hn, rfl, (b7.trans (hb8.mono b7.size)).on _ _⟩
end Go.Proofs.Ytkhmooemgjichaa
