/- The answer to in how many ways coins pay, beside others that only leave. -/
import Derived.Test.YtpenbkfchgeafaaGreatDoorQHw
import Derived.Test.YtpenbkfchgeafaaGreatDoorQDnh
namespace Go.Proofs.YtpenbkfchgeafaaGreatDoor
open Go Go.Conc Go.RowKit Go.Lib

theorem LaidW.on {w : World} (h : LaidW w) (τ : Tp) (d : Nat) : LaidW (On w τ d) := ⟨h.pow, h.syn, h.rng, h.cap, h.word, h.other, h.handle⟩
theorem LaidW.belX {w w' : World} (h : LaidW w) (hb : BelX w.heap.size w w') : LaidW w' := LaidW.below (show LaidW (On w w'.tape 0) from h.on _ _) hb.belowOn
theorem LaidW.stepX {w w' : World} {n : Nat} (h : LaidW w) (hb : BelX n w w') (hn : w.heap.size ≤ n) : LaidW w' := h.belX (hb.mono hn)
/-- A contract alone with 'Below', beside others. -/
theorem CallsB.ofBelow {f : FuncId} {args : Array Value} {w : World} {Rv : Value → Prop} (h : ∀ τ, Calls Tryz.prog f args (On w τ 0) fun e w' => ∃ v, e = .returned v ∧ Rv v ∧ Below w.heap.size (On w τ 0) w') : CallsB Tryz.prog f args w fun v w' => Rv v ∧ BelX w.heap.size w w' :=
  CallsB.ofCalls plain_prog (fun v u τ d h => ⟨h.1, h.2.on τ d⟩) fun τ => (h τ).mono fun _ _ h => by
    obtain ⟨v, rfl, h1, h2⟩ := h
    exact ⟨v, rfl, h1, BelX.ofOn h2⟩
theorem itoa_B (n : Int) (w : World) (h0 : -9223372036854775808 ≤ n) (h1 : n ≤ 9223372036854775807) (hL : LaidW w) :
    CallsB Tryz.prog 67 #[.int .i64 n] w fun x w' => x = strV (itoa n) ∧ BelX w.heap.size w w' :=
  CallsB.ofBelow fun τ => (itoa_impl n (On w τ 0) h0 h1 (hL.on τ 0)).mono fun _ _ h => ⟨_, h.1, rfl, h.2⟩
theorem ways_can {cs : List Int} {a : Int} (h : (vCoins cs && inR a 0 120) = true) : 0 ≤ waysV cs a ∧ waysV cs a ≤ 9223372036854775807 := by
  rw [Bool.and_eq_true] at h
  have e : waysV cs a = wyV cs a := if_pos h
  have hz := inR_true h.2
  have h1 := wy_nonneg cs a
  have h2 := wy_le (vc_pos h.1) (vc_len h.1).2 hz.2
  rw [e]
  omega


set_option maxRecDepth 100000 in
set_option maxHeartbeats 1600000 in
theorem waysAnswer_yes (x : Int) (v : Value) (ns : List Int) (w : World) (hv : IsInts w v ns) (hl : ns.length ≤ 1048576) (hcap : ∀ a n c, v = .slice a n c → n ≤ c) (hL : LaidW w) (hc : (vCoins ns && inR x 0 120) = true) :
    CallsB Tryz.prog 59 #[v, .int .i64 x] w fun r w' => r = strV (saidV tWays x ns) ∧ BelX w.heap.size w w' := by
  have HE : strV (saidV tWays x ns) = strV (itoa (waysV ns x)) := by
    have h0 := (ways_can hc).1
    have e : saidV tWays x ns = if waysV ns x < 0 then [] else itoa (waysV ns x) := rfl
    rw [e, if_neg (by omega)]
  have hv' := hv
  obtain ⟨va, vc, rfl, _⟩ := hv'
  intro fs hfs
  rw [enter_bN _ Tryz.func59 rfl]
  simp only [Tryz.ntmps59, List.size_toArray, List.length_cons, List.length_nil, Nat.reduceAdd, Nat.reduceSub, Array.replicate_succ, Array.replicate_zero, List.push_toArray, List.append_toArray, List.nil_append, List.cons_append]
  have hn := PlainT.nil
  refine Reach.seq plain_prog hn hfs ?_
  refine Reach.region plain_prog (plain_code hn) hfs ?_
  simp only [List.size_toArray, List.length_cons, List.length_nil, Nat.zero_add, List.range, List.range.loop]
  refine Reach.val plain_prog (.string ⟨#[]⟩) (plain_code hn) hfs rfl rfl (by decide) (fun τ d => by simp [go_sem, execOp, Act.eval]) ?_
  walk_nrm
  refine Reach.regionEnd plain_prog (plain_code hn) hfs ?_
  refine Reach.seq plain_prog hn hfs ?_
  refine Reach.seq plain_prog (plain_code hn) hfs ?_
  refine Reach.region plain_prog (plain_code (plain_code hn)) hfs ?_
  simp only [List.size_toArray, List.length_cons, List.length_nil, Nat.reduceAdd, Nat.zero_add, List.range, List.range.loop]
  refine Reach.val plain_prog (.slice va ns.length vc) (plain_code (plain_code hn)) hfs rfl rfl (by decide) (fun τ d => by simp [go_sem, execOp, Act.eval]) ?_
  walk_nrm
  refine Reach.val plain_prog (.int .i64 x) (plain_code (plain_code hn)) hfs rfl rfl (by decide) (fun τ d => by simp [go_sem, execOp, Act.eval]) ?_
  walk_nrm
  refine Reach.call plain_prog (f := 76) (args := #[.slice va ns.length vc, .int .i64 x]) (plain_code (plain_code hn)) hfs rfl rfl (by decide) (fun w => by simp [go_sem, execOp, Act.eval]) (canPay_B _ ns x true w hv (by omega) hc) ?_
  rintro _ w1 ⟨rfl, hs1⟩
  walk_nrm
  have b1 : BelX w.heap.size w w1 := (BelX.refl _ _).same hs1
  clear hs1
  refine Reach.val plain_prog (.bool false) (plain_code (plain_code hn)) hfs rfl rfl (by decide) (fun τ d => by simp [go_sem, execOp, Act.eval]) ?_
  walk_nrm
  refine Reach.regionEnd plain_prog (plain_code (plain_code hn)) hfs ?_
  refine Reach.cond plain_prog false rfl (plain_code hn) hfs ?_
  simp only [Bool.false_eq_true, if_false]
  refine Reach.skip plain_prog (plain_code hn) hfs ?_
  refine Reach.seq plain_prog hn hfs ?_
  refine Reach.region plain_prog (plain_code hn) hfs ?_
  simp only [List.size_toArray, List.length_cons, List.length_nil, Nat.reduceAdd, Nat.zero_add, List.range, List.range.loop]
  refine Reach.val plain_prog (.slice va ns.length vc) (plain_code hn) hfs rfl rfl (by decide) (fun τ d => by simp [go_sem, execOp, Act.eval]) ?_
  walk_nrm
  refine Reach.val plain_prog (.int .i64 x) (plain_code hn) hfs rfl rfl (by decide) (fun τ d => by simp [go_sem, execOp, Act.eval]) ?_
  walk_nrm
  refine Reach.call plain_prog (f := 77) (args := #[.slice va ns.length vc, .int .i64 x]) (plain_code hn) hfs rfl rfl (by decide) (fun w => by simp [go_sem, execOp, Act.eval]) (WaysOf_any _ ns x w1 (ints_belX hv b1) (by omega) hcap) ?_
  rintro _ w2 ⟨rfl, hb2⟩
  walk_nrm
  have b2 : BelX w.heap.size w w2 := b1.trans (hb2.mono b1.size)
  refine Reach.call plain_prog (f := 67) (args := #[.int .i64 (waysV ns x)]) (plain_code hn) hfs rfl rfl (by decide) (fun w => by simp [go_sem, execOp, Act.eval]) (itoa_B _ w2 (by have := (ways_can hc).1; omega) (ways_can hc).2 (hL.belX b2)) ?_
  rintro _ w3 ⟨rfl, hb3⟩
  walk_nrm
  have b3 : BelX w.heap.size w w3 := b2.trans (hb3.mono b2.size)
  refine Reach.val plain_prog (strV (itoa (waysV ns x))) (plain_code hn) hfs rfl rfl (by decide) (fun τ d => by simp [go_sem, execOp, Act.eval]) ?_
  walk_nrm
  refine Reach.regionEnd plain_prog (plain_code hn) hfs ?_
  refine Reach.ret plain_prog hn hfs ?_
  exact Reach.here fun d => ⟨_, _, rfl, rfl, ⟨rfl, rfl, rfl, _, Tryz.func59, by simp [results, Tryz.f59, Frame.at]⟩, plain_code hn, HE.symm, b3.on _ _⟩

set_option maxRecDepth 100000 in
set_option maxHeartbeats 1600000 in
theorem waysAnswer_no (x : Int) (v : Value) (ns : List Int) (w : World) (hv : IsInts w v ns) (hl : ns.length ≤ 1048576) (hc : (vCoins ns && inR x 0 120) = false) :
    Calls Tryz.prog 59 #[v, .int .i64 x] w fun e w' => e = .returned (strV (saidV tWays x ns)) ∧ Below w.heap.size w w' := by
  have HC := Lib.hid (canPayBy_impl v ns x w hv (by omega))
  have HE : Hid (saidV tWays x ns = []) := by
    show _ = _
    have e : saidV tWays x ns = if waysV ns x < 0 then [] else itoa (waysV ns x) := rfl
    have e1 : waysV ns x = -1 := by
      unfold waysV
      rw [if_neg]
      rw [← Bool.and_eq_true, hc]
      simp
    rw [e, e1]
    rfl
  rw [hc] at HC
  obtain ⟨va, vc, rfl, _⟩ := hv
  go_enter Tryz.func59, Tryz.ntmps59
  go_wp2_with (go_at_call 76; refine HC.out.mono ?_; rintro e w2 ⟨rfl, hd⟩)
  go_ret
  exact ⟨congrArg (fun l => Ending.returned (strV l)) HE.out.symm, drawn_below hd⟩
theorem waysAnswer_B (x : Int) (v : Value) (ns : List Int) (w : World) (hv : IsInts w v ns) (hl : ns.length ≤ 1048576) (hcap : ∀ a n c, v = .slice a n c → n ≤ c) (hL : LaidW w) :
    CallsB Tryz.prog 59 #[v, .int .i64 x] w fun r w' => r = strV (saidV tWays x ns) ∧ BelX w.heap.size w w' := by
  cases hc : (vCoins ns && inR x 0 120) with
  | true => exact waysAnswer_yes x v ns w hv hl hcap hL hc
  | false => exact CallsB.ofBelow fun τ => (waysAnswer_no x v ns (On w τ 0) hv hl hc).mono fun _ _ h => ⟨_, h.1, rfl, h.2⟩


set_option maxRecDepth 100000 in
set_option maxHeartbeats 1600000 in
theorem answer_ways_B (q : ByteArray) (x : Int) (v : Value) (ns : List Int) (w : World) (hv : IsInts w v ns) (hl : ns.length ≤ 1048576) (hcap : ∀ a n c, v = .slice a n c → n ≤ c) (hL : LaidW w) (h : q.data.toList = tWays) :
    CallsB Tryz.prog 42 #[.agg #[.string q, .int .i64 x, v]] w fun r w' => r = strV (saidV tWays x ns) ∧ BelX w.heap.size w w' := by
  have k_rest : (q.toList == [114, 101, 115, 116]) = false := by rw [text_is, h]; decide
  have k_sums : (q.toList == [115, 117, 109, 115]) = false := by rw [text_is, h]; decide
  have k_bill : (q.toList == [98, 105, 108, 108]) = false := by rw [text_is, h]; decide
  have k_ways : (q.toList == [119, 97, 121, 115]) = true := by rw [text_is, h]; decide
  intro fs hfs
  rw [enter_bN _ Tryz.func42 rfl]
  simp only [Tryz.ntmps42, List.size_toArray, List.length_cons, List.length_nil, Nat.reduceAdd, Nat.reduceSub, Array.replicate_succ, Array.replicate_zero, List.push_toArray, List.append_toArray, List.nil_append, List.cons_append]
  have hn := PlainT.nil
  refine Reach.seq plain_prog hn hfs ?_
  refine Reach.region plain_prog (plain_code hn) hfs ?_
  simp only [List.size_toArray, List.length_cons, List.length_nil, Nat.reduceAdd, Nat.zero_add, List.range, List.range.loop]
  refine Reach.opv plain_prog (.pointer (some ⟨w.heap.size, 0, none⟩)) (w.alloc (.cells #[.string q, .int .i64 x, v] 72)) rfl (plain_code hn) hfs rfl rfl (by decide) (fun τ d => by rfl) ?_
  walk_nrm
  refine Reach.val plain_prog (.string ⟨#[]⟩) (plain_code hn) hfs rfl rfl (by decide) (fun τ d => by simp [go_sem, execOp, Act.eval]) ?_
  walk_nrm
  refine Reach.regionEnd plain_prog (plain_code hn) hfs ?_
  have hb1 : Below w.heap.size w (w.alloc (.cells #[.string q, .int .i64 x, v] 72)) := (Below.refl _ _).alloc (Nat.le_refl _) _
  have b1 := BelX.of hb1
  have hq : QCells (w.alloc (.cells #[.string q, .int .i64 x, v] 72)) w.heap.size (.string q) (.int .i64 x) v := QCells.of (World.alloc_heap_new w _)
  have c0 := hq.1.1
  have c1 := hq.1.2.1
  have c2 := hq.1.2.2
  have hv1 := hv.below hb1
  have hL1 := hL.below hb1
  have hz : (w.alloc (.cells #[.string q, .int .i64 x, v] 72)).heap.size = w.heap.size + 1 := by simp
  generalize w.alloc (.cells #[.string q, .int .i64 x, v] 72) = w1 at *
  clear hb1 hq
  refine Reach.seq plain_prog hn hfs ?_
  refine Reach.seq plain_prog (plain_code hn) hfs ?_
  refine Reach.region plain_prog (plain_code (plain_code hn)) hfs ?_
  simp only [List.size_toArray, List.length_cons, List.length_nil, Nat.reduceAdd, Nat.zero_add, List.range, List.range.loop]
  refine Reach.val plain_prog (.pointer (some ⟨w.heap.size, 0, none⟩)) (plain_code (plain_code hn)) hfs rfl rfl (by decide) (fun τ d => by simp [go_sem, execOp, Act.eval]) ?_
  walk_nrm
  refine Reach.val plain_prog (.string q) (plain_code (plain_code hn)) hfs rfl rfl (by decide) (fun τ d => by simp [go_sem, execOp, Act.eval, on_cell, c0]) ?_
  walk_nrm
  refine Reach.regionEnd plain_prog (plain_code (plain_code hn)) hfs ?_
  refine Reach.block plain_prog (plain_code hn) hfs ?_
  refine Reach.seq plain_prog (plain_item (x := .inBlock 0) trivial (plain_code hn)) hfs ?_
  refine Reach.region plain_prog (plain_code (plain_item (x := .inBlock 0) trivial (plain_code hn))) hfs ?_
  simp only [List.size_toArray, List.length_cons, List.length_nil, Nat.reduceAdd, Nat.zero_add, List.range, List.range.loop]
  refine Reach.val plain_prog (.bool false) (plain_code (plain_item (x := .inBlock 0) trivial (plain_code hn))) hfs rfl rfl (by decide) (fun τ d => by simp [go_sem, execOp, Act.eval, k_rest]) ?_
  walk_nrm
  refine Reach.val plain_prog (.bool false) (plain_code (plain_item (x := .inBlock 0) trivial (plain_code hn))) hfs rfl rfl (by decide) (fun τ d => by simp [go_sem, execOp, Act.eval]) ?_
  walk_nrm
  refine Reach.regionEnd plain_prog (plain_code (plain_item (x := .inBlock 0) trivial (plain_code hn))) hfs ?_
  refine Reach.cond plain_prog false rfl (plain_item (x := .inBlock 0) trivial (plain_code hn)) hfs ?_
  simp only [Bool.false_eq_true, if_false]
  refine Reach.seq plain_prog (plain_item (x := .inBlock 0) trivial (plain_code hn)) hfs ?_
  refine Reach.region plain_prog (plain_code (plain_item (x := .inBlock 0) trivial (plain_code hn))) hfs ?_
  simp only [List.size_toArray, List.length_cons, List.length_nil, Nat.reduceAdd, Nat.zero_add, List.range, List.range.loop]
  refine Reach.val plain_prog (.bool false) (plain_code (plain_item (x := .inBlock 0) trivial (plain_code hn))) hfs rfl rfl (by decide) (fun τ d => by simp [go_sem, execOp, Act.eval, k_sums]) ?_
  walk_nrm
  refine Reach.val plain_prog (.bool false) (plain_code (plain_item (x := .inBlock 0) trivial (plain_code hn))) hfs rfl rfl (by decide) (fun τ d => by simp [go_sem, execOp, Act.eval]) ?_
  walk_nrm
  refine Reach.regionEnd plain_prog (plain_code (plain_item (x := .inBlock 0) trivial (plain_code hn))) hfs ?_
  refine Reach.cond plain_prog false rfl (plain_item (x := .inBlock 0) trivial (plain_code hn)) hfs ?_
  simp only [Bool.false_eq_true, if_false]
  refine Reach.seq plain_prog (plain_item (x := .inBlock 0) trivial (plain_code hn)) hfs ?_
  refine Reach.region plain_prog (plain_code (plain_item (x := .inBlock 0) trivial (plain_code hn))) hfs ?_
  simp only [List.size_toArray, List.length_cons, List.length_nil, Nat.reduceAdd, Nat.zero_add, List.range, List.range.loop]
  refine Reach.val plain_prog (.bool false) (plain_code (plain_item (x := .inBlock 0) trivial (plain_code hn))) hfs rfl rfl (by decide) (fun τ d => by simp [go_sem, execOp, Act.eval, k_bill]) ?_
  walk_nrm
  refine Reach.val plain_prog (.bool false) (plain_code (plain_item (x := .inBlock 0) trivial (plain_code hn))) hfs rfl rfl (by decide) (fun τ d => by simp [go_sem, execOp, Act.eval]) ?_
  walk_nrm
  refine Reach.regionEnd plain_prog (plain_code (plain_item (x := .inBlock 0) trivial (plain_code hn))) hfs ?_
  refine Reach.cond plain_prog false rfl (plain_item (x := .inBlock 0) trivial (plain_code hn)) hfs ?_
  simp only [Bool.false_eq_true, if_false]
  refine Reach.seq plain_prog (plain_item (x := .inBlock 0) trivial (plain_code hn)) hfs ?_
  refine Reach.region plain_prog (plain_code (plain_item (x := .inBlock 0) trivial (plain_code hn))) hfs ?_
  simp only [List.size_toArray, List.length_cons, List.length_nil, Nat.reduceAdd, Nat.zero_add, List.range, List.range.loop]
  refine Reach.val plain_prog (.bool true) (plain_code (plain_item (x := .inBlock 0) trivial (plain_code hn))) hfs rfl rfl (by decide) (fun τ d => by simp [go_sem, execOp, Act.eval, k_ways]) ?_
  walk_nrm
  refine Reach.val plain_prog (.bool true) (plain_code (plain_item (x := .inBlock 0) trivial (plain_code hn))) hfs rfl rfl (by decide) (fun τ d => by simp [go_sem, execOp, Act.eval]) ?_
  walk_nrm
  refine Reach.regionEnd plain_prog (plain_code (plain_item (x := .inBlock 0) trivial (plain_code hn))) hfs ?_
  refine Reach.cond plain_prog true rfl (plain_item (x := .inBlock 0) trivial (plain_code hn)) hfs ?_
  simp only [if_true]
  refine Reach.seq plain_prog (plain_item (x := .inBlock 0) trivial (plain_code hn)) hfs ?_
  refine Reach.region plain_prog (plain_code (plain_item (x := .inBlock 0) trivial (plain_code hn))) hfs ?_
  simp only [List.size_toArray, List.length_cons, List.length_nil, Nat.reduceAdd, Nat.zero_add, List.range, List.range.loop]
  refine Reach.val plain_prog (.pointer (some ⟨w.heap.size, 2, none⟩)) (plain_code (plain_item (x := .inBlock 0) trivial (plain_code hn))) hfs rfl rfl (by decide) (fun τ d => by simp [go_sem, execOp, Act.eval]) ?_
  walk_nrm
  refine Reach.val plain_prog (v) (plain_code (plain_item (x := .inBlock 0) trivial (plain_code hn))) hfs rfl rfl (by decide) (fun τ d => by simp [go_sem, execOp, Act.eval, on_cell, c2]) ?_
  walk_nrm
  refine Reach.val plain_prog (.pointer (some ⟨w.heap.size, 1, none⟩)) (plain_code (plain_item (x := .inBlock 0) trivial (plain_code hn))) hfs rfl rfl (by decide) (fun τ d => by simp [go_sem, execOp, Act.eval]) ?_
  walk_nrm
  refine Reach.val plain_prog (.int .i64 x) (plain_code (plain_item (x := .inBlock 0) trivial (plain_code hn))) hfs rfl rfl (by decide) (fun τ d => by simp [go_sem, execOp, Act.eval, on_cell, c1]) ?_
  walk_nrm
  refine Reach.call plain_prog (f := 59) (args := #[v, .int .i64 x]) (plain_code (plain_item (x := .inBlock 0) trivial (plain_code hn))) hfs rfl rfl (by decide) (fun w => by simp [go_sem, execOp, Act.eval]) (waysAnswer_B x v ns w1 hv1 hl hcap hL1) ?_
  rintro _ w2 ⟨rfl, hb2⟩
  walk_nrm
  have b2 : BelX w.heap.size w w2 := b1.trans (hb2.mono b1.size)
  refine Reach.val plain_prog (strV (saidV tWays x ns)) (plain_code (plain_item (x := .inBlock 0) trivial (plain_code hn))) hfs rfl rfl (by decide) (fun τ d => by simp [go_sem, execOp, Act.eval]) ?_
  walk_nrm
  refine Reach.regionEnd plain_prog (plain_code (plain_item (x := .inBlock 0) trivial (plain_code hn))) hfs ?_
  refine Reach.ret plain_prog (plain_item (x := .inBlock 0) trivial (plain_code hn)) hfs ?_
  exact Reach.here fun d => ⟨_, _, rfl, rfl, ⟨rfl, rfl, rfl, _, Tryz.func42, by simp [results, Tryz.f42, Frame.at]⟩, plain_code (plain_item (x := .inBlock 0) trivial (plain_code hn)), rfl, b2.on _ _⟩
end Go.Proofs.YtpenbkfchgeafaaGreatDoor
