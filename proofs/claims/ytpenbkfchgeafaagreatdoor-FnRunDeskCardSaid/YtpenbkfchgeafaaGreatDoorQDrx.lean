/- The answer to a line, and what is said in its place, beside others that only leave. -/
import Derived.Test.YtpenbkfchgeafaaGreatDoorQDrw
import Derived.Test.YtpenbkfchgeafaaGreatDoorQDnh
import Derived.Test.YtpenbkfchgeafaaGreatDoorQDas
namespace Go.Proofs.YtpenbkfchgeafaaGreatDoor
open Go Go.Conc Go.RowKit Go.Lib

theorem own_onX {w w' : World} {B : Nat} {v : Value} {xs : List Int} (h : Own w B v xs) (hb : BelX w.heap.size w w') : Own w' B v xs := own_belX h hb
theorem QCells.on {w : World} {b : Nat} {x y z : Value} (h : QCells w b x y z) (τ : Tp) (d : Nat) : QCells (On w τ d) b x y z := h
theorem OwnOn {w : World} {B : Nat} {v : Value} {xs : List Int} (h : Own w B v xs) (τ : Tp) (d : Nat) : Own (On w τ d) B v xs := h


set_option maxRecDepth 100000 in
set_option maxHeartbeats 1600000 in
theorem answerTo_ways_B (s : ByteArray) (w : World) (hs : s.size ≤ 1048575) (hL : LaidW w) {x : Int} {ns : List Int} (hask : askV s.data.toList = .ask tWays x ns) :
    CallsB Tryz.prog 27 #[.string s] w fun v w' => answered s.data.toList v ∧ BelX w.heap.size w w' := by
  intro fs hfs
  rw [enter_bN _ Tryz.func27 rfl]
  simp only [Tryz.ntmps27, List.size_toArray, List.length_cons, List.length_nil, Nat.reduceAdd, Nat.reduceSub, Array.replicate_succ, Array.replicate_zero, List.push_toArray, List.append_toArray, List.nil_append, List.cons_append]
  have hn := PlainT.nil
  refine Reach.seq plain_prog hn hfs ?_
  refine Reach.region plain_prog (plain_code hn) hfs ?_
  simp only [List.size_toArray, List.length_cons, List.length_nil, Nat.reduceAdd, Nat.zero_add, List.range, List.range.loop]
  refine Reach.val plain_prog (.string ⟨#[]⟩) (plain_code hn) hfs rfl rfl (by decide) (fun τ d => by simp [go_sem, execOp, Act.eval]) ?_
  walk_nrm
  refine Reach.val plain_prog (.nilIface) (plain_code hn) hfs rfl rfl (by decide) (fun τ d => by simp [go_sem, execOp, Act.eval]) ?_
  walk_nrm
  refine Reach.regionEnd plain_prog (plain_code hn) hfs ?_
  refine Reach.seq plain_prog hn hfs ?_
  refine Reach.code plain_prog (Qx := fun a' w' => ∃ q v g, a' = ⟨#[.string s, undef, .string ⟨#[]⟩, .nilIface, .pointer (some ⟨g, 0, none⟩), .nilIface, undef, .tuple #[.agg #[.string q, .int .i64 x, v], .nilIface], .string s, .tuple #[.agg #[.string q, .int .i64 x, v], .nilIface], .agg #[.string q, .int .i64 x, v], .nilIface, undef, undef, undef, undef, undef, undef, undef, undef, undef, undef], []⟩ ∧ q.data.toList = tWays ∧ QCells w' g (.string q) (.int .i64 x) v ∧ Own w' w.heap.size v ns ∧ BelX w.heap.size w w') (plain_code hn) hfs (fun a u τ d h => by
    obtain ⟨q, v, g, h1, h2, h3, h4, h5⟩ := h
    exact ⟨q, v, g, h1, h2, h3.on τ d, OwnOn h4 τ d, h5.on τ d⟩) (fun τ => ?_) ?_
  · have HQ := Lib.hid (questionOf_impl s (On w τ 0) hs (hL.on τ 0))
    clear hL
    go_wp2_with fail
    refine HQ.out.mono ?_
    rintro e w1 ⟨qv, er, rfl, hk, b1⟩
    unfold asked at hk
    rw [hask] at hk
    obtain ⟨rfl, q, v, rfl, hq, ho⟩ := hk
    obtain ⟨va, vm, vc, rfl⟩ := row_slice (show w1.ownsRow (On w τ 0).heap.size 3 1 v ns.length (ns.map (Value.int .i64)) from ho)
    have b2 := (Below.refl w1.heap.size w1).alloc (Nat.le_refl _) (.cells #[.string q, .int .i64 x, .slice va vm vc] 72)
    have HR : Hid (q.data.toList = tWays ∧ QCells (w1.alloc (.cells #[.string q, .int .i64 x, .slice va vm vc] 72)) w1.heap.size (.string q) (.int .i64 x) (.slice va vm vc) ∧ Own (w1.alloc (.cells #[.string q, .int .i64 x, .slice va vm vc] 72)) w.heap.size (.slice va vm vc) ns ∧ BelX w.heap.size w (w1.alloc (.cells #[.string q, .int .i64 x, .slice va vm vc] 72))) :=
      ⟨hq, QCells.of (World.alloc_heap_new w1 _), ho.below b2, BelX.ofOn (τ := τ) (d := 0) (b1.trans (b2.mono b1.size))⟩
    clear hq ho b1 b2 hask
    go_wp2
    exact ⟨q, _, _, ⟨rfl, rfl, rfl⟩, HR.out⟩
  rintro _ w1 ⟨q, v, g, rfl, hq, hc, ho, b1⟩
  have c0 := hc.1.1
  have c1 := hc.1.2.1
  have c2 := hc.1.2.2
  refine Reach.seq plain_prog hn hfs ?_
  refine Reach.seq plain_prog (plain_code hn) hfs ?_
  refine Reach.region plain_prog (plain_code (plain_code hn)) hfs ?_
  simp only [List.size_toArray, List.length_cons, List.length_nil, Nat.reduceAdd, Nat.zero_add, List.range, List.range.loop]
  refine Reach.val plain_prog (.nilIface) (plain_code (plain_code hn)) hfs rfl rfl (by decide) (fun τ d => by simp [go_sem, execOp, Act.eval]) ?_
  walk_nrm
  refine Reach.val plain_prog (.bool false) (plain_code (plain_code hn)) hfs rfl rfl (by decide) (fun τ d => by simp [go_sem, execOp, Act.eval]) ?_
  walk_nrm
  refine Reach.regionEnd plain_prog (plain_code (plain_code hn)) hfs ?_
  refine Reach.cond plain_prog false rfl (plain_code hn) hfs ?_
  simp only [Bool.false_eq_true, if_false]
  refine Reach.skip plain_prog (plain_code hn) hfs ?_
  refine Reach.seq plain_prog hn hfs ?_
  refine Reach.region plain_prog (plain_code hn) hfs ?_
  simp only [List.size_toArray, List.length_cons, List.length_nil, Nat.reduceAdd, Nat.zero_add, List.range, List.range.loop]
  refine Reach.val plain_prog (.agg #[.string q, .int .i64 x, v]) (plain_code hn) hfs rfl rfl (by decide) (fun τ d => by simp [go_sem, execOp, Act.eval, on_cell, c0, c1, c2]) ?_
  walk_nrm
  refine Reach.call plain_prog (f := 42) (args := #[.agg #[.string q, .int .i64 x, v]]) (plain_code hn) hfs rfl rfl (by decide) (fun w => by simp [go_sem, execOp, Act.eval]) (answer_ways_B q x v ns w1 ho.ints (by have := ask_len hask; have e : s.data.toList.length = s.size := (by simp); omega) (own_cap2 ho) (hL.belX b1) hq) ?_
  rintro _ w2 ⟨rfl, hb2⟩
  walk_nrm
  have b2 : BelX w.heap.size w w2 := b1.trans (hb2.mono b1.size)
  refine Reach.val plain_prog (strV (saidV tWays x ns)) (plain_code hn) hfs rfl rfl (by decide) (fun τ d => by simp [go_sem, execOp, Act.eval]) ?_
  walk_nrm
  refine Reach.regionEnd plain_prog (plain_code hn) hfs ?_
  clear hb2 b1 c0 c1 c2 hc ho hL
  refine Reach.tail Tryz.func27 hfs (fun v u τ d h => ⟨h.1, h.2.on τ d⟩) fun τ => ?_
  have HX := Lib.hid hask
  have HB := Lib.hid (b2.on τ 0)
  generalize hT : saidV tWays x ns = T at *
  have HT := Lib.hid hT
  clear hT hask b2
  by_cases h0 : T = []
  · subst h0
    go_wp2
    go_ret2
    exact ⟨_, rfl, by unfold answered; rw [HX.out]; exact .inl ⟨HT.out, _, rfl⟩, HB.out⟩
  · obtain ⟨c, r, rfl⟩ : ∃ c r, T = c :: r := by
      cases T with
      | nil => exact absurd rfl h0
      | cons c r => exact ⟨c, r, rfl⟩
    go_wp2
    go_ret2
    exact ⟨_, rfl, by unfold answered; rw [HX.out]; exact .inr ⟨by rw [HT.out]; simp, congrArg (fun l => Value.tuple #[strV l, .nilIface]) HT.out.symm⟩, HB.out⟩
theorem answerTo_B (s : ByteArray) (w : World) (hs : s.size ≤ 1048575) (hL : LaidW w) :
    CallsB Tryz.prog 27 #[.string s] w fun v w' => answered s.data.toList v ∧ BelX w.heap.size w w' := by
  by_cases h : ∃ x ns, askV s.data.toList = .ask tWays x ns
  · obtain ⟨x, ns, h⟩ := h
    exact answerTo_ways_B s w hs hL h
  · exact CallsB.ofBelow fun τ => (answerTo_calls s (On w τ 0) hs (hL.on τ 0) fun x ns e => h ⟨x, ns, e⟩).mono fun _ _ h => h


theorem answered_cases {l : List UInt8} {v : Value} (h : answered l v) : (∃ p, v = .tuple #[.string ⟨#[]⟩, .iface 166 (.pointer p)] ∧ progV l = tWhat) ∨ (∃ t, v = .tuple #[.string ⟨#[]⟩, .iface 55 (.string t)] ∧ progV l = tWrong) ∨ v = .tuple #[strV (progV l), .nilIface] := by
  have hp := prog_ask l
  unfold answered at h
  cases ha : askV l with
  | other =>
    rw [ha] at h hp
    obtain ⟨p, rfl⟩ := h
    exact .inl ⟨p, rfl, hp⟩
  | wrong =>
    rw [ha] at h hp
    obtain ⟨t, rfl⟩ := h
    exact .inr (.inl ⟨t, rfl, hp⟩)
  | ask w x ns =>
    rw [ha] at h hp
    rcases h with ⟨h0, t, rfl⟩ | ⟨h0, rfl⟩
    · exact .inr (.inl ⟨t, rfl, hp.trans (by show orWrong _ = _; rw [h0]; rfl)⟩)
    · refine .inr (.inr ?_)
      have e : progV l = saidV w x ns := hp.trans (if_neg h0)
      rw [e]


set_option maxRecDepth 100000 in
set_option maxHeartbeats 1600000 in
theorem replyTo_B (s : ByteArray) (w : World) (hs : s.size ≤ 1048575) (hL : LaidW w) :
    CallsB Tryz.prog 22 #[.string s] w fun v w' => v = strV (progV s.data.toList) ∧ BelX w.heap.size w w' := by
  intro fs hfs
  rw [enter_bN _ Tryz.func22 rfl]
  simp only [Tryz.ntmps22, List.size_toArray, List.length_cons, List.length_nil, Nat.reduceAdd, Nat.reduceSub, Array.replicate_succ, Array.replicate_zero, List.push_toArray, List.append_toArray, List.nil_append, List.cons_append]
  have hn := PlainT.nil
  refine Reach.seq plain_prog hn hfs ?_
  refine Reach.region plain_prog (plain_code hn) hfs ?_
  simp only [List.size_toArray, List.length_cons, List.length_nil, Nat.zero_add, List.range, List.range.loop]
  refine Reach.val plain_prog (.string ⟨#[]⟩) (plain_code hn) hfs rfl rfl (by decide) (fun τ d => by simp [go_sem, execOp, Act.eval]) ?_
  walk_nrm
  refine Reach.regionEnd plain_prog (plain_code hn) hfs ?_
  refine Reach.seq plain_prog hn hfs ?_
  refine Reach.region plain_prog (plain_code hn) hfs ?_
  simp only [List.size_toArray, List.length_cons, List.length_nil, Nat.reduceAdd, Nat.zero_add, List.range, List.range.loop]
  refine Reach.val plain_prog (.string s) (plain_code hn) hfs rfl rfl (by decide) (fun τ d => by simp [go_sem, execOp, Act.eval]) ?_
  walk_nrm
  refine Reach.call plain_prog (f := 27) (args := #[.string s]) (plain_code hn) hfs rfl rfl (by decide) (fun w => by simp [go_sem, execOp, Act.eval]) (answerTo_B s w hs hL) ?_
  rintro v w1 ⟨hv, b1⟩
  walk_nrm
  have hL1 := hL.belX b1
  clear hL
  rcases answered_cases hv with ⟨p, rfl, hp⟩ | ⟨t, rfl, hp⟩ | rfl
  · refine Reach.val plain_prog (.tuple #[.string ⟨#[]⟩, .iface 166 (.pointer p)]) (plain_code hn) hfs rfl rfl (by decide) (fun τ d => by simp [go_sem, execOp, Act.eval]) ?_
    walk_nrm
    refine Reach.val plain_prog (.string ⟨#[]⟩) (plain_code hn) hfs rfl rfl (by decide) (fun τ d => by simp [go_sem, execOp, Act.eval]) ?_
    walk_nrm
    refine Reach.val plain_prog (.iface 166 (.pointer p)) (plain_code hn) hfs rfl rfl (by decide) (fun τ d => by simp [go_sem, execOp, Act.eval]) ?_
    walk_nrm
    refine Reach.val plain_prog (.string ⟨#[]⟩) (plain_code hn) hfs rfl rfl (by decide) (fun τ d => by simp [go_sem, execOp, Act.eval]) ?_
    walk_nrm
    refine Reach.val plain_prog (.iface 166 (.pointer p)) (plain_code hn) hfs rfl rfl (by decide) (fun τ d => by simp [go_sem, execOp, Act.eval]) ?_
    walk_nrm
    refine Reach.regionEnd plain_prog (plain_code hn) hfs ?_
    refine Reach.tail Tryz.func22 hfs (fun v u τ d h => ⟨h.1, h.2.on τ d⟩) fun τ => ?_
    have HB := Lib.hid (b1.on τ 0)
    have HL1 := Lib.hid (hL1.on τ 0)
    have HP := Lib.hid hp
    clear b1 hL1 hp
    have b2 : Below w1.heap.size (On w1 τ 0) ((On w1 τ 0).alloc (.cells #[.string ByteArray.empty] 55)) := (Below.refl (On w1 τ 0).heap.size (On w1 τ 0)).alloc (Nat.le_refl _) _
    have HL2 := Lib.hid (HL1.out.below b2)
    have HB2 : Hid (BelX w.heap.size w ((On w1 τ 0).alloc (.cells #[.string ByteArray.empty] 55))) := HB.out.trans ((BelX.of b2).mono HB.out.size)
    clear b2
    have HA := Lib.hid (as_other p ⟨w1.heap.size, 0, none⟩ ((On w1 τ 0).alloc (.cells #[.string ByteArray.empty] 55)) HL2.out.handleCell)
    go_wp2_with (go_at_call 28; refine HA.out.mono ?_; rintro e w3 ⟨rfl, b3⟩)
    go_ret
    exact ⟨_, rfl, congrArg strV HP.out.symm, HB2.out.trans ((BelX.of b3).mono HB2.out.size)⟩
  · refine Reach.val plain_prog (.tuple #[.string ⟨#[]⟩, .iface 55 (.string t)]) (plain_code hn) hfs rfl rfl (by decide) (fun τ d => by simp [go_sem, execOp, Act.eval]) ?_
    walk_nrm
    refine Reach.val plain_prog (.string ⟨#[]⟩) (plain_code hn) hfs rfl rfl (by decide) (fun τ d => by simp [go_sem, execOp, Act.eval]) ?_
    walk_nrm
    refine Reach.val plain_prog (.iface 55 (.string t)) (plain_code hn) hfs rfl rfl (by decide) (fun τ d => by simp [go_sem, execOp, Act.eval]) ?_
    walk_nrm
    refine Reach.val plain_prog (.string ⟨#[]⟩) (plain_code hn) hfs rfl rfl (by decide) (fun τ d => by simp [go_sem, execOp, Act.eval]) ?_
    walk_nrm
    refine Reach.val plain_prog (.iface 55 (.string t)) (plain_code hn) hfs rfl rfl (by decide) (fun τ d => by simp [go_sem, execOp, Act.eval]) ?_
    walk_nrm
    refine Reach.regionEnd plain_prog (plain_code hn) hfs ?_
    refine Reach.tail Tryz.func22 hfs (fun v u τ d h => ⟨h.1, h.2.on τ d⟩) fun τ => ?_
    have HB := Lib.hid (b1.on τ 0)
    have HL1 := Lib.hid (hL1.on τ 0)
    have HP := Lib.hid hp
    clear b1 hL1 hp
    have b2 : Below w1.heap.size (On w1 τ 0) ((On w1 τ 0).alloc (.cells #[.string ByteArray.empty] 55)) := (Below.refl (On w1 τ 0).heap.size (On w1 τ 0)).alloc (Nat.le_refl _) _
    have HL2 := Lib.hid (HL1.out.below b2)
    have HB2 : Hid (BelX w.heap.size w ((On w1 τ 0).alloc (.cells #[.string ByteArray.empty] 55))) := HB.out.trans ((BelX.of b2).mono HB.out.size)
    clear b2
    have hbx := Boxed.new (On w1 τ 0) 55 (.string ByteArray.empty)
    have HA := Lib.hid (as_hit t ⟨w1.heap.size, 0, none⟩ _ ((On w1 τ 0).alloc (.cells #[.string ByteArray.empty] 55)) HL2.out.handleCell hbx.cell hbx.frozen)
    clear hbx
    go_wp2_with (go_at_call 28; refine HA.out.mono ?_; rintro e w3 ⟨rfl, b3⟩)
    go_ret
    exact ⟨_, rfl, congrArg strV HP.out.symm, HB2.out.trans ((BelX.of b3).mono HB.out.size)⟩
  · refine Reach.val plain_prog (.tuple #[strV (progV s.data.toList), .nilIface]) (plain_code hn) hfs rfl rfl (by decide) (fun τ d => by simp [go_sem, execOp, Act.eval]) ?_
    walk_nrm
    refine Reach.val plain_prog (strV (progV s.data.toList)) (plain_code hn) hfs rfl rfl (by decide) (fun τ d => by simp [go_sem, execOp, Act.eval]) ?_
    walk_nrm
    refine Reach.val plain_prog (.nilIface) (plain_code hn) hfs rfl rfl (by decide) (fun τ d => by simp [go_sem, execOp, Act.eval]) ?_
    walk_nrm
    refine Reach.val plain_prog (strV (progV s.data.toList)) (plain_code hn) hfs rfl rfl (by decide) (fun τ d => by simp [go_sem, execOp, Act.eval]) ?_
    walk_nrm
    refine Reach.val plain_prog (.nilIface) (plain_code hn) hfs rfl rfl (by decide) (fun τ d => by simp [go_sem, execOp, Act.eval]) ?_
    walk_nrm
    refine Reach.regionEnd plain_prog (plain_code hn) hfs ?_
    refine Reach.tail Tryz.func22 hfs (fun v u τ d h => ⟨h.1, h.2.on τ d⟩) fun τ => ?_
    have HB := Lib.hid (b1.on τ 0)
    have HL1 := Lib.hid (hL1.on τ 0)
    clear b1 hL1
    have b2 : Below w1.heap.size (On w1 τ 0) ((On w1 τ 0).alloc (.cells #[.string ByteArray.empty] 55)) := (Below.refl (On w1 τ 0).heap.size (On w1 τ 0)).alloc (Nat.le_refl _) _
    have HL2 := Lib.hid (HL1.out.below b2)
    have HB2 : Hid (BelX w.heap.size w ((On w1 τ 0).alloc (.cells #[.string ByteArray.empty] 55))) := HB.out.trans ((BelX.of b2).mono HB.out.size)
    clear b2
    have HA := Lib.hid (as_nil (.iface 57 (.pointer (some ⟨w1.heap.size, 0, none⟩))) ((On w1 τ 0).alloc (.cells #[.string ByteArray.empty] 55)))
    go_wp2_with (go_at_call 28; refine HA.out.mono ?_; rintro e w3 ⟨rfl, rfl⟩)
    go_ret
    exact ⟨_, rfl, rfl, HB2.out⟩
end Go.Proofs.YtpenbkfchgeafaaGreatDoor
