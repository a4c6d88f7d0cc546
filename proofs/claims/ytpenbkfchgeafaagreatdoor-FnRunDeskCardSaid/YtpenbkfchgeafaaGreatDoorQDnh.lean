/- The answers to questions that start no goroutine, in the program. The answer to a line where no goroutine starts, in the program. -/
import Derived.Test.YtpenbkfchgeafaaGreatDoorQDne
import Derived.Test.YtpenbkfchgeafaaGreatDoorQDo
import Derived.Test.YtpenbkfchgeafaaGreatDoorQFcI
import Derived.Test.YtpenbkfchgeafaaGreatDoorQRestI
import Derived.Test.YtpenbkfchgeafaaGreatDoorQPush
import Derived.Test.YtpenbkfchgeafaaGreatDoorQSP
namespace Go.Proofs.YtpenbkfchgeafaaGreatDoor
open Go.RowKit Go.Lib

theorem few_can {cs : List Int} {a : Int} (h : cFew cs a = true) : (vCoins cs && inR a 0 120) = true := by
  unfold cFew at h
  simp only [Bool.and_eq_true] at h ⊢
  exact ⟨h.1.1, h.1.2⟩
theorem drawn_below {w w' : World} (h : Drawn w w') : Below w.heap.size w w' := h.below

set_option maxRecDepth 100000 in
set_option maxHeartbeats 1600000 in
theorem coinsAnswer_impl (v : Value) (cs : List Int) (a : Int) (w : World) (hv : IsInts w v cs) (hl : cs.length ≤ 1048576) (hL : LaidW w) :
    Calls Tryz.prog 60 #[v, .int .i64 a] w fun e w' => e = .returned (strV (saidV tCoins a cs)) ∧ Below w.heap.size w w' := by
  have HF := Lib.hid (FewestCoins_impl v cs a w hv (by omega))
  have HLW := Lib.hid hL
  have HV := Lib.hid hv
  have HS : Hid (saidV tCoins a cs = if (vCoins cs && inR a 0 120) = true then (if cFew cs a = true then listT (fewL cs a) else tNone) else []) := rfl
  have HNO : Hid (cFew cs a = false → fewN cs a = 0 ∧ fewL cs a = []) := few_no
  clear hL hv
  go_enter Tryz.func60, Tryz.ntmps60
  go_wp2_with (go_at_call 78; refine HF.out.mono ?_; rintro e w1 ⟨v1, rfl, o1, b1⟩; refine Hid.out ?_)
  refine Lib.hid ?_
  have HB1 := Lib.hid b1
  have HL1 := Lib.hid (HLW.out.below b1)
  have HV1 := Lib.hid (HV.out.below b1)
  have HO1 := Lib.hid o1
  clear b1 o1
  cases hf : cFew cs a with
  | true =>
    have HE : Hid (saidV tCoins a cs = listT (fewL cs a)) := by show _ = _; rw [HS.out, if_pos (few_can hf), if_pos hf]
    have HW := Lib.hid (withCommas_impl v1 (fewL cs a) w1 HO1.out.ints (by have := (fine_few cs a).2; omega) (fine_few cs a).1 HL1.out)
    clear hf
    go_wp2_with (go_at_call 55; refine HW.out.mono ?_; rintro e w2 ⟨rfl, b2⟩)
    go_ret
    exact ⟨congrArg (fun l => Ending.returned (strV l)) HE.out.symm, HB1.out.trans (b2.mono HB1.out.size)⟩
  | false =>
    have HC := Lib.hid (canPayBy_impl v cs a w1 HV1.out (by omega))
    have hfl := (HNO.out hf).2
    cases hc : (vCoins cs && inR a 0 120) with
    | true =>
      have HE : Hid (saidV tCoins a cs = tNone) := by show _ = _; rw [HS.out, if_pos hc, if_neg (by rw [hf]; decide)]
      rw [hc] at HC
      clear hf hc hfl
      go_wp2_with (go_at_call 76; refine HC.out.mono ?_; rintro e w2 ⟨rfl, hd⟩)
      go_ret
      exact ⟨congrArg (fun l => Ending.returned (strV l)) HE.out.symm, HB1.out.trans ((drawn_below hd).mono HB1.out.size)⟩
    | false =>
      have HE : Hid (saidV tCoins a cs = []) := by show _ = _; rw [HS.out, if_neg (by rw [hc]; decide)]
      rw [hc] at HC
      have HFL := Lib.hid hfl
      clear hf hc hfl
      go_wp2_with (go_at_call 76; refine HC.out.mono ?_; rintro e w2 ⟨rfl, hd⟩; refine Hid.out ?_)
      refine Lib.hid ?_
      have b2 := (drawn_below hd).mono HB1.out.size
      have o2 := HO1.out.below (drawn_below hd)
      rw [HFL.out] at o2
      have HW := Lib.hid (withCommas_impl v1 [] w2 o2.ints (by simp) (fun x hx => by cases hx) (HL1.out.below (drawn_below hd)))
      clear hd o2
      go_wp2_with (go_at_call 55; refine HW.out.mono ?_; rintro e w3 ⟨rfl, b3⟩)
      go_ret
      exact ⟨congrArg (fun l => Ending.returned (strV l)) HE.out.symm, (HB1.out.trans b2).trans (b3.mono (HB1.out.trans b2).size)⟩
theorem text_is (q : ByteArray) (m : List UInt8) : (q.toList == m) = decide (q.data.toList = m) := by
  rw [ByteArray.toList_eq]
  by_cases h : q.data.toList = m
  · rw [decide_eq_true h, h]; exact beq_self_eq_true _
  · rw [decide_eq_false h]; exact beq_eq_false_iff_ne.2 h

set_option maxRecDepth 100000 in
set_option maxHeartbeats 1600000 in
theorem answer_rest_impl (q : ByteArray) (x : Int) (v : Value) (ns : List Int) (w : World) (hv : IsInts w v ns) (hl : ns.length ≤ 1048576) (hL : LaidW w) (h : q.data.toList = tRest) :
    Calls Tryz.prog 42 #[.agg #[.string q, .int .i64 x, v]] w fun e w' => e = .returned (strV (saidV q.data.toList x ns)) ∧ Below w.heap.size w w' := by
  have b1 : Below w.heap.size w (w.alloc (.cells #[.string q, .int .i64 x, v] 72)) := (Below.refl _ _).alloc (Nat.le_refl _) _
  have HL1 := Lib.hid (hL.below b1)
  have HV1 := Lib.hid (hv.below b1)
  have HB1 := Lib.hid b1
  obtain ⟨va, vc, rfl, _⟩ := hv
  clear b1 hL
  have k_rest : (q.toList == [114, 101, 115, 116]) = true := by rw [text_is, h]; decide
  have HE : Hid (saidV q.data.toList x ns = listT (restL x ns)) := by show _ = _; rw [h]; rfl
  clear h
  have HF := Lib.hid (ShareByRest_impl x _ ns _ HV1.out (by omega))
  go_enter Tryz.func42, Tryz.ntmps42
  go_wp2_with (go_at_call 56; refine HF.out.mono ?_; rintro e w2 ⟨v2, rfl, o2, b2⟩; refine Hid.out ?_)
  refine Lib.hid ?_
  have HW := Lib.hid (withCommas_impl v2 (restL x ns) w2 o2.ints (by have := (fine_rest x ns).2; omega) (fine_rest x ns).1 (HL1.out.below b2))
  have HB2 := Lib.hid (HB1.out.trans (b2.mono HB1.out.size))
  clear o2 b2
  go_wp2_with (go_at_call 55; refine HW.out.mono ?_; rintro e w3 ⟨rfl, b3⟩)
  go_ret
  exact ⟨congrArg (fun l => Ending.returned (strV l)) HE.out.symm, HB2.out.trans (b3.mono HB2.out.size)⟩

set_option maxRecDepth 100000 in
set_option maxHeartbeats 1600000 in
theorem answer_sums_impl (q : ByteArray) (x : Int) (v : Value) (ns : List Int) (w : World) (hv : IsInts w v ns) (hl : ns.length ≤ 1048576) (hL : LaidW w) (h : q.data.toList = tSums) :
    Calls Tryz.prog 42 #[.agg #[.string q, .int .i64 x, v]] w fun e w' => e = .returned (strV (saidV q.data.toList x ns)) ∧ Below w.heap.size w w' := by
  have b1 : Below w.heap.size w (w.alloc (.cells #[.string q, .int .i64 x, v] 72)) := (Below.refl _ _).alloc (Nat.le_refl _) _
  have HL1 := Lib.hid (hL.below b1)
  have HV1 := Lib.hid (hv.below b1)
  have HB1 := Lib.hid b1
  obtain ⟨va, vc, rfl, _⟩ := hv
  clear b1 hL
  have k_rest : (q.toList == [114, 101, 115, 116]) = false := by rw [text_is, h]; decide
  have k_sums : (q.toList == [115, 117, 109, 115]) = true := by rw [text_is, h]; decide
  have HE : Hid (saidV q.data.toList x ns = listT (sumsL x ns)) := by show _ = _; rw [h]; rfl
  clear h
  have HF := Lib.hid (ShareBySums_impl x _ ns _ HV1.out (by omega))
  go_enter Tryz.func42, Tryz.ntmps42
  go_wp2_with (go_at_call 57; refine HF.out.mono ?_; rintro e w2 ⟨v2, rfl, o2, b2⟩; refine Hid.out ?_)
  refine Lib.hid ?_
  have HW := Lib.hid (withCommas_impl v2 (sumsL x ns) w2 o2.ints (by have := (fine_sums x ns).2; omega) (fine_sums x ns).1 (HL1.out.below b2))
  have HB2 := Lib.hid (HB1.out.trans (b2.mono HB1.out.size))
  clear o2 b2
  go_wp2_with (go_at_call 55; refine HW.out.mono ?_; rintro e w3 ⟨rfl, b3⟩)
  go_ret
  exact ⟨congrArg (fun l => Ending.returned (strV l)) HE.out.symm, HB2.out.trans (b3.mono HB2.out.size)⟩

set_option maxRecDepth 100000 in
set_option maxHeartbeats 1600000 in
theorem answer_bill_impl (q : ByteArray) (x : Int) (v : Value) (ns : List Int) (w : World) (hv : IsInts w v ns) (hl : ns.length ≤ 1048576) (hL : LaidW w) (h : q.data.toList = tBill) :
    Calls Tryz.prog 42 #[.agg #[.string q, .int .i64 x, v]] w fun e w' => e = .returned (strV (saidV q.data.toList x ns)) ∧ Below w.heap.size w w' := by
  have b1 : Below w.heap.size w (w.alloc (.cells #[.string q, .int .i64 x, v] 72)) := (Below.refl _ _).alloc (Nat.le_refl _) _
  have HL1 := Lib.hid (hL.below b1)
  have HV1 := Lib.hid (hv.below b1)
  have HB1 := Lib.hid b1
  obtain ⟨va, vc, rfl, _⟩ := hv
  clear b1 hL
  have k_rest : (q.toList == [114, 101, 115, 116]) = false := by rw [text_is, h]; decide
  have k_sums : (q.toList == [115, 117, 109, 115]) = false := by rw [text_is, h]; decide
  have k_bill : (q.toList == [98, 105, 108, 108]) = true := by rw [text_is, h]; decide
  have HE : Hid (saidV q.data.toList x ns = listT (billL ns)) := by show _ = _; rw [h]; rfl
  clear h
  have HF := Lib.hid (BillShares_impl _ ns _ HV1.out (by omega))
  go_enter Tryz.func42, Tryz.ntmps42
  go_wp2_with (go_at_call 58; refine HF.out.mono ?_; rintro e w2 ⟨v2, rfl, o2, b2⟩; refine Hid.out ?_)
  refine Lib.hid ?_
  have HW := Lib.hid (withCommas_impl v2 (billL ns) w2 o2.ints (by have := (fine_bill ns).2; omega) (fine_bill ns).1 (HL1.out.below b2))
  have HB2 := Lib.hid (HB1.out.trans (b2.mono HB1.out.size))
  clear o2 b2
  go_wp2_with (go_at_call 55; refine HW.out.mono ?_; rintro e w3 ⟨rfl, b3⟩)
  go_ret
  exact ⟨congrArg (fun l => Ending.returned (strV l)) HE.out.symm, HB2.out.trans (b3.mono HB2.out.size)⟩

set_option maxRecDepth 100000 in
set_option maxHeartbeats 1600000 in
theorem answer_coins_impl (q : ByteArray) (x : Int) (v : Value) (ns : List Int) (w : World) (hv : IsInts w v ns) (hl : ns.length ≤ 1048576) (hL : LaidW w) (h : q.data.toList = tCoins) :
    Calls Tryz.prog 42 #[.agg #[.string q, .int .i64 x, v]] w fun e w' => e = .returned (strV (saidV q.data.toList x ns)) ∧ Below w.heap.size w w' := by
  have b1 : Below w.heap.size w (w.alloc (.cells #[.string q, .int .i64 x, v] 72)) := (Below.refl _ _).alloc (Nat.le_refl _) _
  have HL1 := Lib.hid (hL.below b1)
  have HV1 := Lib.hid (hv.below b1)
  have HB1 := Lib.hid b1
  obtain ⟨va, vc, rfl, _⟩ := hv
  clear b1 hL
  have k_rest : (q.toList == [114, 101, 115, 116]) = false := by rw [text_is, h]; decide
  have k_sums : (q.toList == [115, 117, 109, 115]) = false := by rw [text_is, h]; decide
  have k_bill : (q.toList == [98, 105, 108, 108]) = false := by rw [text_is, h]; decide
  have k_ways : (q.toList == [119, 97, 121, 115]) = false := by rw [text_is, h]; decide
  have k_coins : (q.toList == [99, 111, 105, 110, 115]) = true := by rw [text_is, h]; decide
  have HE : Hid (saidV q.data.toList x ns = saidV tCoins x ns) := by show _ = _; rw [h]
  clear h
  have HF := Lib.hid (coinsAnswer_impl _ ns x _ HV1.out hl HL1.out)
  go_enter Tryz.func42, Tryz.ntmps42
  go_wp2_with (go_at_call 60; refine HF.out.mono ?_; rintro e w2 ⟨rfl, b2⟩)
  go_ret
  exact ⟨congrArg (fun l => Ending.returned (strV l)) HE.out.symm, HB1.out.trans (b2.mono HB1.out.size)⟩

set_option maxRecDepth 100000 in
set_option maxHeartbeats 1600000 in
theorem answer_none_impl (q : ByteArray) (x : Int) (v : Value) (ns : List Int) (w : World) (hv : IsInts w v ns) (_ : ns.length ≤ 1048576) (hL : LaidW w) (hrest : q.data.toList ≠ tRest) (hsums : q.data.toList ≠ tSums) (hbill : q.data.toList ≠ tBill) (hways : q.data.toList ≠ tWays) (hcoins : q.data.toList ≠ tCoins) :
    Calls Tryz.prog 42 #[.agg #[.string q, .int .i64 x, v]] w fun e w' => e = .returned (strV (saidV q.data.toList x ns)) ∧ Below w.heap.size w w' := by
  have b1 : Below w.heap.size w (w.alloc (.cells #[.string q, .int .i64 x, v] 72)) := (Below.refl _ _).alloc (Nat.le_refl _) _
  have HL1 := Lib.hid (hL.below b1)
  have HV1 := Lib.hid (hv.below b1)
  have HB1 := Lib.hid b1
  obtain ⟨va, vc, rfl, _⟩ := hv
  clear b1 hL
  have k_rest : (q.toList == [114, 101, 115, 116]) = false := by rw [text_is]; exact decide_eq_false hrest
  have k_sums : (q.toList == [115, 117, 109, 115]) = false := by rw [text_is]; exact decide_eq_false hsums
  have k_bill : (q.toList == [98, 105, 108, 108]) = false := by rw [text_is]; exact decide_eq_false hbill
  have k_ways : (q.toList == [119, 97, 121, 115]) = false := by rw [text_is]; exact decide_eq_false hways
  have k_coins : (q.toList == [99, 111, 105, 110, 115]) = false := by rw [text_is]; exact decide_eq_false hcoins
  have HE : Hid (saidV q.data.toList x ns = []) := by
    show _ = _
    unfold saidV
    rw [if_neg hrest, if_neg hsums, if_neg hbill, if_neg hways, if_neg hcoins]
  clear hrest hsums hbill hways hcoins
  go_enter Tryz.func42, Tryz.ntmps42
  go_wp2
  go_ret
  exact ⟨congrArg (fun l => Ending.returned (strV l)) HE.out.symm, HB1.out⟩

theorem answer_calls (q : ByteArray) (x : Int) (v : Value) (ns : List Int) (w : World) (hv : IsInts w v ns) (hl : ns.length ≤ 1048576) (hL : LaidW w) (hw : q.data.toList ≠ tWays) :
    Calls Tryz.prog 42 #[.agg #[.string q, .int .i64 x, v]] w fun e w' => e = .returned (strV (saidV q.data.toList x ns)) ∧ Below w.heap.size w w' := by
  by_cases h1 : q.data.toList = tRest
  · exact answer_rest_impl q x v ns w hv hl hL h1
  by_cases h2 : q.data.toList = tSums
  · exact answer_sums_impl q x v ns w hv hl hL h2
  by_cases h3 : q.data.toList = tBill
  · exact answer_bill_impl q x v ns w hv hl hL h3
  by_cases h4 : q.data.toList = tCoins
  · exact answer_coins_impl q x v ns w hv hl hL h4
  exact answer_none_impl q x v ns w hv hl hL h1 h2 h3 hw h4
end Go.Proofs.YtpenbkfchgeafaaGreatDoor

namespace Go.Proofs.YtpenbkfchgeafaaGreatDoor
open Go.RowKit Go.Lib

/-- What is answered to a line, or the error. -/
def answered (l : List UInt8) (v : Value) : Prop := match askV l with
  | .other => ∃ p, v = .tuple #[.string ⟨#[]⟩, .iface 166 (.pointer p)]
  | .wrong => ∃ t, v = .tuple #[.string ⟨#[]⟩, .iface 55 (.string t)]
  | .ask w x ns => (saidV w x ns = [] ∧ ∃ t, v = .tuple #[.string ⟨#[]⟩, .iface 55 (.string t)]) ∨ (saidV w x ns ≠ [] ∧ v = .tuple #[strV (saidV w x ns), .nilIface])

theorem askN_len {w : List UInt8} {a : Option Int} {o : Option (List Int)} {w' : List UInt8} {x : Int} {ns : List Int} (h : askN w a o = .ask w' x ns) : o = some ns := by
  unfold askN at h
  cases o with
  | none => cases h
  | some ms =>
    cases a with
    | none => cases h
    | some y =>
      simp only [Ask.ask.injEq] at h
      rw [h.2.2]
/-- The numbers of a line are not more than its bytes. -/
theorem ask_len {l : List UInt8} {w : List UInt8} {x : Int} {ns : List Int} (h : askV l = .ask w x ns) : ns.length ≤ l.length + 1 := by
  have key : ∀ b ∈ pieces 32 l, ∀ ns, numsV (pieces 44 b) = some ns → ns.length ≤ l.length + 1 := fun b hb ns hn => by
    have h1 := numsV_len hn
    have h2 := (pieces_len 44 b).1
    have h3 := (pieces_len 32 l).2 b hb
    omega
  unfold askV at h
  rcases hp : pieces 32 l with _ | ⟨a, _ | ⟨b, _ | ⟨c, _ | ⟨d, r⟩⟩⟩⟩ <;> rw [hp] at h key
  · cases h
  · cases h
  · have h' : (if a = tBill then askN a (some 0) (numsV (pieces 44 b)) else .other) = Ask.ask w x ns := h
    split at h'
    · exact key b (by simp) ns (askN_len h')
    · cases h'
  · have h' : (if isTwo a = true then askN a (numV b) (numsV (pieces 44 c)) else .other) = Ask.ask w x ns := h
    split at h'
    · exact key c (by simp) ns (askN_len h')
    · cases h'
  · cases h

set_option maxRecDepth 100000 in
set_option maxHeartbeats 1600000 in
theorem answerTo_calls (s : ByteArray) (w : World) (hs : s.size ≤ 1048575) (hL : LaidW w) (hno : ∀ x ns, askV s.data.toList ≠ .ask tWays x ns) :
    Calls Tryz.prog 27 #[.string s] w fun e w' => ∃ v, e = .returned v ∧ answered s.data.toList v ∧ Below w.heap.size w w' := by
  have HQ := Lib.hid (questionOf_impl s w hs hL)
  have HLW := Lib.hid hL
  clear hL
  go_enter Tryz.func27, Tryz.ntmps27
  go_wp2_with fail
  refine HQ.out.mono ?_
  rintro e w1 ⟨qv, er, rfl, hk, b1⟩
  have HB1 := Lib.hid b1
  have HL1 := Lib.hid (HLW.out.below b1)
  clear b1
  cases hask : askV s.data.toList with
  | other =>
    unfold asked at hk
    rw [hask] at hk
    obtain ⟨⟨p, rfl⟩, a, b, c, rfl⟩ := hk
    have HX := Lib.hid hask
    clear hask hno
    go_wp2
    go_ret2
    exact ⟨_, rfl, by unfold answered; rw [HX.out]; exact ⟨p, rfl⟩, HB1.out.alloc HB1.out.size _⟩
  | wrong =>
    unfold asked at hk
    rw [hask] at hk
    obtain ⟨⟨t, rfl⟩, a, b, x, y, z, rfl⟩ := hk
    have HX := Lib.hid hask
    clear hask hno
    go_wp2
    go_ret2
    exact ⟨_, rfl, by unfold answered; rw [HX.out]; exact ⟨t, rfl⟩, HB1.out.alloc HB1.out.size _⟩
  | ask wd x ns =>
    unfold asked at hk
    rw [hask] at hk
    obtain ⟨rfl, q, v, rfl, hq, ho⟩ := hk
    have hlen := ask_len hask
    have hsl : s.data.toList.length = s.size := by simp
    have hnw : q.data.toList ≠ tWays := fun h => hno x ns (by rw [hask, ← hq, h])
    have b2 := (Below.refl w1.heap.size w1).alloc (Nat.le_refl _) (.cells #[.string q, .int .i64 x, v] 72)
    have HA := Lib.hid (answer_calls q x v ns (w1.alloc (.cells #[.string q, .int .i64 x, v] 72)) (ho.below b2).ints (by omega) (HL1.out.below b2) hnw)
    have HB2 := Lib.hid (HB1.out.trans (b2.mono HB1.out.size))
    obtain ⟨va, vm, vc, rfl⟩ := row_slice (show w1.ownsRow w.heap.size 3 1 v ns.length (ns.map (Value.int .i64)) from ho)
    have HX := Lib.hid hask
    have HQ2 := Lib.hid hq
    clear hask hno hlen hsl hnw b2 ho hq
    go_wp2_with fail
    refine HA.out.mono ?_
    rintro e w3 ⟨rfl, b3⟩
    have HB3 := Lib.hid (HB2.out.trans (b3.mono HB2.out.size))
    have HS : Hid (saidV q.data.toList x ns = saidV wd x ns) := by show _ = _; rw [HQ2.out]
    generalize hT : saidV q.data.toList x ns = T at *
    have HT := Lib.hid hT
    clear hT b3
    by_cases h0 : T = []
    · subst h0
      go_wp2
      go_ret2
      exact ⟨_, rfl, by unfold answered; rw [HX.out]; exact .inl ⟨HS.out.symm, _, rfl⟩, HB3.out⟩
    · obtain ⟨c, r, rfl⟩ : ∃ c r, T = c :: r := by
        cases T with
        | nil => exact absurd rfl h0
        | cons c r => exact ⟨c, r, rfl⟩
      go_wp2
      go_ret2
      exact ⟨_, rfl, by unfold answered; rw [HX.out]; exact .inr ⟨by rw [← HS.out]; simp, congrArg (fun l => Value.tuple #[strV l, .nilIface]) HS.out⟩, HB3.out⟩
end Go.Proofs.YtpenbkfchgeafaaGreatDoor
