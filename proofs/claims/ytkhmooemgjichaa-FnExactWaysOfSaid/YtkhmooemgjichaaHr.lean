/- WaysOf of the program: up to its call of waysByGreatest. -/
import Derived.Test.YtkhmooemgjichaaHq
import Derived.Test.YtkhmooemgjichaaHp
import Derived.Test.YtkhmooemgjichaaHn
import Derived.Test.YtkhmooemgjichaaHi
import Derived.Test.YtkhmooemgjichaaCoinI
import Derived.Test.YtkhmooemgjichaaFewI
namespace Go.Proofs.Ytkhmooemgjichaa
open Go Go.Conc Go.RowKit

theorem same_of_drawn {w w' : World} (h : Drawn w w') : Same w w' := by
  obtain ⟨m, rfl⟩ := h
  exact ⟨_, _, rfl⟩

theorem canPay_B (v : Value) (cs : List Int) (a : Int) (r : Bool) (w : World) (hv : IsInts w v cs) (hl : cs.length ≤ 9223372036854775807) (h : (vCoins cs && inR a 0 120) = r) :
    CallsB Try.prog 23 #[v, .int .i64 a] w fun x w' => x = .bool r ∧ Same w w' :=
  CallsB.ofCalls plain_prog (fun v u τ d h => by obtain ⟨h1, τ', d', rfl⟩ := h; exact ⟨h1, τ, d, rfl⟩) fun τ => (canPayBy_at v cs a r (On w τ 0) hv hl h).mono fun e w' h => by
    obtain ⟨rfl, hd⟩ := h
    obtain ⟨τ', d', rfl⟩ := same_of_drawn hd
    exact ⟨_, rfl, rfl, τ', d', rfl⟩

theorem enter_bN {f : FuncId} {fn : Func} {c : Code} (args : Array Value) (hf : Try.prog.funcs[f]? = some fn) (hb : fn.body = some c) :
    Frame.enter Try.prog f args .normal = (bN f).at { tmps := args ++ Array.replicate (fn.ntmps - args.size) undef, defers := [] } [.code c] := enter_at args hf hb
/-- The frame that waits for waysByGreatest. -/
noncomputable def frW (v am : Value) : Frame :=
  (bN 8).at ⟨#[v, am, undef, undef, .int .i64 0, .int .i64 0, undef, v, am, .bool true, .bool false, v, am, undef, undef, undef, undef, undef, undef, undef, undef], []⟩
    (match body8 with | .seq _ (.seq _ (.seq _ (.seq (.seq (.region _ ops _) blk) t))) => [.inRegion ops [2], .code blk, .code t] | _ => [])

set_option maxRecDepth 100000 in
theorem ways_enter {Q : Goroutine → World → Prop} (v : Value) (cs : List Int) (am : Int) (w : World) (hv : IsInts w v cs) (hl : cs.length ≤ 9223372036854775807) (h : (vCoins cs && inR am 0 120) = true) (fs : List Frame) (hfs : PlainC fs)
    (hQ : ∀ w' : World, Same w w' → PlainC (frW v (.int .i64 am) :: fs) → Reach Try.prog (G (Frame.enter Try.prog 24 #[v, .int .i64 am] .normal) (frW v (.int .i64 am) :: fs)) w' Q) :
    Reach Try.prog (G (Frame.enter Try.prog 8 #[v, .int .i64 am] .normal) fs) w Q := by
  rw [enter_bN _ Try.func8 rfl]
  simp only [Try.ntmps8, List.size_toArray, List.length_cons, List.length_nil, Nat.reduceAdd, Nat.reduceSub, Array.replicate_succ, Array.replicate_zero, List.push_toArray, List.append_toArray, List.nil_append, List.cons_append]
  have hn := PlainT.nil
  refine Reach.seq plain_prog hn hfs ?_
  refine Reach.region plain_prog (plain_code hn) hfs ?_
  simp only [List.size_toArray, List.length_cons, List.length_nil, Nat.zero_add, List.range, List.range.loop]
  refine Reach.val plain_prog (.int .i64 0) (plain_code hn) hfs rfl rfl (by decide) (fun τ d => by simp [execOp, Act.eval]) ?_
  walk_nrm
  refine Reach.regionEnd plain_prog (plain_code hn) hfs ?_
  refine Reach.seq plain_prog hn hfs ?_
  refine Reach.seq plain_prog (plain_code hn) hfs ?_
  refine Reach.region plain_prog (plain_code (plain_code hn)) hfs ?_
  simp only [List.size_toArray, List.length_cons, List.length_nil, Nat.reduceAdd, Nat.zero_add, List.range, List.range.loop]
  refine Reach.val plain_prog v (plain_code (plain_code hn)) hfs rfl rfl (by decide) (fun τ d => by simp [execOp, Act.eval]) ?_
  walk_nrm
  refine Reach.val plain_prog (.int .i64 am) (plain_code (plain_code hn)) hfs rfl rfl (by decide) (fun τ d => by simp [execOp, Act.eval]) ?_
  walk_nrm
  refine Reach.call plain_prog (plain_code (plain_code hn)) hfs rfl rfl (by decide) (fun w => by simp [go_sem, execOp, Act.eval]) (canPay_B v cs am true w hv hl h) ?_
  rintro _ w' ⟨rfl, hsame⟩
  walk_nrm
  refine Reach.val plain_prog (.bool false) (plain_code (plain_code hn)) hfs rfl rfl (by decide) (fun τ d => by simp [go_sem, execOp, Act.eval]) ?_
  walk_nrm
  refine Reach.regionEnd plain_prog (plain_code (plain_code hn)) hfs ?_
  refine Reach.cond plain_prog false rfl (plain_code hn) hfs ?_
  simp only [Bool.false_eq_true, if_false]
  refine Reach.skip plain_prog (plain_code hn) hfs ?_
  refine Reach.seq plain_prog hn hfs ?_
  refine Reach.region plain_prog (plain_code hn) hfs ?_
  simp only [List.size_toArray, List.length_cons, List.length_nil, Nat.zero_add, List.range, List.range.loop]
  refine Reach.val plain_prog (.int .i64 0) (plain_code hn) hfs rfl rfl (by decide) (fun τ d => by simp [execOp, Act.eval]) ?_
  walk_nrm
  refine Reach.regionEnd plain_prog (plain_code hn) hfs ?_
  refine Reach.seq plain_prog hn hfs ?_
  refine Reach.seq plain_prog (plain_code hn) hfs ?_
  refine Reach.region plain_prog (plain_code (plain_code hn)) hfs ?_
  simp only [List.size_toArray, List.length_cons, List.length_nil, Nat.reduceAdd, Nat.zero_add, List.range, List.range.loop]
  refine Reach.val plain_prog v (plain_code (plain_code hn)) hfs rfl rfl (by decide) (fun τ d => by simp [execOp, Act.eval]) ?_
  walk_nrm
  refine Reach.val plain_prog (.int .i64 am) (plain_code (plain_code hn)) hfs rfl rfl (by decide) (fun τ d => by simp [execOp, Act.eval]) ?_
  walk_nrm
  refine Reach.enter plain_prog (f := 24) (args := #[v, .int .i64 am]) (plain_code (plain_code hn)) hfs rfl rfl (fun w => by simp [go_sem, execOp, Act.eval]) ?_
  exact hQ w' hsame
end Go.Proofs.Ytkhmooemgjichaa
