/- WaysOf of the program, whole, beside others that only leave. -/
import Derived.Test.YtkhmooemgjichaaHu
namespace Go.Proofs.Ytkhmooemgjichaa
open Go Go.Conc Go.RowKit

theorem sum_outs {P : List Int} {gn : Nat} (hg : 1 ≤ gn) : ∀ (fuel l : Nat), l < fuel → sumL (outs (wyV P) gn fuel l) = wyV (P ++ [(gn : Int)]) l := by
  intro fuel
  induction fuel with
  | zero => intro l h; omega
  | succ fuel ih =>
    intro l h
    simp only [outs, sumL]
    by_cases hgl : gn ≤ l
    · rw [if_pos hgl, ih _ (by omega), wy_snoc (c := (gn : Int)) (x := (l : Int)) (by omega) (by omega), show ((l - gn : Nat) : Int) = (l : Int) - (gn : Int) by omega]
    · rw [if_neg hgl, wy_snoc_less (by omega) (by omega)]
      simp only [sumL]
      omega
theorem outs_nonneg {P : List Int} {gn : Nat} : ∀ (fuel l : Nat), ∀ y ∈ outs (wyV P) gn fuel l, 0 ≤ y := by
  intro fuel
  induction fuel with
  | zero => intro l y h; cases h
  | succ fuel ih =>
    intro l y h
    simp only [outs, List.mem_cons] at h
    rcases h with rfl | h
    · exact wy_nonneg _ _
    · split at h
      · exact ih _ y h
      · cases h

theorem rcv_pre {c : Nat} {W : World} {z : Value} {Fin : Goroutine → Prop} {vs : List Value} {g g' : Goroutine} {k : Nat} (h : ∀ (Stop : Goroutine → World → Prop) (m : Nat), Goes Try.prog true (RA c W) DR Stop m g' default → Goes Try.prog true (RA c W) DR Stop (m + k) g default)
    (hs : Rcv Try.prog c W z Fin vs g') : Rcv Try.prog c W z Fin vs g := by
  obtain ⟨n, hn⟩ := (rcv_iff _ _ _ _ _ _ _).1 hs
  exact (rcv_iff _ _ _ _ _ _ _).2 ⟨_, h _ _ hn⟩

section
variable {c : Nat} {W : World} {aS aA aG aW : Addr} {s0 s1 s2 s4 s5 s7 s10 s11 s12 s13 s14 s15 s16 s17 s18 s19 s20 s21 s22 s23 s24 : Value} {fs : List Frame}

theorem at_go {k : List Frame} (w : World) : stepG Try.prog true (G (goFr s0 s1 s2 s4 s5 s7 aS aA aG aW s10 s11 s12 s13 s14 s15 s16 s17 s18 s19 s20 s21 s22 s23 s24 [1]) k) w =
    .spawn (G (goFr s0 s1 s2 s4 s5 s7 aS aA aG aW s10 s11 s12 s13 s14 s15 s16 s17 s18 s19 s20 s21 s22 s23 s24 []) k) (born Try.prog (callK aS aA aG aW)) w #[] := by
  obtain ⟨o, ho, hd, hop, hg⟩ : ∃ o, opsG[1]? = some o ∧ o.dst = none ∧ o.op = .go { callee := .value (.tmp 25), args := #[], argTypes := #[] } ∧ o.guard = none := ⟨_, rfl, rfl, rfl, rfl⟩
  unfold goFr
  have e1 : (execOp (Act.eval ⟨#[s0, s1, s2, .pointer (some aA), s4, s5, .pointer (some aG), s7, .pointer (some aW), .pointer (some aS), s10, s11, s12, s13, s14, s15, s16, s17, s18, s19, s20, s21, s22, s23, s24, .func (.func 43) #[] #[.pointer (some aS), .pointer (some aA), .pointer (some aG), .pointer (some aW)], undef], []⟩) o).run Try.prog w = .ok (.spawn (callK aS aA aG aW)) w := by
    unfold execOp
    simp [go_sem, hop, Act.eval, resolve, Deferred.ofValue, callK]
  have e2 : (execOp (Act.eval ⟨#[s0, s1, s2, .pointer (some aA), s4, s5, .pointer (some aG), s7, .pointer (some aW), .pointer (some aS), s10, s11, s12, s13, s14, s15, s16, s17, s18, s19, s20, s21, s22, s23, s24, .func (.func 43) #[] #[.pointer (some aS), .pointer (some aA), .pointer (some aG), .pointer (some aW)], undef], []⟩) o).events Try.prog w #[] = #[] := by
    unfold execOp
    simp [go_sem, hop, Act.eval, resolve, Deferred.ofValue]
  rw [stepG_spawn ho (wanted_none hg _) (by decide) e1 (f := .func 43) (c := #[.pointer (some aS), .pointer (some aA), .pointer (some aG), .pointer (some aW)]) rfl, listed_none e2, hd]
  rfl

set_option maxRecDepth 100000 in
theorem to_head {v am : Value} {Stop : Goroutine → World → Prop} {m : Nat} (hc : ∀ w, Aside c W w → w.cell? aS = some (.chan (some c)))
    (hg : Goes Try.prog true (RA c W) DR Stop m (HR fs v am undef undef (.int .i64 0) v am (.bool true) (.bool false) v am c 0 undef undef undef undef undef undef undef undef) default) :
    Goes Try.prog true (RA c W) DR Stop (m + 11) (G (goFr s0 s1 s2 s4 s5 s7 aS aA aG aW s10 s11 s12 s13 s14 s15 s16 s17 s18 s19 s20 s21 s22 s23 s24 []) (frW v am :: fs)) default := by
  unfold goFr
  simp only [restG, restSix, body24, Try.f24, Option.getD_some]
  refine Go_.ctl rfl (fun w => stepG_region_end) ?_
  refine Go_.ctl rfl (fun w => stepG_seq) ?_
  refine Go_.ctl rfl (fun w => stepG_region) ?_
  simp only [List.size_toArray, List.length_cons, List.length_nil, Nat.reduceAdd, Nat.zero_add, List.range, List.range.loop]
  refine Go_.val (.chan (some c)) rfl rfl (by decide) (fun w hw => ?_) (fun w hw e he => ?_) ?_
  · have h1 := hc w hw
    simp [go_sem, execOp, Act.eval, h1]
  · have h1 := hc w hw
    simp [go_sem, execOp, Act.eval, h1] at he
    exact ⟨_, he⟩
  walk_nrm
  refine Go_.val (.chan (some c)) rfl rfl (by decide) (fun w hw => by simp [go_sem, execOp, Act.eval]) (fun w hw e he => by simp [go_sem, execOp, Act.eval] at he) ?_
  walk_nrm
  refine Go_.ctl rfl (fun w => stepG_region_end) ?_
  refine Go_.ctl rfl (fun w => stepG_ret') ?_
  refine Go_.ctl rfl (fun w => stepG_leave (v := .chan (some c)) rfl rfl Try.func24 (by simp [results, Try.f24]) (by simp [results, Try.f24])) ?_
  unfold frW
  simp only [body8, Try.f8, Option.getD_some]
  rw [Frame.finish_at]
  walk_nrm
  refine Go_.ctl rfl (fun w => stepG_region_end) ?_
  refine Go_.ctl rfl (fun w => stepG_block) ?_
  refine Go_.ctl rfl (fun w => stepG_loop) ?_
  exact hg

set_option maxRecDepth 100000 in
/-- From the last word heard to the way out. -/
theorem from_fin {w : World} {g : Goroutine} {v am : Value} {all : Int} (hfs : PlainC fs) (h : FinR fs v am undef undef (.int .i64 0) v am (.bool true) (.bool false) v am c all g) :
    Reach Try.prog g w fun g' w' => ∃ fr x, g' = G fr fs ∧ fr.fn = 8 ∧ fr.leaving Try.prog w' (.returned x) ∧ PlainT fr.todo ∧ x = .int .i64 all ∧ Same w w' := by
  obtain ⟨x6, x15, x16, x17, x18, x19, x20, rfl⟩ := h
  simp only [codeR, tailR, restR, loopR, body8, Try.f8, Option.getD_some]
  have hn := PlainT.nil
  have hk2 : PlainT [.inBlock 0, .code tailR] := PlainT.cons (show PlainI (.inBlock 0) from trivial) (plain_code hn)
  have hk3 : ∀ x : Code, PlainT [.inLoop x, .inBlock 0, .code tailR] := fun x => PlainT.cons (show PlainI (.inLoop x) from trivial) hk2
  refine Reach.val plain_prog (.bool false) (plain_code (hk3 _)) hfs rfl rfl (by decide) (fun τ d => by simp [go_sem, execOp, Act.eval]) ?_
  walk_nrm
  refine Reach.regionEnd plain_prog (plain_code (hk3 _)) hfs ?_
  refine Reach.seq plain_prog (hk3 _) hfs ?_
  refine Reach.cond plain_prog false rfl (plain_code (hk3 _)) hfs ?_
  simp only [Bool.false_eq_true, if_false]
  refine Reach.step1 plain_prog (plain_at (plain_code (plain_code (hk3 _))) hfs) rfl rfl (fun _ => stepG_exit rfl) fun _ => ?_
  refine Reach.seq plain_prog hn hfs ?_
  refine Reach.region plain_prog (plain_code hn) hfs ?_
  simp only [List.size_toArray, List.length_cons, List.length_nil, Nat.reduceAdd, Nat.zero_add, List.range, List.range.loop]
  refine Reach.val plain_prog (.int .i64 all) (plain_code hn) hfs rfl rfl (by decide) (fun τ d => by simp [go_sem, execOp, Act.eval]) ?_
  walk_nrm
  refine Reach.val plain_prog (.int .i64 all) (plain_code hn) hfs rfl rfl (by decide) (fun τ d => by simp [go_sem, execOp, Act.eval]) ?_
  walk_nrm
  refine Reach.regionEnd plain_prog (plain_code hn) hfs ?_
  refine Reach.ret plain_prog hn hfs ?_
  refine Reach.here fun d => ⟨_, .int .i64 all, rfl, rfl, ⟨rfl, rfl, rfl, _, Try.func8, by simp [results, Try.f8, Frame.at]⟩, plain_code hn, rfl, w.tape, d, rfl⟩
end

/-- ████ WaysOf, beside others that only leave. ████ -/
theorem WaysOf_B (b off cap am : Nat) (gr : Int) (P : List Int) (w : World) (hv : IsInts w (.slice (some ⟨b, off, none⟩) (P.length + 1) cap) (P ++ [gr])) (hcap : P.length + 1 ≤ cap) (hcs : vCoins (P ++ [gr]) = true) (ham : am ≤ 120) :
    CallsB Try.prog 8 #[.slice (some ⟨b, off, none⟩) (P.length + 1) cap, .int .i64 am] w fun x w' => x = .int .i64 (wyV (P ++ [gr]) am) ∧ BelX w.heap.size w w' := by
  intro fs hfs
  have hlen := (vc_len hcs).2
  simp only [List.length_append, List.length_cons, List.length_nil] at hlen
  have hgr := vc_at hcs (i := P.length) (by simp)
  rw [List.getD_eq_getElem?_getD, List.getElem?_append_right (Nat.le_refl _)] at hgr
  simp only [Nat.sub_self, List.getElem?_cons_zero, Option.getD_some] at hgr
  obtain ⟨gn, rfl⟩ : ∃ gn : Nat, gr = gn := ⟨gr.toNat, by omega⟩
  refine ways_enter _ (P ++ [(gn : Int)]) am w hv (by simp; omega) (by simp [hcs, inR]; omega) fs hfs fun w1 hs1 hfs1 => ?_
  refine ways_fork b off cap am gn P w1 (ints_same hs1 hv) hcap hcs ham _ hfs1 fun w2 c aS aA aG aW s0 s1 s2 s4 s5 s7 s10 s11 s12 s13 s14 s15 s16 s17 s18 s19 s20 s21 s22 s23 s24 hF => ?_
  obtain ⟨g, cp, hKF, hgc⟩ := hF.facts
  have hK : ∀ u, Aside c w2 u → KF c aS aA aG aW am gn g (am + 1) cp (wyV P) u := fun u hu => hKF.aside hF.neS hF.neA hF.neG hF.neW hgc hu
  have hsum := sum_outs (P := P) (gn := gn) (by omega) (am + 1) am (Nat.lt_succ_self _)
  have hle : wyV (P ++ [(gn : Int)]) am ≤ 25937424601 := wy_le (vc_pos hcs) (by simp; omega) (by omega)
  have hrc : Rcv Try.prog c w2 (.int .i64 0) (FinR fs (.slice (some ⟨b, off, none⟩) (P.length + 1) cap) (.int .i64 am) undef undef (.int .i64 0) (.slice (some ⟨b, off, none⟩) (P.length + 1) cap) (.int .i64 am) (.bool true) (.bool false) (.slice (some ⟨b, off, none⟩) (P.length + 1) cap) (.int .i64 am) c (wyV (P ++ [(gn : Int)]) am))
      ((outs (wyV P) gn (am + 1) am).map (.int .i64)) (G (goFr s0 s1 s2 s4 s5 s7 aS aA aG aW s10 s11 s12 s13 s14 s15 s16 s17 s18 s19 s20 s21 s22 s23 s24 []) (frW (.slice (some ⟨b, off, none⟩) (P.length + 1) cap) (.int .i64 am) :: fs)) := by
    refine rcv_pre (k := 11) (fun Stop m h => to_head (fun u hu => (hK u hu).cS) h) ?_
    have := recv_all (c := c) (W := w2) (cs := fs) (x0 := .slice (some ⟨b, off, none⟩) (P.length + 1) cap) (x1 := .int .i64 am) (x2 := undef) (x3 := undef) (x4 := .int .i64 0) (x7 := .slice (some ⟨b, off, none⟩) (P.length + 1) cap) (x8 := .int .i64 am) (x9 := .bool true) (x10 := .bool false) (x11 := .slice (some ⟨b, off, none⟩) (P.length + 1) cap) (x12 := .int .i64 am)
      (outs (wyV P) gn (am + 1) am) 0 (outs_nonneg _ _) (Int.le_refl _) (by rw [hsum]; omega) undef undef undef undef undef undef undef undef
    rw [hsum, Int.zero_add] at this
    exact this
  have hsd := worker_all (c := c) (W := w2) (cap := cp) (gr := gn) (l := am) hK ⟨by omega, by omega⟩ (by omega)
  refine (Reach.pipe (c := c) (z := .int .i64 0) rfl hF.chan (fun u _ => at_go u) (by simp) hrc hsd).trans fun g' w3 h3 => ?_
  obtain ⟨_, hfin, has⟩ := h3
  refine (from_fin hfs hfin).mono fun g'' w4 h4 => ?_
  obtain ⟨fr, x, h1, h2, h3, h4, h5, h6⟩ := h4
  have hb : BelX w.heap.size w w2 := by
    obtain ⟨τ, d, rfl⟩ := hs1
    exact ⟨hF.bel.os, hF.bel.output, hF.bel.size, hF.bel.block⟩
  refine ⟨fr, x, h1, h2, h3, h4, h5, (hb.aside has ?_).same h6⟩
  obtain ⟨τ, d, rfl⟩ := hs1
  exact hF.fresh
end Go.Proofs.Ytkhmooemgjichaa
