/- From the row's condition on the listed variables to what the walks ask of them. -/
import Derived.Test.YtpenbkfchgeafaaGreatDoorRows
import Derived.Test.YtpenbkfchgeafaaGreatDoorQDo
import Derived.Test.YtpenbkfchgeafaaGreatDoorShelf
import Derived.LaidHandle
import Derived.LaidSub
import Derived.LaidLaws
import Derived.Stop.LaidErr
import Derived.ChangeSame
import Derived.OpenShut
import Derived.Stop.Joined
namespace Go.Proofs.YtpenbkfchgeafaaGreatDoor
open Go.ChangeShapes Go.WideShapes Go.RowKit Go.Lib

theorem star_es : "*" ++ "errors.errorString" = "*errors.errorString" := by decide
theorem name_es (u : TypeId) (h : Tryz.prog.typeName? 3 u = some "*errors.errorString") : u = 166 :=
  typeName_ptr_named (nm := "errors.errorString") (by rw [star_es]; kernel_rfl) (by kernel_rfl) (by decide) u (by rw [star_es]; exact h)
theorem cells_es : Tryz.prog.cellsOf 168 = 1 := by kernel_rfl
theorem cells_s : Tryz.prog.cellsOf 9 = 1 := by kernel_rfl
theorem g_syn : Tryz.prog.globalNamed "strconv.ErrSyntax" = some 4 := by kernel_rfl
theorem g_rng : Tryz.prog.globalNamed "strconv.ErrRange" = some 5 := by kernel_rfl
theorem g_pow : Tryz.prog.globalNamed "internal/strconv.uint64pow10" = some 8 := by kernel_rfl
theorem gt_syn : (Tryz.prog.globals[4]?).map (·.type) = some 45 := by kernel_rfl
theorem gt_rng : (Tryz.prog.globals[5]?).map (·.type) = some 45 := by kernel_rfl
theorem gt_other : (Tryz.prog.globals[1]?).map (·.type) = some 45 := by kernel_rfl
theorem gt_words : (Tryz.prog.globals[2]?).map (·.type) = some 111 := by kernel_rfl
theorem gt_pow : (Tryz.prog.globals[8]?).map (·.type) = some 170 := by kernel_rfl
theorem rt_is : (Tryz.prog.cutTypes.find? (·.1 == "internal/reflectlite.rtype")).map (·.2) = some 95 := by kernel_rfl
theorem err_row : ((List.range 209).filter fun t => Tryz.prog.rowNamed t [101, 114, 114, 111, 114]) = [45] := by kernel_rfl
theorem types_size : Tryz.prog.types.size = 209 := by kernel_rfl
theorem err_handle : typeHandle Tryz.prog 45 = .pointer (some ⟨11, 45, none⟩) := by kernel_rfl

/-- The listed variables without the handle. -/
theorem laid_plain {W : World} (h : laidMetH Tryz.prog Rows.fnExactRunDeskRow.laid W) : laidMet Tryz.prog (Rows.fnExactRunDeskRow.laid.filter fun x => x.2.handleName?.isNone) W ∧ handlesMet Tryz.prog [("errors.errorType", Rows.laid_errors_errorType)] W := h
theorem laid_one {W : World} (h : laidMetH Tryz.prog Rows.fnExactRunDeskRow.laid W) (n : String) (d : DataW Unit) (he : ((Rows.fnExactRunDeskRow.laid.filter fun x => x.2.handleName?.isNone).filter fun x => x.1 == n) = [(n, d)]) : laidMet Tryz.prog [(n, d)] W := by
  have := (laid_plain h).1.filter fun x => x.1 == n
  rwa [he] at this

theorem one_syn : ((Rows.fnExactRunDeskRow.laid.filter fun x => x.2.handleName?.isNone).filter fun x => x.1 == "strconv.ErrSyntax") = [("strconv.ErrSyntax", Rows.laid_strconv_ErrSyntax)] := by kernel_rfl
theorem one_rng : ((Rows.fnExactRunDeskRow.laid.filter fun x => x.2.handleName?.isNone).filter fun x => x.1 == "strconv.ErrRange") = [("strconv.ErrRange", Rows.laid_strconv_ErrRange)] := by kernel_rfl
theorem one_other : ((Rows.fnExactRunDeskRow.laid.filter fun x => x.2.handleName?.isNone).filter fun x => x.1 == "loop.example/sumsthatadd/impl.errOtherLine") = [("loop.example/sumsthatadd/impl.errOtherLine", Rows.laid_loop_example_sumsthatadd_impl_errOtherLine)] := by kernel_rfl
theorem one_words : ((Rows.fnExactRunDeskRow.laid.filter fun x => x.2.handleName?.isNone).filter fun x => x.1 == "loop.example/sumsthatadd/impl.deskWords") = [("loop.example/sumsthatadd/impl.deskWords", Rows.laid_loop_example_sumsthatadd_impl_deskWords)] := by kernel_rfl
theorem one_pow : ((Rows.fnExactRunDeskRow.laid.filter fun x => x.2.handleName?.isNone).filter fun x => x.1 == "internal/strconv.uint64pow10") = [("internal/strconv.uint64pow10", Rows.laid_internal_strconv_uint64pow10)] := by kernel_rfl
theorem pow_data : (Rows.laid_internal_strconv_uint64pow10 : DataW Unit) = tabData .u64 pow10Tab := by kernel_rfl

theorem sentinel_is {W : World} {n : String} {text : List UInt8} {g : Nat} (h : laidMet Tryz.prog [(n, .iface "*errors.errorString" (.ptr (.agg [.lit (.string text)])))] W) (hg : Tryz.prog.globalNamed n = some g) (ht : (Tryz.prog.globals[g]?).map (·.type) = some 45) :
    ∃ a, W.var? Tryz.prog n = some #[.iface 166 (.pointer (some a))] := by
  obtain ⟨a, s, hv, _⟩ := laid_sentinel h hg ht Tryz.underlying45 name_es Tryz.underlying166 Tryz.underlying168 rfl rfl Tryz.underlying9 cells_es cells_s
  exact ⟨a, hv⟩
theorem handle_is {W : World} (h : laidMetH Tryz.prog Rows.fnExactRunDeskRow.laid W) : W.var? Tryz.prog "errors.errorType" = some #[.iface 95 (.agg #[.pointer (some ⟨11, 45, none⟩)])] := by
  obtain ⟨name, u, ty, e1, e2, e3, e4, e5⟩ := (laid_plain h).2 _ (List.mem_singleton.2 rfl)
  have en : name = [101, 114, 114, 111, 114] := (Option.some.inj e1).symm
  subst en
  obtain rfl := Option.some.inj (rt_is.symm.trans e2)
  have hm : ty ∈ (List.range 209).filter fun t => Tryz.prog.rowNamed t [101, 114, 114, 111, 114] := List.mem_filter.2 ⟨List.mem_range.2 (by rw [← types_size]; exact e3), e4⟩
  rw [err_row] at hm
  obtain rfl := List.mem_singleton.1 hm
  rw [err_handle] at e5
  exact e5
theorem word_cells {w : World} {sp : Nat → Bool} {fuel : Nat} {cs : List Value} {bs : List UInt8} {z : Int} {p : List MemPlace}
    (h : DataW.trod (fun _ => ()) Tryz.prog w 0 sp false fuel 110 cs = some (.agg [.lit (.string bs), .lit (.int .i64 z)], p)) : cs = [.string ⟨bs.toArray⟩, .int .i64 z] := by
  obtain ⟨y0, y1, n, ex, hlen, h0, h1⟩ := trod_struct2 Tryz.underlying110 h
  have c2 : Tryz.prog.cellsOf 110 = 2 := by kernel_rfl
  have ci : Tryz.prog.cellsOf 3 = 1 := by kernel_rfl
  rw [c2] at hlen
  obtain ⟨a, b, rfl⟩ : ∃ a b, cs = [a, b] := by
    rcases cs with _ | ⟨a, _ | ⟨b, _ | ⟨c, r⟩⟩⟩
    · simp at hlen
    · simp at hlen
    · exact ⟨a, b, rfl⟩
    · simp at hlen
  obtain ⟨s, e1, rfl, _⟩ := DataW.trod_string Tryz.underlying9 h0
  obtain ⟨z', e2, rfl, _⟩ := DataW.trod_int Tryz.underlying3 h1
  have f1 : [a] = [Value.string s] := by simpa [cells_s] using e1
  have f2 : [b] = [Value.int .i64 z'] := by simpa [ci] using e2
  simp only [List.cons.injEq, and_true] at f1 f2
  subst f1 f2
  have g := (Prod.mk.inj ex).1
  simp only [DataW.agg.injEq, List.cons.injEq, DataW.lit.injEq, Lit.string.injEq, Lit.int.injEq, true_and, and_true] at g
  obtain ⟨rfl, rfl⟩ := g
  simp
theorem words_is {W : World} (h : laidMet Tryz.prog [("loop.example/sumsthatadd/impl.deskWords", Rows.laid_loop_example_sumsthatadd_impl_deskWords)] W) : W.var? Tryz.prog "loop.example/sumsthatadd/impl.deskWords" = some wordRow := by
  obtain ⟨ps, ⟨g, t, cs, fuel, p, q, hg, ht, hv, hd, _, _⟩, _, _⟩ := h
  obtain rfl := Option.some.inj (g_words.symm.trans hg)
  obtain rfl := Option.some.inj (gt_words.symm.trans ht)
  obtain ⟨xs, m, _, ex, hcl, hl, hel⟩ := DataW.trod_array Tryz.underlying111 hd
  have c2 : Tryz.prog.cellsOf 110 = 2 := by kernel_rfl
  have c10 : Tryz.prog.cellsOf 111 = 10 := by kernel_rfl
  refine hv.trans (congrArg some ?_)
  rw [c2] at hel
  rw [c10] at hcl
  have e3 : xs.map (·.1) = [.agg [.lit (.string [114, 101, 115, 116]), .lit (.int .i64 2)], .agg [.lit (.string [115, 117, 109, 115]), .lit (.int .i64 2)], .agg [.lit (.string [119, 97, 121, 115]), .lit (.int .i64 2)], .agg [.lit (.string [99, 111, 105, 110, 115]), .lit (.int .i64 2)], .agg [.lit (.string [98, 105, 108, 108]), .lit (.int .i64 1)]] := (DataW.agg.inj (Prod.mk.inj ex).1).symm
  have key : ∀ r d, (xs.map (·.1))[r]? = some d → r < 5 → ∃ pl, xs[r]? = some (d, pl) := fun r d hr hlt => by
    rw [List.getElem?_map] at hr
    cases hx : xs[r]? with
    | none => rw [hx] at hr; cases hr
    | some y =>
      rw [hx] at hr
      simp only [Option.map_some, Option.some.injEq] at hr
      exact ⟨y.2, by rw [← hr]⟩
  obtain ⟨p0, k0⟩ := key 0 _ (by rw [e3]; rfl) (by omega)
  obtain ⟨p1, k1⟩ := key 1 _ (by rw [e3]; rfl) (by omega)
  obtain ⟨p2, k2⟩ := key 2 _ (by rw [e3]; rfl) (by omega)
  obtain ⟨p3, k3⟩ := key 3 _ (by rw [e3]; rfl) (by omega)
  obtain ⟨p4, k4⟩ := key 4 _ (by rw [e3]; rfl) (by omega)
  have w0 := word_cells ((hel 0 (by omega)).trans k0)
  have w1 := word_cells ((hel 1 (by omega)).trans k1)
  have w2 := word_cells ((hel 2 (by omega)).trans k2)
  have w3 := word_cells ((hel 3 (by omega)).trans k3)
  have w4 := word_cells ((hel 4 (by omega)).trans k4)
  apply Array.ext'
  generalize cs.toList = l at *
  rcases l with _ | ⟨a0, _ | ⟨a1, _ | ⟨a2, _ | ⟨a3, _ | ⟨a4, _ | ⟨a5, _ | ⟨a6, _ | ⟨a7, _ | ⟨a8, _ | ⟨a9, _ | ⟨a10, r⟩⟩⟩⟩⟩⟩⟩⟩⟩⟩⟩ <;> simp at hcl
  simp at w0 w1 w2 w3 w4
  obtain ⟨rfl, rfl⟩ := w0
  obtain ⟨rfl, rfl⟩ := w1
  obtain ⟨rfl, rfl⟩ := w2
  obtain ⟨rfl, rfl⟩ := w3
  obtain ⟨rfl, rfl⟩ := w4
  rfl

/-- What the walks ask, out of the condition. -/
theorem laidW_of {W : World} (h : laidMetH Tryz.prog Rows.fnExactRunDeskRow.laid W) (hsh : W.ShapedOpen Tryz.prog) : LaidW W where
  pow := by
    have h1 := laid_one h _ _ one_pow
    rw [pow_data] at h1
    exact tabIs_of_head g_pow gt_pow Tryz.underlying170 Tryz.underlying145 (by kernel_rfl) (by kernel_rfl) h1
  syn := let ⟨_, e⟩ := sentinel_is (laid_one h _ _ one_syn) g_syn gt_syn; ⟨_, _, e⟩
  rng := let ⟨_, e⟩ := sentinel_is (laid_one h _ _ one_rng) g_rng gt_rng; ⟨_, _, e⟩
  cap := Tryz.laysM146.s1_3 W hsh
  word := words_is (laid_one h _ _ one_words)
  other := let ⟨a, e⟩ := sentinel_is (laid_one h _ _ one_other) g_other gt_other; ⟨some a, e⟩
  handle := handle_is h
end Go.Proofs.YtpenbkfchgeafaaGreatDoor
