/- Each function of the program has a body, or no entry of the library's, or a good one. -/
import Derived.Test.YtpenbkfchgeafaaGreatDoorQHh
import Derived.Test.YtpenbkfchgeafaaGreatDoorChecked
import Derived.KernelRfl
namespace Go.Proofs.YtpenbkfchgeafaaGreatDoor
open Go Go.Conc

def fnPlain (fn : Func) : Bool := !(fn.name == "runtime.NumGoroutine") && (fn.body.isSome || ((Extern.findNext fn).isNone && (Extern.find fn).isNone))
theorem fnOk_plain {P : Program} {fn : Func} (h1 : fnPlain fn = true) : FnOk P fn := by
  simp only [fnPlain, Bool.and_eq_true, Bool.not_eq_true', Bool.or_eq_true] at h1
  refine ⟨h1.1, fun hb => ?_⟩
  rcases h1.2 with h2 | h2
  · rw [Option.isNone_iff_eq_none.1 hb] at h2
    cases h2
  · exact ⟨fun e he => (by rw [Option.isNone_iff_eq_none.1 h2.1] at he; cases he), fun e he => (by rw [Option.isNone_iff_eq_none.1 h2.2] at he; cases he)⟩
theorem fnOk_entry {P : Program} {fn : Func} {e0 : Array Value → Sem Value} (hn : (fn.name == "runtime.NumGoroutine") = false) (hx : (Extern.findNext fn).isNone = true) (hf : Extern.find fn = some e0) (hg : ∀ args, Gd P (e0 args)) : FnOk P fn :=
  ⟨hn, fun _ => ⟨fun e he => (by rw [Option.isNone_iff_eq_none.1 hx] at he; cases he), fun e he => (by rw [hf] at he; obtain rfl := Option.some.inj he; exact hg)⟩⟩
variable {P : Program}
set_option maxHeartbeats 2000000 in
instance gd_RE_described : ∀ x, Gd P (Go.Extern.RuntimeError.described x) := by
  intro x
  unfold Go.Extern.RuntimeError.described
  try unfold Go.Extern.RuntimeError.text
  repeat' first
    | infer_instance
    | refine Gd.bind ?_ fun _ => ?_
    | refine Gd.map _ ?_
    | refine Gd.ite ?_ ?_
    | intro _
    | split
    | dsimp only [Function.comp]
set_option maxHeartbeats 2000000 in
instance gd_RE_pkgpathOf : ∀ x, Gd P (Go.Extern.RuntimeError.pkgpathOf x) := by
  intro x
  unfold Go.Extern.RuntimeError.pkgpathOf
  try unfold Go.Extern.RuntimeError.text
  repeat' first
    | infer_instance
    | refine Gd.bind ?_ fun _ => ?_
    | refine Gd.map _ ?_
    | refine Gd.ite ?_ ?_
    | intro _
    | split
    | dsimp only [Function.comp]
set_option maxHeartbeats 2000000 in
instance gd_RE_typeAssertionError : ∀ x, Gd P (Go.Extern.RuntimeError.typeAssertionError x) := by
  intro x
  unfold Go.Extern.RuntimeError.typeAssertionError
  try unfold Go.Extern.RuntimeError.text
  repeat' first
    | infer_instance
    | refine Gd.bind ?_ fun _ => ?_
    | refine Gd.map _ ?_
    | refine Gd.ite ?_ ?_
    | intro _
    | split
    | dsimp only [Function.comp]
instance gd_RE_boundsError : ∀ x, Gd P (Go.Extern.RuntimeError.boundsError x) := by
  intro x
  unfold Go.Extern.RuntimeError.boundsError
  unfold Go.Extern.RuntimeError.text
  obtain ⟨l⟩ := x
  rcases l with _ | ⟨a, _ | ⟨b, l⟩⟩
  · conv => arg 2; whnf
    infer_instance
  · cases a
    case agg cells =>
      obtain ⟨m⟩ := cells
      rcases m with _ | ⟨c0, _ | ⟨c1, _ | ⟨c2, _ | ⟨c3, _ | ⟨c4, m⟩⟩⟩⟩⟩
      case cons.cons.cons.cons.nil =>
        cases c0
        case int k0 n0 =>
          cases c1
          case int k1 n1 =>
            cases c2
            case bool b2 =>
              cases c3
              case int k3 n3 =>
                show Gd P (match (if (b2 && decide (n0 < 0)) = true then Extern.RuntimeError.boundsNegErrorFmts else Extern.RuntimeError.boundsErrorFmts)[n3.toNat]? with
                  | some fmt => pure (strVal _)
                  | none => stuck "boundsError: no such code")
                split <;> infer_instance
              all_goals (conv => arg 2; whnf); infer_instance
            all_goals (conv => arg 2; whnf); infer_instance
          all_goals (conv => arg 2; whnf); infer_instance
        all_goals (conv => arg 2; whnf); infer_instance
      case cons.cons.cons.cons.cons =>
        conv => arg 2; whnf
        infer_instance
      all_goals (conv => arg 2; whnf); infer_instance
    all_goals (conv => arg 2; whnf); infer_instance
  · conv => arg 2; whnf
    infer_instance
instance gd_RE_unhashableTypeError : ∀ x, Gd P (Go.Extern.RuntimeError.unhashableTypeError x) := by
  intro x
  unfold Go.Extern.RuntimeError.unhashableTypeError
  unfold Go.Extern.RuntimeError.text
  obtain ⟨l⟩ := x
  rcases l with _ | ⟨a, _ | ⟨b, l⟩⟩
  · conv => arg 2; whnf
    infer_instance
  · cases a
    case agg cells =>
      obtain ⟨m⟩ := cells
      rcases m with _ | ⟨c0, _ | ⟨c1, m⟩⟩
      case cons.nil =>
        refine Gd.bind (inferInstance : Gd P (Extern.RuntimeError.described c0)) fun t => ?_
        cases t <;> infer_instance
      case cons.cons =>
        conv => arg 2; whnf
        infer_instance
      all_goals (conv => arg 2; whnf); infer_instance
    all_goals (conv => arg 2; whnf); infer_instance
  · conv => arg 2; whnf
    infer_instance
theorem fnOk_40 : FnOk Tryz.prog Tryz.f40 := by
  obtain ⟨e, he, hg⟩ : ∃ e, Extern.AbiNoEscape.rows.lookup "internal/abi.NoEscape" = some e ∧ ∀ args, Gd Tryz.prog (e args) := ⟨_, rfl, gr_same⟩
  exact fnOk_entry (by kernel_rfl) (by kernel_rfl) ((show Extern.find Tryz.f40 = Extern.AbiNoEscape.rows.lookup "internal/abi.NoEscape" by kernel_rfl).trans he) hg
theorem fnOk_43 : FnOk Tryz.prog Tryz.f43 := by
  obtain ⟨e, he, hg⟩ : ∃ e, Extern.ReflectliteValue.rows.lookup "internal/reflectlite.ValueOf" = some e ∧ ∀ args, Gd Tryz.prog (e args) := ⟨_, rfl, fun _ => inferInstance⟩
  exact fnOk_entry (by kernel_rfl) (by kernel_rfl) ((show Extern.find Tryz.f43 = Extern.ReflectliteValue.rows.lookup "internal/reflectlite.ValueOf" by kernel_rfl).trans he) hg
theorem fnOk_44 : FnOk Tryz.prog Tryz.f44 := by
  obtain ⟨e, he, hg⟩ : ∃ e, Extern.ReflectliteValue.rows.lookup "(internal/reflectlite.Value).Type" = some e ∧ ∀ args, Gd Tryz.prog (e args) := ⟨_, rfl, grV_methodAny _ inferInstance _ fun _ _ _ _ => inferInstance⟩
  exact fnOk_entry (by kernel_rfl) (by kernel_rfl) ((show Extern.find Tryz.f44 = Extern.ReflectliteValue.rows.lookup "(internal/reflectlite.Value).Type" by kernel_rfl).trans he) hg
theorem fnOk_45 : FnOk Tryz.prog Tryz.f45 := by
  obtain ⟨e, he, hg⟩ : ∃ e, Extern.ReflectliteValue.rows.lookup "(internal/reflectlite.Value).IsNil" = some e ∧ ∀ args, Gd Tryz.prog (e args) := ⟨_, rfl, grV_method _ inferInstance _ fun _ _ _ _ => inferInstance⟩
  exact fnOk_entry (by kernel_rfl) (by kernel_rfl) ((show Extern.find Tryz.f45 = Extern.ReflectliteValue.rows.lookup "(internal/reflectlite.Value).IsNil" by kernel_rfl).trans he) hg
theorem fnOk_61 : FnOk Tryz.prog Tryz.f61 := by
  obtain ⟨e, he, hg⟩ : ∃ e, Extern.ReflectliteType.rows.lookup "internal/reflectlite.TypeOf" = some e ∧ ∀ args, Gd Tryz.prog (e args) := ⟨_, rfl, grT_typeOf⟩
  exact fnOk_entry (by kernel_rfl) (by kernel_rfl) ((show Extern.find Tryz.f61 = Extern.ReflectliteType.rows.lookup "internal/reflectlite.TypeOf" by kernel_rfl).trans he) hg
theorem fnOk_62 : FnOk Tryz.prog Tryz.f62 := by
  obtain ⟨e, he, hg⟩ : ∃ e, Extern.ReflectliteValue.rows.lookup "(internal/reflectlite.Value).Elem" = some e ∧ ∀ args, Gd Tryz.prog (e args) := ⟨_, rfl, grV_method _ inferInstance _ fun _ _ _ _ => inferInstance⟩
  exact fnOk_entry (by kernel_rfl) (by kernel_rfl) ((show Extern.find Tryz.f62 = Extern.ReflectliteValue.rows.lookup "(internal/reflectlite.Value).Elem" by kernel_rfl).trans he) hg
theorem fnOk_63 : FnOk Tryz.prog Tryz.f63 := by
  obtain ⟨e, he, hg⟩ : ∃ e, Extern.ReflectliteValue.rows.lookup "(internal/reflectlite.Value).Set" = some e ∧ ∀ args, Gd Tryz.prog (e args) := ⟨_, rfl, grV_set⟩
  exact fnOk_entry (by kernel_rfl) (by kernel_rfl) ((show Extern.find Tryz.f63 = Extern.ReflectliteValue.rows.lookup "(internal/reflectlite.Value).Set" by kernel_rfl).trans he) hg
theorem fnOk_94 : FnOk Tryz.prog Tryz.f94 := by
  obtain ⟨e, he, hg⟩ : ∃ e, Extern.BytealgCount.rows.lookup "internal/bytealg.CountString" = some e ∧ ∀ args, Gd Tryz.prog (e args) := ⟨_, rfl, gr_count⟩
  exact fnOk_entry (by kernel_rfl) (by kernel_rfl) ((show Extern.find Tryz.f94 = Extern.BytealgCount.rows.lookup "internal/bytealg.CountString" by kernel_rfl).trans he) hg
theorem fnOk_112 : FnOk Tryz.prog Tryz.f112 := by
  obtain ⟨e, he, hg⟩ : ∃ e, Extern.BytealgIndex.rows.lookup "internal/bytealg.IndexString" = some e ∧ ∀ args, Gd Tryz.prog (e args) := ⟨_, rfl, gr_index⟩
  exact fnOk_entry (by kernel_rfl) (by kernel_rfl) ((show Extern.find Tryz.f112 = Extern.BytealgIndex.rows.lookup "internal/bytealg.IndexString" by kernel_rfl).trans he) hg
theorem fnOk_125 : FnOk Tryz.prog Tryz.f125 := by
  obtain ⟨e, he, hg⟩ : ∃ e, Extern.BytealgIndexByte.rows.lookup "internal/bytealg.IndexByteString" = some e ∧ ∀ args, Gd Tryz.prog (e args) := ⟨_, rfl, gr_indexByte⟩
  exact fnOk_entry (by kernel_rfl) (by kernel_rfl) ((show Extern.find Tryz.f125 = Extern.BytealgIndexByte.rows.lookup "internal/bytealg.IndexByteString" by kernel_rfl).trans he) hg
theorem fnOk_153 : FnOk Tryz.prog Tryz.f153 := by
  obtain ⟨e, he, hg⟩ : ∃ e, Extern.ReflectliteType.rows.lookup "(*internal/abi.Type).Kind" = some e ∧ ∀ args, Gd Tryz.prog (e args) := ⟨_, rfl, grT_abiMethod _ fun _ => Gd.bind inferInstance fun _ => inferInstance⟩
  exact fnOk_entry (by kernel_rfl) (by kernel_rfl) ((show Extern.find Tryz.f153 = Extern.ReflectliteType.rows.lookup "(*internal/abi.Type).Kind" by kernel_rfl).trans he) hg
theorem fnOk_159 : FnOk Tryz.prog Tryz.f159 := by
  obtain ⟨e, he, hg⟩ : ∃ e, Extern.ReflectliteValue.rows.lookup "(internal/reflectlite.Value).Kind" = some e ∧ ∀ args, Gd Tryz.prog (e args) := ⟨_, rfl, grV_method _ inferInstance _ fun _ _ _ _ => inferInstance⟩
  exact fnOk_entry (by kernel_rfl) (by kernel_rfl) ((show Extern.find Tryz.f159 = Extern.ReflectliteValue.rows.lookup "(internal/reflectlite.Value).Kind" by kernel_rfl).trans he) hg
theorem fnOk_161 : FnOk Tryz.prog Tryz.f161 := by
  obtain ⟨e, he, hg⟩ : ∃ e, Extern.ReflectliteType.rows.lookup "(*internal/abi.Type).Size" = some e ∧ ∀ args, Gd Tryz.prog (e args) := ⟨_, rfl, grT_abiMethod _ fun t => gr_size t⟩
  exact fnOk_entry (by kernel_rfl) (by kernel_rfl) ((show Extern.find Tryz.f161 = Extern.ReflectliteType.rows.lookup "(*internal/abi.Type).Size" by kernel_rfl).trans he) hg
theorem fnOk_162 : FnOk Tryz.prog Tryz.f162 := by
  obtain ⟨e, he, hg⟩ : ∃ e, Extern.ReflectliteType.rows.lookup "(internal/reflectlite.rtype).AssignableTo" = some e ∧ ∀ args, Gd Tryz.prog (e args) := ⟨_, rfl, grT_relation _ _ fun _ _ => inferInstance⟩
  exact fnOk_entry (by kernel_rfl) (by kernel_rfl) ((show Extern.find Tryz.f162 = Extern.ReflectliteType.rows.lookup "(internal/reflectlite.rtype).AssignableTo" by kernel_rfl).trans he) hg
theorem fnOk_163 : FnOk Tryz.prog Tryz.f163 := by
  obtain ⟨e, he, hg⟩ : ∃ e, Extern.ReflectliteType.rows.lookup "(internal/reflectlite.rtype).Comparable" = some e ∧ ∀ args, Gd Tryz.prog (e args) := ⟨_, rfl, grT_method _ (fun t => gr_comp t)⟩
  exact fnOk_entry (by kernel_rfl) (by kernel_rfl) ((show Extern.find Tryz.f163 = Extern.ReflectliteType.rows.lookup "(internal/reflectlite.rtype).Comparable" by kernel_rfl).trans he) hg
theorem fnOk_164 : FnOk Tryz.prog Tryz.f164 := by
  obtain ⟨e, he, hg⟩ : ∃ e, Extern.ReflectliteType.rows.lookup "(internal/reflectlite.rtype).Elem" = some e ∧ ∀ args, Gd Tryz.prog (e args) := ⟨_, rfl, grT_method _ (fun _ => inferInstance)⟩
  exact fnOk_entry (by kernel_rfl) (by kernel_rfl) ((show Extern.find Tryz.f164 = Extern.ReflectliteType.rows.lookup "(internal/reflectlite.rtype).Elem" by kernel_rfl).trans he) hg
theorem fnOk_165 : FnOk Tryz.prog Tryz.f165 := by
  obtain ⟨e, he, hg⟩ : ∃ e, Extern.ReflectliteType.rows.lookup "(internal/reflectlite.rtype).Implements" = some e ∧ ∀ args, Gd Tryz.prog (e args) := ⟨_, rfl, grT_relation _ _ fun _ _ => inferInstance⟩
  exact fnOk_entry (by kernel_rfl) (by kernel_rfl) ((show Extern.find Tryz.f165 = Extern.ReflectliteType.rows.lookup "(internal/reflectlite.rtype).Implements" by kernel_rfl).trans he) hg
theorem fnOk_166 : FnOk Tryz.prog Tryz.f166 := by
  obtain ⟨e, he, hg⟩ : ∃ e, Extern.ReflectliteType.rows.lookup "(internal/reflectlite.rtype).Name" = some e ∧ ∀ args, Gd Tryz.prog (e args) := ⟨_, rfl, grT_method _ (fun t => gr_named t inferInstance)⟩
  exact fnOk_entry (by kernel_rfl) (by kernel_rfl) ((show Extern.find Tryz.f166 = Extern.ReflectliteType.rows.lookup "(internal/reflectlite.rtype).Name" by kernel_rfl).trans he) hg
theorem fnOk_167 : FnOk Tryz.prog Tryz.f167 := by
  obtain ⟨e, he, hg⟩ : ∃ e, Extern.ReflectliteType.rows.lookup "(internal/reflectlite.rtype).PkgPath" = some e ∧ ∀ args, Gd Tryz.prog (e args) := ⟨_, rfl, grT_method _ (fun t => gr_named t inferInstance)⟩
  exact fnOk_entry (by kernel_rfl) (by kernel_rfl) ((show Extern.find Tryz.f167 = Extern.ReflectliteType.rows.lookup "(internal/reflectlite.rtype).PkgPath" by kernel_rfl).trans he) hg
theorem fnOk_168 : FnOk Tryz.prog Tryz.f168 := by
  obtain ⟨e, he, hg⟩ : ∃ e, Extern.ReflectliteType.rows.lookup "(internal/reflectlite.rtype).String" = some e ∧ ∀ args, Gd Tryz.prog (e args) := ⟨_, rfl, grT_method _ (fun t => gr_named t (Gd.bind inferInstance fun _ => inferInstance))⟩
  exact fnOk_entry (by kernel_rfl) (by kernel_rfl) ((show Extern.find Tryz.f168 = Extern.ReflectliteType.rows.lookup "(internal/reflectlite.rtype).String" by kernel_rfl).trans he) hg
theorem fnOk_169 : FnOk Tryz.prog Tryz.f169 := by
  obtain ⟨e, he, hg⟩ : ∃ e, Extern.ReflectliteType.rows.lookup "(internal/reflectlite.rtype).common" = some e ∧ ∀ args, Gd Tryz.prog (e args) := ⟨_, rfl, grT_method _ (fun _ => inferInstance)⟩
  exact fnOk_entry (by kernel_rfl) (by kernel_rfl) ((show Extern.find Tryz.f169 = Extern.ReflectliteType.rows.lookup "(internal/reflectlite.rtype).common" by kernel_rfl).trans he) hg
theorem fnOk_171 : FnOk Tryz.prog Tryz.f171 := by
  obtain ⟨e, he, hg⟩ : ∃ e, Extern.ReflectliteValue.rows.lookup "(*internal/reflectlite.ValueError).Error" = some e ∧ ∀ args, Gd Tryz.prog (e args) := ⟨_, rfl, grV_errorText⟩
  exact fnOk_entry (by kernel_rfl) (by kernel_rfl) ((show Extern.find Tryz.f171 = Extern.ReflectliteValue.rows.lookup "(*internal/reflectlite.ValueError).Error" by kernel_rfl).trans he) hg
theorem fnOk_122 : FnOk Tryz.prog Tryz.f122 := fnOk_entry (by kernel_rfl) (by kernel_rfl) (show Extern.find Tryz.f122 = some (Extern.BytealgMakeNoZero.makeNoZero Tryz.f122.params Tryz.f122.resultTypes) by kernel_rfl) fun _ => (gr_makeNoZero _ _ _)
theorem fnOk_139 : FnOk Tryz.prog Tryz.f139 := by
  obtain ⟨e, he, hg⟩ : ∃ e, Extern.RuntimeError.rows.lookup "(runtime.boundsError).Error" = some e ∧ ∀ args, Gd Tryz.prog (e args) := by
    refine ⟨_, rfl, fun args => ?_⟩
    try unfold Go.Extern.RuntimeError.nothing
    try unfold Go.Extern.RuntimeError.text
    repeat' first
      | infer_instance
      | refine Gd.bind ?_ fun _ => ?_
      | refine Gd.map _ ?_
      | refine Gd.ite ?_ ?_
      | intro _
      | split
      | dsimp only [Function.comp]
  exact fnOk_entry (by kernel_rfl) (by kernel_rfl) ((show Extern.find Tryz.f139 = Extern.RuntimeError.rows.lookup "(runtime.boundsError).Error" by kernel_rfl).trans he) hg
theorem fnOk_140 : FnOk Tryz.prog Tryz.f140 := by
  obtain ⟨e, he, hg⟩ : ∃ e, Extern.RuntimeError.rows.lookup "(runtime.boundsError).RuntimeError" = some e ∧ ∀ args, Gd Tryz.prog (e args) := by
    refine ⟨_, rfl, fun args => ?_⟩
    try unfold Go.Extern.RuntimeError.nothing
    try unfold Go.Extern.RuntimeError.text
    repeat' first
      | infer_instance
      | refine Gd.bind ?_ fun _ => ?_
      | refine Gd.map _ ?_
      | refine Gd.ite ?_ ?_
      | intro _
      | split
      | dsimp only [Function.comp]
  exact fnOk_entry (by kernel_rfl) (by kernel_rfl) ((show Extern.find Tryz.f140 = Extern.RuntimeError.rows.lookup "(runtime.boundsError).RuntimeError" by kernel_rfl).trans he) hg
theorem fnOk_141 : FnOk Tryz.prog Tryz.f141 := by
  obtain ⟨e, he, hg⟩ : ∃ e, Extern.RuntimeError.rows.lookup "(runtime.errorString).Error" = some e ∧ ∀ args, Gd Tryz.prog (e args) := by
    refine ⟨_, rfl, fun args => ?_⟩
    try unfold Go.Extern.RuntimeError.nothing
    try unfold Go.Extern.RuntimeError.text
    repeat' first
      | infer_instance
      | refine Gd.bind ?_ fun _ => ?_
      | refine Gd.map _ ?_
      | refine Gd.ite ?_ ?_
      | intro _
      | split
      | dsimp only [Function.comp]
  exact fnOk_entry (by kernel_rfl) (by kernel_rfl) ((show Extern.find Tryz.f141 = Extern.RuntimeError.rows.lookup "(runtime.errorString).Error" by kernel_rfl).trans he) hg
theorem fnOk_142 : FnOk Tryz.prog Tryz.f142 := by
  obtain ⟨e, he, hg⟩ : ∃ e, Extern.RuntimeError.rows.lookup "(runtime.errorString).RuntimeError" = some e ∧ ∀ args, Gd Tryz.prog (e args) := by
    refine ⟨_, rfl, fun args => ?_⟩
    try unfold Go.Extern.RuntimeError.nothing
    try unfold Go.Extern.RuntimeError.text
    repeat' first
      | infer_instance
      | refine Gd.bind ?_ fun _ => ?_
      | refine Gd.map _ ?_
      | refine Gd.ite ?_ ?_
      | intro _
      | split
      | dsimp only [Function.comp]
  exact fnOk_entry (by kernel_rfl) (by kernel_rfl) ((show Extern.find Tryz.f142 = Extern.RuntimeError.rows.lookup "(runtime.errorString).RuntimeError" by kernel_rfl).trans he) hg
theorem fnOk_143 : FnOk Tryz.prog Tryz.f143 := by
  obtain ⟨e, he, hg⟩ : ∃ e, Extern.RuntimeError.rows.lookup "(runtime.plainError).Error" = some e ∧ ∀ args, Gd Tryz.prog (e args) := by
    refine ⟨_, rfl, fun args => ?_⟩
    try unfold Go.Extern.RuntimeError.nothing
    try unfold Go.Extern.RuntimeError.text
    repeat' first
      | infer_instance
      | refine Gd.bind ?_ fun _ => ?_
      | refine Gd.map _ ?_
      | refine Gd.ite ?_ ?_
      | intro _
      | split
      | dsimp only [Function.comp]
  exact fnOk_entry (by kernel_rfl) (by kernel_rfl) ((show Extern.find Tryz.f143 = Extern.RuntimeError.rows.lookup "(runtime.plainError).Error" by kernel_rfl).trans he) hg
theorem fnOk_144 : FnOk Tryz.prog Tryz.f144 := by
  obtain ⟨e, he, hg⟩ : ∃ e, Extern.RuntimeError.rows.lookup "(runtime.plainError).RuntimeError" = some e ∧ ∀ args, Gd Tryz.prog (e args) := by
    refine ⟨_, rfl, fun args => ?_⟩
    try unfold Go.Extern.RuntimeError.nothing
    try unfold Go.Extern.RuntimeError.text
    repeat' first
      | infer_instance
      | refine Gd.bind ?_ fun _ => ?_
      | refine Gd.map _ ?_
      | refine Gd.ite ?_ ?_
      | intro _
      | split
      | dsimp only [Function.comp]
  exact fnOk_entry (by kernel_rfl) (by kernel_rfl) ((show Extern.find Tryz.f144 = Extern.RuntimeError.rows.lookup "(runtime.plainError).RuntimeError" by kernel_rfl).trans he) hg
theorem fnOk_145 : FnOk Tryz.prog Tryz.f145 := by
  obtain ⟨e, he, hg⟩ : ∃ e, Extern.RuntimeError.rows.lookup "(runtime.errorAddressString).Error" = some e ∧ ∀ args, Gd Tryz.prog (e args) := by
    refine ⟨_, rfl, fun args => ?_⟩
    try unfold Go.Extern.RuntimeError.nothing
    try unfold Go.Extern.RuntimeError.text
    repeat' first
      | infer_instance
      | refine Gd.bind ?_ fun _ => ?_
      | refine Gd.map _ ?_
      | refine Gd.ite ?_ ?_
      | intro _
      | split
      | dsimp only [Function.comp]
  exact fnOk_entry (by kernel_rfl) (by kernel_rfl) ((show Extern.find Tryz.f145 = Extern.RuntimeError.rows.lookup "(runtime.errorAddressString).Error" by kernel_rfl).trans he) hg
theorem fnOk_146 : FnOk Tryz.prog Tryz.f146 := by
  obtain ⟨e, he, hg⟩ : ∃ e, Extern.RuntimeError.rows.lookup "(runtime.errorAddressString).RuntimeError" = some e ∧ ∀ args, Gd Tryz.prog (e args) := by
    refine ⟨_, rfl, fun args => ?_⟩
    try unfold Go.Extern.RuntimeError.nothing
    try unfold Go.Extern.RuntimeError.text
    repeat' first
      | infer_instance
      | refine Gd.bind ?_ fun _ => ?_
      | refine Gd.map _ ?_
      | refine Gd.ite ?_ ?_
      | intro _
      | split
      | dsimp only [Function.comp]
  exact fnOk_entry (by kernel_rfl) (by kernel_rfl) ((show Extern.find Tryz.f146 = Extern.RuntimeError.rows.lookup "(runtime.errorAddressString).RuntimeError" by kernel_rfl).trans he) hg
theorem fnOk_147 : FnOk Tryz.prog Tryz.f147 := by
  obtain ⟨e, he, hg⟩ : ∃ e, Extern.RuntimeError.rows.lookup "(*runtime.TypeAssertionError).Error" = some e ∧ ∀ args, Gd Tryz.prog (e args) := by
    refine ⟨_, rfl, fun args => ?_⟩
    try unfold Go.Extern.RuntimeError.nothing
    try unfold Go.Extern.RuntimeError.text
    repeat' first
      | infer_instance
      | refine Gd.bind ?_ fun _ => ?_
      | refine Gd.map _ ?_
      | refine Gd.ite ?_ ?_
      | intro _
      | split
      | dsimp only [Function.comp]
  exact fnOk_entry (by kernel_rfl) (by kernel_rfl) ((show Extern.find Tryz.f147 = Extern.RuntimeError.rows.lookup "(*runtime.TypeAssertionError).Error" by kernel_rfl).trans he) hg
theorem fnOk_148 : FnOk Tryz.prog Tryz.f148 := by
  obtain ⟨e, he, hg⟩ : ∃ e, Extern.RuntimeError.rows.lookup "(*runtime.TypeAssertionError).RuntimeError" = some e ∧ ∀ args, Gd Tryz.prog (e args) := by
    refine ⟨_, rfl, fun args => ?_⟩
    try unfold Go.Extern.RuntimeError.nothing
    try unfold Go.Extern.RuntimeError.text
    repeat' first
      | infer_instance
      | refine Gd.bind ?_ fun _ => ?_
      | refine Gd.map _ ?_
      | refine Gd.ite ?_ ?_
      | intro _
      | split
      | dsimp only [Function.comp]
  exact fnOk_entry (by kernel_rfl) (by kernel_rfl) ((show Extern.find Tryz.f148 = Extern.RuntimeError.rows.lookup "(*runtime.TypeAssertionError).RuntimeError" by kernel_rfl).trans he) hg
theorem fnOk_149 : FnOk Tryz.prog Tryz.f149 := by
  obtain ⟨e, he, hg⟩ : ∃ e, Extern.RuntimeError.rows.lookup "(*runtime.PanicNilError).Error" = some e ∧ ∀ args, Gd Tryz.prog (e args) := by
    refine ⟨_, rfl, fun args => ?_⟩
    try unfold Go.Extern.RuntimeError.nothing
    try unfold Go.Extern.RuntimeError.text
    repeat' first
      | infer_instance
      | refine Gd.bind ?_ fun _ => ?_
      | refine Gd.map _ ?_
      | refine Gd.ite ?_ ?_
      | intro _
      | split
      | dsimp only [Function.comp]
  exact fnOk_entry (by kernel_rfl) (by kernel_rfl) ((show Extern.find Tryz.f149 = Extern.RuntimeError.rows.lookup "(*runtime.PanicNilError).Error" by kernel_rfl).trans he) hg
theorem fnOk_150 : FnOk Tryz.prog Tryz.f150 := by
  obtain ⟨e, he, hg⟩ : ∃ e, Extern.RuntimeError.rows.lookup "(*runtime.PanicNilError).RuntimeError" = some e ∧ ∀ args, Gd Tryz.prog (e args) := by
    refine ⟨_, rfl, fun args => ?_⟩
    try unfold Go.Extern.RuntimeError.nothing
    try unfold Go.Extern.RuntimeError.text
    repeat' first
      | infer_instance
      | refine Gd.bind ?_ fun _ => ?_
      | refine Gd.map _ ?_
      | refine Gd.ite ?_ ?_
      | intro _
      | split
      | dsimp only [Function.comp]
  exact fnOk_entry (by kernel_rfl) (by kernel_rfl) ((show Extern.find Tryz.f150 = Extern.RuntimeError.rows.lookup "(*runtime.PanicNilError).RuntimeError" by kernel_rfl).trans he) hg
theorem fnOk_154 : FnOk Tryz.prog Tryz.f154 := by
  obtain ⟨e, he, hg⟩ : ∃ e, Extern.RuntimeError.rows.lookup "(internal/runtime/maps.unhashableTypeError).Error" = some e ∧ ∀ args, Gd Tryz.prog (e args) := by
    refine ⟨_, rfl, fun args => ?_⟩
    try unfold Go.Extern.RuntimeError.nothing
    try unfold Go.Extern.RuntimeError.text
    repeat' first
      | infer_instance
      | refine Gd.bind ?_ fun _ => ?_
      | refine Gd.map _ ?_
      | refine Gd.ite ?_ ?_
      | intro _
      | split
      | dsimp only [Function.comp]
  exact fnOk_entry (by kernel_rfl) (by kernel_rfl) ((show Extern.find Tryz.f154 = Extern.RuntimeError.rows.lookup "(internal/runtime/maps.unhashableTypeError).Error" by kernel_rfl).trans he) hg
theorem fnOk_155 : FnOk Tryz.prog Tryz.f155 := by
  obtain ⟨e, he, hg⟩ : ∃ e, Extern.RuntimeError.rows.lookup "(internal/runtime/maps.unhashableTypeError).RuntimeError" = some e ∧ ∀ args, Gd Tryz.prog (e args) := by
    refine ⟨_, rfl, fun args => ?_⟩
    try unfold Go.Extern.RuntimeError.nothing
    try unfold Go.Extern.RuntimeError.text
    repeat' first
      | infer_instance
      | refine Gd.bind ?_ fun _ => ?_
      | refine Gd.map _ ?_
      | refine Gd.ite ?_ ?_
      | intro _
      | split
      | dsimp only [Function.comp]
  exact fnOk_entry (by kernel_rfl) (by kernel_rfl) ((show Extern.find Tryz.f155 = Extern.RuntimeError.rows.lookup "(internal/runtime/maps.unhashableTypeError).RuntimeError" by kernel_rfl).trans he) hg
theorem fnOk_160 : FnOk Tryz.prog Tryz.f160 := by
  obtain ⟨e, he, hg⟩ : ∃ e, Extern.ReflectliteType.rows.lookup "(internal/abi.Kind).String" = some e ∧ ∀ args, Gd Tryz.prog (e args) := by
    refine ⟨_, rfl, fun args => ?_⟩
    try unfold Go.Extern.RuntimeError.nothing
    try unfold Go.Extern.RuntimeError.text
    repeat' first
      | infer_instance
      | refine Gd.bind ?_ fun _ => ?_
      | refine Gd.map _ ?_
      | refine Gd.ite ?_ ?_
      | intro _
      | split
      | dsimp only [Function.comp]
  exact fnOk_entry (by kernel_rfl) (by kernel_rfl) ((show Extern.find Tryz.f160 = Extern.ReflectliteType.rows.lookup "(internal/abi.Kind).String" by kernel_rfl).trans he) hg
def special : List Nat := [40, 43, 44, 45, 61, 62, 63, 94, 112, 122, 125, 139, 140, 141, 142, 143, 144, 145, 146, 147, 148, 149, 150, 153, 154, 155, 159, 160, 161, 162, 163, 164, 165, 166, 167, 168, 169, 171]
theorem rest_plain : ((List.range Tryz.prog.funcs.size).all fun i => special.contains i || (Tryz.prog.funcs[i]?).all fnPlain) = true := by kernel_rfl
theorem plain_prog : PlainP Tryz.prog := by
  intro f fn hf
  have hlt := (Array.getElem?_eq_some_iff.1 hf).1
  have h1 := List.all_eq_true.1 rest_plain f (List.mem_range.2 hlt)
  rw [hf] at h1
  simp only [Option.all_some, Bool.or_eq_true] at h1
  rcases h1 with h1 | h1
  · have : f ∈ special := by simpa using h1
    simp only [special, List.mem_cons, List.not_mem_nil, or_false] at this
    rcases this with rfl | rfl | rfl | rfl | rfl | rfl | rfl | rfl | rfl | rfl | rfl | rfl | rfl | rfl | rfl | rfl | rfl | rfl | rfl | rfl | rfl | rfl | rfl | rfl | rfl | rfl | rfl | rfl | rfl | rfl | rfl | rfl | rfl | rfl | rfl | rfl | rfl | rfl
    · rw [Tryz.func40] at hf; obtain rfl := Option.some.inj hf; exact fnOk_40
    · rw [Tryz.func43] at hf; obtain rfl := Option.some.inj hf; exact fnOk_43
    · rw [Tryz.func44] at hf; obtain rfl := Option.some.inj hf; exact fnOk_44
    · rw [Tryz.func45] at hf; obtain rfl := Option.some.inj hf; exact fnOk_45
    · rw [Tryz.func61] at hf; obtain rfl := Option.some.inj hf; exact fnOk_61
    · rw [Tryz.func62] at hf; obtain rfl := Option.some.inj hf; exact fnOk_62
    · rw [Tryz.func63] at hf; obtain rfl := Option.some.inj hf; exact fnOk_63
    · rw [Tryz.func94] at hf; obtain rfl := Option.some.inj hf; exact fnOk_94
    · rw [Tryz.func112] at hf; obtain rfl := Option.some.inj hf; exact fnOk_112
    · rw [Tryz.func122] at hf; obtain rfl := Option.some.inj hf; exact fnOk_122
    · rw [Tryz.func125] at hf; obtain rfl := Option.some.inj hf; exact fnOk_125
    · rw [Tryz.func139] at hf; obtain rfl := Option.some.inj hf; exact fnOk_139
    · rw [Tryz.func140] at hf; obtain rfl := Option.some.inj hf; exact fnOk_140
    · rw [Tryz.func141] at hf; obtain rfl := Option.some.inj hf; exact fnOk_141
    · rw [Tryz.func142] at hf; obtain rfl := Option.some.inj hf; exact fnOk_142
    · rw [Tryz.func143] at hf; obtain rfl := Option.some.inj hf; exact fnOk_143
    · rw [Tryz.func144] at hf; obtain rfl := Option.some.inj hf; exact fnOk_144
    · rw [Tryz.func145] at hf; obtain rfl := Option.some.inj hf; exact fnOk_145
    · rw [Tryz.func146] at hf; obtain rfl := Option.some.inj hf; exact fnOk_146
    · rw [Tryz.func147] at hf; obtain rfl := Option.some.inj hf; exact fnOk_147
    · rw [Tryz.func148] at hf; obtain rfl := Option.some.inj hf; exact fnOk_148
    · rw [Tryz.func149] at hf; obtain rfl := Option.some.inj hf; exact fnOk_149
    · rw [Tryz.func150] at hf; obtain rfl := Option.some.inj hf; exact fnOk_150
    · rw [Tryz.func153] at hf; obtain rfl := Option.some.inj hf; exact fnOk_153
    · rw [Tryz.func154] at hf; obtain rfl := Option.some.inj hf; exact fnOk_154
    · rw [Tryz.func155] at hf; obtain rfl := Option.some.inj hf; exact fnOk_155
    · rw [Tryz.func159] at hf; obtain rfl := Option.some.inj hf; exact fnOk_159
    · rw [Tryz.func160] at hf; obtain rfl := Option.some.inj hf; exact fnOk_160
    · rw [Tryz.func161] at hf; obtain rfl := Option.some.inj hf; exact fnOk_161
    · rw [Tryz.func162] at hf; obtain rfl := Option.some.inj hf; exact fnOk_162
    · rw [Tryz.func163] at hf; obtain rfl := Option.some.inj hf; exact fnOk_163
    · rw [Tryz.func164] at hf; obtain rfl := Option.some.inj hf; exact fnOk_164
    · rw [Tryz.func165] at hf; obtain rfl := Option.some.inj hf; exact fnOk_165
    · rw [Tryz.func166] at hf; obtain rfl := Option.some.inj hf; exact fnOk_166
    · rw [Tryz.func167] at hf; obtain rfl := Option.some.inj hf; exact fnOk_167
    · rw [Tryz.func168] at hf; obtain rfl := Option.some.inj hf; exact fnOk_168
    · rw [Tryz.func169] at hf; obtain rfl := Option.some.inj hf; exact fnOk_169
    · rw [Tryz.func171] at hf; obtain rfl := Option.some.inj hf; exact fnOk_171
  · exact fnOk_plain h1
end Go.Proofs.YtpenbkfchgeafaaGreatDoor
