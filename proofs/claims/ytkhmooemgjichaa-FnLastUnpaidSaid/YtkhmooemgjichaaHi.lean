/- Each function of the program has a body, or no entry of the library's, or a good one. -/
import Derived.Test.YtkhmooemgjichaaHh
import Derived.Test.YtkhmooemgjichaaChecked
import Derived.KernelRfl
namespace Go.Proofs.Ytkhmooemgjichaa
open Go Go.Conc

def fnPlain (fn : Func) : Bool := !(fn.name == "runtime.NumGoroutine") && (fn.body.isSome || ((Extern.findNext fn).isNone && (Extern.find fn).isNone))
theorem fnOk_plain {P : Program} {fn : Func} (h1 : fnPlain fn = true) : FnOk P fn := by
  simp only [fnPlain, Bool.and_eq_true, Bool.not_eq_true', Bool.or_eq_true] at h1
  refine ⟨h1.1, fun hb => ?_⟩
  rcases h1.2 with h2 | h2
  · rw [Option.isNone_iff_eq_none.1 hb] at h2
    cases h2
  · exact ⟨fun e he => (by rw [Option.isNone_iff_eq_none.1 h2.1] at he; cases he), fun e he => (by rw [Option.isNone_iff_eq_none.1 h2.2] at he; cases he)⟩
theorem fnOk_entry {P : Program} {fn : Func} {e0 : Array Value → Sem Value} (hn : (fn.name == "runtime.NumGoroutine") = false) (hx : (Extern.findNext fn).isNone = true) (hf : Extern.find fn = some e0) (hg : ∀ args, Gd P (e0 args)) : FnOk P fn :=
  ⟨hn, fun _ => ⟨fun e he => (by rw [Option.isNone_iff_eq_none.1 hx] at he; cases he), fun e he => (by rw [hf] at he; obtain rfl := Option.some.inj he; exact hg)⟩⟩
variable {P : Program}
set_option maxHeartbeats 2000000 in
instance gd_RE_described : ∀ x, Gd P (Go.Extern.RuntimeError.described x) := by
  intro x
  unfold Go.Extern.RuntimeError.described
  try unfold Go.Extern.RuntimeError.text
  repeat' first
    | infer_instance
    | refine Gd.bind ?_ fun _ => ?_
    | refine Gd.map _ ?_
    | refine Gd.ite ?_ ?_
    | intro _
    | split
    | dsimp only [Function.comp]
set_option maxHeartbeats 2000000 in
instance gd_RE_pkgpathOf : ∀ x, Gd P (Go.Extern.RuntimeError.pkgpathOf x) := by
  intro x
  unfold Go.Extern.RuntimeError.pkgpathOf
  try unfold Go.Extern.RuntimeError.text
  repeat' first
    | infer_instance
    | refine Gd.bind ?_ fun _ => ?_
    | refine Gd.map _ ?_
    | refine Gd.ite ?_ ?_
    | intro _
    | split
    | dsimp only [Function.comp]
set_option maxHeartbeats 2000000 in
instance gd_RE_typeAssertionError : ∀ x, Gd P (Go.Extern.RuntimeError.typeAssertionError x) := by
  intro x
  unfold Go.Extern.RuntimeError.typeAssertionError
  try unfold Go.Extern.RuntimeError.text
  repeat' first
    | infer_instance
    | refine Gd.bind ?_ fun _ => ?_
    | refine Gd.map _ ?_
    | refine Gd.ite ?_ ?_
    | intro _
    | split
    | dsimp only [Function.comp]
instance gd_RE_boundsError : ∀ x, Gd P (Go.Extern.RuntimeError.boundsError x) := by
  intro x
  unfold Go.Extern.RuntimeError.boundsError
  unfold Go.Extern.RuntimeError.text
  obtain ⟨l⟩ := x
  rcases l with _ | ⟨a, _ | ⟨b, l⟩⟩
  · conv => arg 2; whnf
    infer_instance
  · cases a
    case agg cells =>
      obtain ⟨m⟩ := cells
      rcases m with _ | ⟨c0, _ | ⟨c1, _ | ⟨c2, _ | ⟨c3, _ | ⟨c4, m⟩⟩⟩⟩⟩
      case cons.cons.cons.cons.nil =>
        cases c0
        case int k0 n0 =>
          cases c1
          case int k1 n1 =>
            cases c2
            case bool b2 =>
              cases c3
              case int k3 n3 =>
                show Gd P (match (if (b2 && decide (n0 < 0)) = true then Extern.RuntimeError.boundsNegErrorFmts else Extern.RuntimeError.boundsErrorFmts)[n3.toNat]? with
                  | some fmt => pure (strVal _)
                  | none => stuck "boundsError: no such code")
                split <;> infer_instance
              all_goals (conv => arg 2; whnf); infer_instance
            all_goals (conv => arg 2; whnf); infer_instance
          all_goals (conv => arg 2; whnf); infer_instance
        all_goals (conv => arg 2; whnf); infer_instance
      case cons.cons.cons.cons.cons =>
        conv => arg 2; whnf
        infer_instance
      all_goals (conv => arg 2; whnf); infer_instance
    all_goals (conv => arg 2; whnf); infer_instance
  · conv => arg 2; whnf
    infer_instance
instance gd_RE_unhashableTypeError : ∀ x, Gd P (Go.Extern.RuntimeError.unhashableTypeError x) := by
  intro x
  unfold Go.Extern.RuntimeError.unhashableTypeError
  unfold Go.Extern.RuntimeError.text
  obtain ⟨l⟩ := x
  rcases l with _ | ⟨a, _ | ⟨b, l⟩⟩
  · conv => arg 2; whnf
    infer_instance
  · cases a
    case agg cells =>
      obtain ⟨m⟩ := cells
      rcases m with _ | ⟨c0, _ | ⟨c1, m⟩⟩
      case cons.nil =>
        refine Gd.bind (inferInstance : Gd P (Extern.RuntimeError.described c0)) fun t => ?_
        cases t <;> infer_instance
      case cons.cons =>
        conv => arg 2; whnf
        infer_instance
      all_goals (conv => arg 2; whnf); infer_instance
    all_goals (conv => arg 2; whnf); infer_instance
  · conv => arg 2; whnf
    infer_instance
theorem fnOk_54 : FnOk Try.prog Try.f54 := by
  obtain ⟨e, he, hg⟩ : ∃ e, Extern.RuntimeError.rows.lookup "(runtime.boundsError).Error" = some e ∧ ∀ args, Gd Try.prog (e args) := by
    refine ⟨_, rfl, fun args => ?_⟩
    try unfold Go.Extern.RuntimeError.nothing
    try unfold Go.Extern.RuntimeError.text
    repeat' first
      | infer_instance
      | refine Gd.bind ?_ fun _ => ?_
      | refine Gd.map _ ?_
      | refine Gd.ite ?_ ?_
      | intro _
      | split
      | dsimp only [Function.comp]
  exact fnOk_entry (by kernel_rfl) (by kernel_rfl) ((show Extern.find Try.f54 = Extern.RuntimeError.rows.lookup "(runtime.boundsError).Error" by kernel_rfl).trans he) hg
theorem fnOk_55 : FnOk Try.prog Try.f55 := by
  obtain ⟨e, he, hg⟩ : ∃ e, Extern.RuntimeError.rows.lookup "(runtime.boundsError).RuntimeError" = some e ∧ ∀ args, Gd Try.prog (e args) := by
    refine ⟨_, rfl, fun args => ?_⟩
    try unfold Go.Extern.RuntimeError.nothing
    try unfold Go.Extern.RuntimeError.text
    repeat' first
      | infer_instance
      | refine Gd.bind ?_ fun _ => ?_
      | refine Gd.map _ ?_
      | refine Gd.ite ?_ ?_
      | intro _
      | split
      | dsimp only [Function.comp]
  exact fnOk_entry (by kernel_rfl) (by kernel_rfl) ((show Extern.find Try.f55 = Extern.RuntimeError.rows.lookup "(runtime.boundsError).RuntimeError" by kernel_rfl).trans he) hg
theorem fnOk_56 : FnOk Try.prog Try.f56 := by
  obtain ⟨e, he, hg⟩ : ∃ e, Extern.RuntimeError.rows.lookup "(runtime.errorString).Error" = some e ∧ ∀ args, Gd Try.prog (e args) := by
    refine ⟨_, rfl, fun args => ?_⟩
    try unfold Go.Extern.RuntimeError.nothing
    try unfold Go.Extern.RuntimeError.text
    repeat' first
      | infer_instance
      | refine Gd.bind ?_ fun _ => ?_
      | refine Gd.map _ ?_
      | refine Gd.ite ?_ ?_
      | intro _
      | split
      | dsimp only [Function.comp]
  exact fnOk_entry (by kernel_rfl) (by kernel_rfl) ((show Extern.find Try.f56 = Extern.RuntimeError.rows.lookup "(runtime.errorString).Error" by kernel_rfl).trans he) hg
theorem fnOk_57 : FnOk Try.prog Try.f57 := by
  obtain ⟨e, he, hg⟩ : ∃ e, Extern.RuntimeError.rows.lookup "(runtime.errorString).RuntimeError" = some e ∧ ∀ args, Gd Try.prog (e args) := by
    refine ⟨_, rfl, fun args => ?_⟩
    try unfold Go.Extern.RuntimeError.nothing
    try unfold Go.Extern.RuntimeError.text
    repeat' first
      | infer_instance
      | refine Gd.bind ?_ fun _ => ?_
      | refine Gd.map _ ?_
      | refine Gd.ite ?_ ?_
      | intro _
      | split
      | dsimp only [Function.comp]
  exact fnOk_entry (by kernel_rfl) (by kernel_rfl) ((show Extern.find Try.f57 = Extern.RuntimeError.rows.lookup "(runtime.errorString).RuntimeError" by kernel_rfl).trans he) hg
theorem fnOk_58 : FnOk Try.prog Try.f58 := by
  obtain ⟨e, he, hg⟩ : ∃ e, Extern.RuntimeError.rows.lookup "(runtime.plainError).Error" = some e ∧ ∀ args, Gd Try.prog (e args) := by
    refine ⟨_, rfl, fun args => ?_⟩
    try unfold Go.Extern.RuntimeError.nothing
    try unfold Go.Extern.RuntimeError.text
    repeat' first
      | infer_instance
      | refine Gd.bind ?_ fun _ => ?_
      | refine Gd.map _ ?_
      | refine Gd.ite ?_ ?_
      | intro _
      | split
      | dsimp only [Function.comp]
  exact fnOk_entry (by kernel_rfl) (by kernel_rfl) ((show Extern.find Try.f58 = Extern.RuntimeError.rows.lookup "(runtime.plainError).Error" by kernel_rfl).trans he) hg
theorem fnOk_59 : FnOk Try.prog Try.f59 := by
  obtain ⟨e, he, hg⟩ : ∃ e, Extern.RuntimeError.rows.lookup "(runtime.plainError).RuntimeError" = some e ∧ ∀ args, Gd Try.prog (e args) := by
    refine ⟨_, rfl, fun args => ?_⟩
    try unfold Go.Extern.RuntimeError.nothing
    try unfold Go.Extern.RuntimeError.text
    repeat' first
      | infer_instance
      | refine Gd.bind ?_ fun _ => ?_
      | refine Gd.map _ ?_
      | refine Gd.ite ?_ ?_
      | intro _
      | split
      | dsimp only [Function.comp]
  exact fnOk_entry (by kernel_rfl) (by kernel_rfl) ((show Extern.find Try.f59 = Extern.RuntimeError.rows.lookup "(runtime.plainError).RuntimeError" by kernel_rfl).trans he) hg
theorem fnOk_60 : FnOk Try.prog Try.f60 := by
  obtain ⟨e, he, hg⟩ : ∃ e, Extern.RuntimeError.rows.lookup "(runtime.errorAddressString).Error" = some e ∧ ∀ args, Gd Try.prog (e args) := by
    refine ⟨_, rfl, fun args => ?_⟩
    try unfold Go.Extern.RuntimeError.nothing
    try unfold Go.Extern.RuntimeError.text
    repeat' first
      | infer_instance
      | refine Gd.bind ?_ fun _ => ?_
      | refine Gd.map _ ?_
      | refine Gd.ite ?_ ?_
      | intro _
      | split
      | dsimp only [Function.comp]
  exact fnOk_entry (by kernel_rfl) (by kernel_rfl) ((show Extern.find Try.f60 = Extern.RuntimeError.rows.lookup "(runtime.errorAddressString).Error" by kernel_rfl).trans he) hg
theorem fnOk_61 : FnOk Try.prog Try.f61 := by
  obtain ⟨e, he, hg⟩ : ∃ e, Extern.RuntimeError.rows.lookup "(runtime.errorAddressString).RuntimeError" = some e ∧ ∀ args, Gd Try.prog (e args) := by
    refine ⟨_, rfl, fun args => ?_⟩
    try unfold Go.Extern.RuntimeError.nothing
    try unfold Go.Extern.RuntimeError.text
    repeat' first
      | infer_instance
      | refine Gd.bind ?_ fun _ => ?_
      | refine Gd.map _ ?_
      | refine Gd.ite ?_ ?_
      | intro _
      | split
      | dsimp only [Function.comp]
  exact fnOk_entry (by kernel_rfl) (by kernel_rfl) ((show Extern.find Try.f61 = Extern.RuntimeError.rows.lookup "(runtime.errorAddressString).RuntimeError" by kernel_rfl).trans he) hg
theorem fnOk_62 : FnOk Try.prog Try.f62 := by
  obtain ⟨e, he, hg⟩ : ∃ e, Extern.RuntimeError.rows.lookup "(*runtime.TypeAssertionError).Error" = some e ∧ ∀ args, Gd Try.prog (e args) := by
    refine ⟨_, rfl, fun args => ?_⟩
    try unfold Go.Extern.RuntimeError.nothing
    try unfold Go.Extern.RuntimeError.text
    repeat' first
      | infer_instance
      | refine Gd.bind ?_ fun _ => ?_
      | refine Gd.map _ ?_
      | refine Gd.ite ?_ ?_
      | intro _
      | split
      | dsimp only [Function.comp]
  exact fnOk_entry (by kernel_rfl) (by kernel_rfl) ((show Extern.find Try.f62 = Extern.RuntimeError.rows.lookup "(*runtime.TypeAssertionError).Error" by kernel_rfl).trans he) hg
theorem fnOk_63 : FnOk Try.prog Try.f63 := by
  obtain ⟨e, he, hg⟩ : ∃ e, Extern.RuntimeError.rows.lookup "(*runtime.TypeAssertionError).RuntimeError" = some e ∧ ∀ args, Gd Try.prog (e args) := by
    refine ⟨_, rfl, fun args => ?_⟩
    try unfold Go.Extern.RuntimeError.nothing
    try unfold Go.Extern.RuntimeError.text
    repeat' first
      | infer_instance
      | refine Gd.bind ?_ fun _ => ?_
      | refine Gd.map _ ?_
      | refine Gd.ite ?_ ?_
      | intro _
      | split
      | dsimp only [Function.comp]
  exact fnOk_entry (by kernel_rfl) (by kernel_rfl) ((show Extern.find Try.f63 = Extern.RuntimeError.rows.lookup "(*runtime.TypeAssertionError).RuntimeError" by kernel_rfl).trans he) hg
theorem fnOk_64 : FnOk Try.prog Try.f64 := by
  obtain ⟨e, he, hg⟩ : ∃ e, Extern.RuntimeError.rows.lookup "(*runtime.PanicNilError).Error" = some e ∧ ∀ args, Gd Try.prog (e args) := by
    refine ⟨_, rfl, fun args => ?_⟩
    try unfold Go.Extern.RuntimeError.nothing
    try unfold Go.Extern.RuntimeError.text
    repeat' first
      | infer_instance
      | refine Gd.bind ?_ fun _ => ?_
      | refine Gd.map _ ?_
      | refine Gd.ite ?_ ?_
      | intro _
      | split
      | dsimp only [Function.comp]
  exact fnOk_entry (by kernel_rfl) (by kernel_rfl) ((show Extern.find Try.f64 = Extern.RuntimeError.rows.lookup "(*runtime.PanicNilError).Error" by kernel_rfl).trans he) hg
theorem fnOk_65 : FnOk Try.prog Try.f65 := by
  obtain ⟨e, he, hg⟩ : ∃ e, Extern.RuntimeError.rows.lookup "(*runtime.PanicNilError).RuntimeError" = some e ∧ ∀ args, Gd Try.prog (e args) := by
    refine ⟨_, rfl, fun args => ?_⟩
    try unfold Go.Extern.RuntimeError.nothing
    try unfold Go.Extern.RuntimeError.text
    repeat' first
      | infer_instance
      | refine Gd.bind ?_ fun _ => ?_
      | refine Gd.map _ ?_
      | refine Gd.ite ?_ ?_
      | intro _
      | split
      | dsimp only [Function.comp]
  exact fnOk_entry (by kernel_rfl) (by kernel_rfl) ((show Extern.find Try.f65 = Extern.RuntimeError.rows.lookup "(*runtime.PanicNilError).RuntimeError" by kernel_rfl).trans he) hg
theorem fnOk_67 : FnOk Try.prog Try.f67 := by
  obtain ⟨e, he, hg⟩ : ∃ e, Extern.RuntimeError.rows.lookup "(internal/runtime/maps.unhashableTypeError).Error" = some e ∧ ∀ args, Gd Try.prog (e args) := by
    refine ⟨_, rfl, fun args => ?_⟩
    try unfold Go.Extern.RuntimeError.nothing
    try unfold Go.Extern.RuntimeError.text
    repeat' first
      | infer_instance
      | refine Gd.bind ?_ fun _ => ?_
      | refine Gd.map _ ?_
      | refine Gd.ite ?_ ?_
      | intro _
      | split
      | dsimp only [Function.comp]
  exact fnOk_entry (by kernel_rfl) (by kernel_rfl) ((show Extern.find Try.f67 = Extern.RuntimeError.rows.lookup "(internal/runtime/maps.unhashableTypeError).Error" by kernel_rfl).trans he) hg
theorem fnOk_68 : FnOk Try.prog Try.f68 := by
  obtain ⟨e, he, hg⟩ : ∃ e, Extern.RuntimeError.rows.lookup "(internal/runtime/maps.unhashableTypeError).RuntimeError" = some e ∧ ∀ args, Gd Try.prog (e args) := by
    refine ⟨_, rfl, fun args => ?_⟩
    try unfold Go.Extern.RuntimeError.nothing
    try unfold Go.Extern.RuntimeError.text
    repeat' first
      | infer_instance
      | refine Gd.bind ?_ fun _ => ?_
      | refine Gd.map _ ?_
      | refine Gd.ite ?_ ?_
      | intro _
      | split
      | dsimp only [Function.comp]
  exact fnOk_entry (by kernel_rfl) (by kernel_rfl) ((show Extern.find Try.f68 = Extern.RuntimeError.rows.lookup "(internal/runtime/maps.unhashableTypeError).RuntimeError" by kernel_rfl).trans he) hg
theorem fnOk_69 : FnOk Try.prog Try.f69 := by
  obtain ⟨e, he, hg⟩ : ∃ e, Extern.ReflectliteType.rows.lookup "(internal/abi.Kind).String" = some e ∧ ∀ args, Gd Try.prog (e args) := by
    refine ⟨_, rfl, fun args => ?_⟩
    try unfold Go.Extern.RuntimeError.nothing
    try unfold Go.Extern.RuntimeError.text
    repeat' first
      | infer_instance
      | refine Gd.bind ?_ fun _ => ?_
      | refine Gd.map _ ?_
      | refine Gd.ite ?_ ?_
      | intro _
      | split
      | dsimp only [Function.comp]
  exact fnOk_entry (by kernel_rfl) (by kernel_rfl) ((show Extern.find Try.f69 = Extern.ReflectliteType.rows.lookup "(internal/abi.Kind).String" by kernel_rfl).trans he) hg
def special : List Nat := [54, 55, 56, 57, 58, 59, 60, 61, 62, 63, 64, 65, 67, 68, 69]
theorem rest_plain : ((List.range Try.prog.funcs.size).all fun i => special.contains i || (Try.prog.funcs[i]?).all fnPlain) = true := by kernel_rfl
theorem plain_prog : PlainP Try.prog := by
  intro f fn hf
  have hlt := (Array.getElem?_eq_some_iff.1 hf).1
  have h1 := List.all_eq_true.1 rest_plain f (List.mem_range.2 hlt)
  rw [hf] at h1
  simp only [Option.all_some, Bool.or_eq_true] at h1
  rcases h1 with h1 | h1
  · have : f ∈ special := by simpa using h1
    simp only [special, List.mem_cons, List.not_mem_nil, or_false] at this
    rcases this with rfl | rfl | rfl | rfl | rfl | rfl | rfl | rfl | rfl | rfl | rfl | rfl | rfl | rfl | rfl
    · rw [Try.func54] at hf; obtain rfl := Option.some.inj hf; exact fnOk_54
    · rw [Try.func55] at hf; obtain rfl := Option.some.inj hf; exact fnOk_55
    · rw [Try.func56] at hf; obtain rfl := Option.some.inj hf; exact fnOk_56
    · rw [Try.func57] at hf; obtain rfl := Option.some.inj hf; exact fnOk_57
    · rw [Try.func58] at hf; obtain rfl := Option.some.inj hf; exact fnOk_58
    · rw [Try.func59] at hf; obtain rfl := Option.some.inj hf; exact fnOk_59
    · rw [Try.func60] at hf; obtain rfl := Option.some.inj hf; exact fnOk_60
    · rw [Try.func61] at hf; obtain rfl := Option.some.inj hf; exact fnOk_61
    · rw [Try.func62] at hf; obtain rfl := Option.some.inj hf; exact fnOk_62
    · rw [Try.func63] at hf; obtain rfl := Option.some.inj hf; exact fnOk_63
    · rw [Try.func64] at hf; obtain rfl := Option.some.inj hf; exact fnOk_64
    · rw [Try.func65] at hf; obtain rfl := Option.some.inj hf; exact fnOk_65
    · rw [Try.func67] at hf; obtain rfl := Option.some.inj hf; exact fnOk_67
    · rw [Try.func68] at hf; obtain rfl := Option.some.inj hf; exact fnOk_68
    · rw [Try.func69] at hf; obtain rfl := Option.some.inj hf; exact fnOk_69
  · exact fnOk_plain h1
end Go.Proofs.Ytkhmooemgjichaa
