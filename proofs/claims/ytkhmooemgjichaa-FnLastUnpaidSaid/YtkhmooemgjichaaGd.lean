/- That the model's entries go by the coming answers alone and say no word of deafness: one after another. -/
import Derived.Test.YtkhmooemgjichaaLoc
import GoSem.Dispatch
namespace Go.Proofs.Ytkhmooemgjichaa
open Go

class Gd {α : Type} (P : Program) (x : Sem α) : Prop where
  good : Good P (fun _ => True) x

variable {α β : Type} {P : Program}
theorem Gd.bind {x : Sem α} {f : α → Sem β} (hx : Gd P x) (hf : ∀ a, Gd P (f a)) : Gd P (x >>= f) := ⟨Good.bind' hx.good fun a => (hf a).good⟩
theorem Gd.map {x : Sem α} (f : α → β) (hx : Gd P x) : Gd P (f <$> x) := ⟨Good.map f hx.good fun _ => trivial⟩
instance (a : α) : Gd P (Pure.pure a : Sem α) := ⟨Good.pure trivial⟩
instance (a : α) : Gd P (Sem.pure a) := ⟨Good.pure trivial⟩
instance (h : Halt) : Gd P (Sem.halt h : Sem α) := ⟨Good.halt h⟩
instance (a : Addr) (m : Mode) (k : Value → Sem α) [h : ∀ v, Gd P (k v)] : Gd P (Sem.load m a k) := ⟨Good.load a m fun v => (h v).good⟩
instance (a : Addr) (m : Mode) (v : Value) (k : Sem α) [h : Gd P k] : Gd P (Sem.store m a v k) := ⟨Good.store a m v h.good⟩
instance (o : Obj) (k : Nat → Sem α) [h : ∀ v, Gd P (k v)] : Gd P (Sem.new o k) := ⟨Good.new o fun v => (h v).good⟩
instance (r : Nat) (k : Option (TypeId × Nat) → Sem α) [h : ∀ v, Gd P (k v)] : Gd P (Sem.shape r k) := ⟨Good.shape r fun v => (h v).good⟩
instance (a : Addr) (n : Nat) (k : Sem α) [h : Gd P k] : Gd P (Sem.freeze a n k) := ⟨Good.freeze a n h.good⟩
instance (a : Addr) (k : Bool → Sem α) [h : ∀ v, Gd P (k v)] : Gd P (Sem.frozen a k) := ⟨Good.frozen a fun v => (h v).good⟩
instance (r : Nat) (k : Obj → Sem α) [h : ∀ v, Gd P (k v)] : Gd P (Sem.getObj r k) := ⟨Good.getObj r fun v => (h v).good⟩
instance (r : Nat) (o : Obj) (k : Sem α) [h : Gd P k] : Gd P (Sem.setObj r o k) := ⟨Good.setObj r o h.good⟩
instance (q : Question) (k : Nat → Sem α) [h : ∀ v, Gd P (k v)] : Gd P (Sem.choose q k) := ⟨Good.choose q fun v => (h v).good⟩
instance : Gd P Go.program := ⟨Good.program (Good.pure trivial)⟩
instance gd_noRoom : Gd P (Go.mark .noRoom) := ⟨Good.mark _ (by simp) (by simp) (Good.pure trivial)⟩
instance gd_extern (f : FuncId) : Gd P (Go.mark (.extern f)) := ⟨Good.mark _ (by simp) (by simp) (Good.pure trivial)⟩

theorem Gd.mapM_list {f : α → Sem β} (h : ∀ a, Gd P (f a)) : ∀ l : List α, Gd P (l.mapM f) := by
  intro l
  induction l with
  | nil => rw [List.mapM_nil]; infer_instance
  | cons a l ih =>
    rw [List.mapM_cons]
    exact Gd.bind (h a) fun _ => Gd.bind ih fun _ => inferInstance
instance gd_mapM_list (f : α → Sem β) [h : ∀ a, Gd P (f a)] (l : List α) : Gd P (l.mapM f) := Gd.mapM_list h l
instance gd_mapM (f : α → Sem β) [h : ∀ a, Gd P (f a)] (l : Array α) : Gd P (l.mapM f) := by
  rw [Array.mapM_eq_mapM_toList]
  exact Gd.map _ (Gd.mapM_list h _)
theorem Gd.foldlM_list {f : β → α → Sem β} (h : ∀ b a, Gd P (f b a)) : ∀ (l : List α) (b : β), Gd P (l.foldlM f b) := by
  intro l
  induction l with
  | nil => intro b; show Gd P (pure b); infer_instance
  | cons a l ih => intro b; rw [List.foldlM_cons]; exact Gd.bind (h b a) fun _ => ih _
theorem Gd.mapM_arr {f : α → Sem β} (h : ∀ a, Gd P (f a)) (l : Array α) : Gd P (l.mapM f) := by
  rw [Array.mapM_eq_mapM_toList]
  exact Gd.map _ (Gd.mapM_list h _)
instance gd_foldlM (f : β → α → Sem β) [h : ∀ b a, Gd P (f b a)] (l : List α) (b : β) : Gd P (l.foldlM f b) := Gd.foldlM_list h l b
theorem Gd.forIn_list {f : α → β → Sem (ForInStep β)} (h : ∀ a b, Gd P (f a b)) : ∀ (l : List α) (b : β), Gd P (forIn l b f) := by
  intro l
  induction l with
  | nil => intro b; rw [List.forIn_nil]; infer_instance
  | cons a l ih =>
    intro b
    rw [List.forIn_cons]
    refine Gd.bind (h a b) fun x => ?_
    cases x with
    | done b => infer_instance
    | yield b => exact ih b
theorem Gd.sbind {x : Sem α} {f : α → Sem β} (hx : Gd P x) (hf : ∀ a, Gd P (f a)) : Gd P (Sem.bind x f) := Gd.bind hx hf
theorem Gd.wchoose {q : Question} {k : Nat → Sem α} (h : ∀ v, Gd P (k v)) : Gd P (Sem.choose q k) := ⟨Good.choose q fun v => (h v).good⟩
theorem Gd.wget {r : Nat} {k : Obj → Sem α} (h : ∀ v, Gd P (k v)) : Gd P (Sem.getObj r k) := ⟨Good.getObj r fun v => (h v).good⟩
theorem Gd.wset {r : Nat} {o : Obj} {k : Sem α} (h : Gd P k) : Gd P (Sem.setObj r o k) := ⟨Good.setObj r o h.good⟩
theorem Gd.wnew {o : Obj} {k : Nat → Sem α} (h : ∀ v, Gd P (k v)) : Gd P (Sem.new o k) := ⟨Good.new o fun v => (h v).good⟩
theorem Gd.wshape {r : Nat} {k : Option (TypeId × Nat) → Sem α} (h : ∀ v, Gd P (k v)) : Gd P (Sem.shape r k) := ⟨Good.shape r fun v => (h v).good⟩
theorem Gd.wprogram {k : Program → Sem α} (h : Gd P (k P)) : Gd P (Sem.program k) := ⟨Good.program h.good⟩
theorem Gd.wdec {p : Prop} {f : ¬ p → Sem α} {g : p → Sem α} (hf : ∀ h, Gd P (f h)) (hg : ∀ h, Gd P (g h)) (d : Decidable p) : Gd P (Decidable.rec (motive := fun _ => Sem α) f g d) := by
  cases d
  · exact hf _
  · exact hg _
theorem gd_dead (h : Halt) : Gd P (Sem.halt h : Sem α) := inferInstance
theorem Gd.forIn_arr {f : α → β → Sem (ForInStep β)} (h : ∀ a b, Gd P (f a b)) (l : Array α) (b : β) : Gd P (forIn l b f) := by
  obtain ⟨l⟩ := l
  rw [List.forIn_toArray]
  exact Gd.forIn_list h l b
theorem Gd.forIn_range {f : Nat → β → Sem (ForInStep β)} (h : ∀ a b, Gd P (f a b)) (r : Std.Legacy.Range) (b : β) : Gd P (forIn r b f) := by
  rw [Std.Legacy.Range.forIn_eq_forIn_range']
  exact Gd.forIn_list h _ b

instance gd_load : ∀ x0 x1, Gd P (Go.load x0 x1) := by
  intros
  unfold Go.load
  repeat' first
    | infer_instance
    | refine Gd.bind ?_ fun _ => ?_
    | refine Gd.map _ ?_
    | refine Gd.mapM_arr (fun _ => ?_) _
    | refine Gd.mapM_list (fun _ => ?_) _
    | refine Gd.foldlM_list (fun _ _ => ?_) _ _
    | refine Gd.forIn_arr (fun _ _ => ?_) _ _
    | refine Gd.forIn_range (fun _ _ => ?_) _ _
    | intro _
    | split
    | dsimp only [Function.comp]

instance gd_store : ∀ x0 x1 x2, Gd P (Go.store x0 x1 x2) := by
  intros
  unfold Go.store
  repeat' first
    | infer_instance
    | refine Gd.bind ?_ fun _ => ?_
    | refine Gd.map _ ?_
    | refine Gd.mapM_arr (fun _ => ?_) _
    | refine Gd.mapM_list (fun _ => ?_) _
    | refine Gd.foldlM_list (fun _ _ => ?_) _ _
    | refine Gd.forIn_arr (fun _ _ => ?_) _ _
    | refine Gd.forIn_range (fun _ _ => ?_) _ _
    | intro _
    | split
    | dsimp only [Function.comp]

instance gd_newObj : ∀ x0, Gd P (Go.newObj x0) := by
  intros
  unfold Go.newObj
  repeat' first
    | infer_instance
    | refine Gd.bind ?_ fun _ => ?_
    | refine Gd.map _ ?_
    | refine Gd.mapM_arr (fun _ => ?_) _
    | refine Gd.mapM_list (fun _ => ?_) _
    | refine Gd.foldlM_list (fun _ _ => ?_) _ _
    | refine Gd.forIn_arr (fun _ _ => ?_) _ _
    | refine Gd.forIn_range (fun _ _ => ?_) _ _
    | intro _
    | split
    | dsimp only [Function.comp]

instance gd_shape : ∀ x0, Gd P (Go.shape x0) := by
  intros
  unfold Go.shape
  repeat' first
    | infer_instance
    | refine Gd.bind ?_ fun _ => ?_
    | refine Gd.map _ ?_
    | refine Gd.mapM_arr (fun _ => ?_) _
    | refine Gd.mapM_list (fun _ => ?_) _
    | refine Gd.foldlM_list (fun _ _ => ?_) _ _
    | refine Gd.forIn_arr (fun _ _ => ?_) _ _
    | refine Gd.forIn_range (fun _ _ => ?_) _ _
    | intro _
    | split
    | dsimp only [Function.comp]

instance gd_freeze : ∀ x0 x1, Gd P (Go.freeze x0 x1) := by
  intros
  unfold Go.freeze
  repeat' first
    | infer_instance
    | refine Gd.bind ?_ fun _ => ?_
    | refine Gd.map _ ?_
    | refine Gd.mapM_arr (fun _ => ?_) _
    | refine Gd.mapM_list (fun _ => ?_) _
    | refine Gd.foldlM_list (fun _ _ => ?_) _ _
    | refine Gd.forIn_arr (fun _ _ => ?_) _ _
    | refine Gd.forIn_range (fun _ _ => ?_) _ _
    | intro _
    | split
    | dsimp only [Function.comp]

instance gd_frozen : ∀ x0, Gd P (Go.frozen x0) := by
  intros
  unfold Go.frozen
  repeat' first
    | infer_instance
    | refine Gd.bind ?_ fun _ => ?_
    | refine Gd.map _ ?_
    | refine Gd.mapM_arr (fun _ => ?_) _
    | refine Gd.mapM_list (fun _ => ?_) _
    | refine Gd.foldlM_list (fun _ _ => ?_) _ _
    | refine Gd.forIn_arr (fun _ _ => ?_) _ _
    | refine Gd.forIn_range (fun _ _ => ?_) _ _
    | intro _
    | split
    | dsimp only [Function.comp]

instance gd_getObj : ∀ x0, Gd P (Go.getObj x0) := by
  intros
  unfold Go.getObj
  repeat' first
    | infer_instance
    | refine Gd.bind ?_ fun _ => ?_
    | refine Gd.map _ ?_
    | refine Gd.mapM_arr (fun _ => ?_) _
    | refine Gd.mapM_list (fun _ => ?_) _
    | refine Gd.foldlM_list (fun _ _ => ?_) _ _
    | refine Gd.forIn_arr (fun _ _ => ?_) _ _
    | refine Gd.forIn_range (fun _ _ => ?_) _ _
    | intro _
    | split
    | dsimp only [Function.comp]

instance gd_setObj : ∀ x0 x1, Gd P (Go.setObj x0 x1) := by
  intros
  unfold Go.setObj
  repeat' first
    | infer_instance
    | refine Gd.bind ?_ fun _ => ?_
    | refine Gd.map _ ?_
    | refine Gd.mapM_arr (fun _ => ?_) _
    | refine Gd.mapM_list (fun _ => ?_) _
    | refine Gd.foldlM_list (fun _ _ => ?_) _ _
    | refine Gd.forIn_arr (fun _ _ => ?_) _ _
    | refine Gd.forIn_range (fun _ _ => ?_) _ _
    | intro _
    | split
    | dsimp only [Function.comp]

instance gd_choose : ∀ x0, Gd P (Go.choose x0) := by
  intros
  unfold Go.choose
  repeat' first
    | infer_instance
    | refine Gd.bind ?_ fun _ => ?_
    | refine Gd.map _ ?_
    | refine Gd.mapM_arr (fun _ => ?_) _
    | refine Gd.mapM_list (fun _ => ?_) _
    | refine Gd.foldlM_list (fun _ _ => ?_) _ _
    | refine Gd.forIn_arr (fun _ _ => ?_) _ _
    | refine Gd.forIn_range (fun _ _ => ?_) _ _
    | intro _
    | split
    | dsimp only [Function.comp]

instance gd_askRoom : ∀ x0, Gd P (Go.askRoom x0) := by
  intros
  unfold Go.askRoom
  repeat' first
    | infer_instance
    | refine Gd.bind ?_ fun _ => ?_
    | refine Gd.map _ ?_
    | refine Gd.mapM_arr (fun _ => ?_) _
    | refine Gd.mapM_list (fun _ => ?_) _
    | refine Gd.foldlM_list (fun _ _ => ?_) _ _
    | refine Gd.forIn_arr (fun _ _ => ?_) _ _
    | refine Gd.forIn_range (fun _ _ => ?_) _ _
    | intro _
    | split
    | dsimp only [Function.comp]

instance gd_stuck {α : Type} : ∀ x0, Gd P (Go.stuck x0 : Sem α) := by
  intros
  unfold Go.stuck
  repeat' first
    | infer_instance
    | refine Gd.bind ?_ fun _ => ?_
    | refine Gd.map _ ?_
    | refine Gd.mapM_arr (fun _ => ?_) _
    | refine Gd.mapM_list (fun _ => ?_) _
    | refine Gd.foldlM_list (fun _ _ => ?_) _ _
    | refine Gd.forIn_arr (fun _ _ => ?_) _ _
    | refine Gd.forIn_range (fun _ _ => ?_) _ _
    | intro _
    | split
    | dsimp only [Function.comp]

instance gd_unsupported {α : Type} : ∀ x0, Gd P (Go.unsupported x0 : Sem α) := by
  intros
  unfold Go.unsupported
  repeat' first
    | infer_instance
    | refine Gd.bind ?_ fun _ => ?_
    | refine Gd.map _ ?_
    | refine Gd.mapM_arr (fun _ => ?_) _
    | refine Gd.mapM_list (fun _ => ?_) _
    | refine Gd.foldlM_list (fun _ _ => ?_) _ _
    | refine Gd.forIn_arr (fun _ _ => ?_) _ _
    | refine Gd.forIn_range (fun _ _ => ?_) _ _
    | intro _
    | split
    | dsimp only [Function.comp]

instance gd_goPanic {α : Type} : ∀ x0, Gd P (Go.goPanic x0 : Sem α) := by
  intros
  unfold Go.goPanic
  repeat' first
    | infer_instance
    | refine Gd.bind ?_ fun _ => ?_
    | refine Gd.map _ ?_
    | refine Gd.mapM_arr (fun _ => ?_) _
    | refine Gd.mapM_list (fun _ => ?_) _
    | refine Gd.foldlM_list (fun _ _ => ?_) _ _
    | refine Gd.forIn_arr (fun _ _ => ?_) _ _
    | refine Gd.forIn_range (fun _ _ => ?_) _ _
    | intro _
    | split
    | dsimp only [Function.comp]

instance gd_fatal {α : Type} : ∀ x0, Gd P (Go.fatal x0 : Sem α) := by
  intros
  unfold Go.fatal
  repeat' first
    | infer_instance
    | refine Gd.bind ?_ fun _ => ?_
    | refine Gd.map _ ?_
    | refine Gd.mapM_arr (fun _ => ?_) _
    | refine Gd.mapM_list (fun _ => ?_) _
    | refine Gd.foldlM_list (fun _ _ => ?_) _ _
    | refine Gd.forIn_arr (fun _ _ => ?_) _ _
    | refine Gd.forIn_range (fun _ _ => ?_) _ _
    | intro _
    | split
    | dsimp only [Function.comp]

instance gd_throw {α : Type} : ∀ x0, Gd P (Go.throw x0 : Sem α) := by
  intros
  unfold Go.throw
  repeat' first
    | infer_instance
    | refine Gd.bind ?_ fun _ => ?_
    | refine Gd.map _ ?_
    | refine Gd.mapM_arr (fun _ => ?_) _
    | refine Gd.mapM_list (fun _ => ?_) _
    | refine Gd.foldlM_list (fun _ _ => ?_) _ _
    | refine Gd.forIn_arr (fun _ _ => ?_) _ _
    | refine Gd.forIn_range (fun _ _ => ?_) _ _
    | intro _
    | split
    | dsimp only [Function.comp]

instance gd_blocked {α : Type} : Gd P (Go.blocked  : Sem α) := by
  intros
  unfold Go.blocked
  repeat' first
    | infer_instance
    | refine Gd.bind ?_ fun _ => ?_
    | refine Gd.map _ ?_
    | refine Gd.mapM_arr (fun _ => ?_) _
    | refine Gd.mapM_list (fun _ => ?_) _
    | refine Gd.foldlM_list (fun _ _ => ?_) _ _
    | refine Gd.forIn_arr (fun _ _ => ?_) _ _
    | refine Gd.forIn_range (fun _ _ => ?_) _ _
    | intro _
    | split
    | dsimp only [Function.comp]

instance gd_blockedOutside {α : Type} : Gd P (Go.blockedOutside  : Sem α) := by
  intros
  unfold Go.blockedOutside
  repeat' first
    | infer_instance
    | refine Gd.bind ?_ fun _ => ?_
    | refine Gd.map _ ?_
    | refine Gd.mapM_arr (fun _ => ?_) _
    | refine Gd.mapM_list (fun _ => ?_) _
    | refine Gd.foldlM_list (fun _ _ => ?_) _ _
    | refine Gd.forIn_arr (fun _ _ => ?_) _ _
    | refine Gd.forIn_range (fun _ _ => ?_) _ _
    | intro _
    | split
    | dsimp only [Function.comp]

instance gd_viewAt : ∀ x0, Gd P (Go.viewAt x0) := by
  intros
  unfold Go.viewAt
  repeat' first
    | infer_instance
    | refine Gd.bind ?_ fun _ => ?_
    | refine Gd.map _ ?_
    | refine Gd.mapM_arr (fun _ => ?_) _
    | refine Gd.mapM_list (fun _ => ?_) _
    | refine Gd.foldlM_list (fun _ _ => ?_) _ _
    | refine Gd.forIn_arr (fun _ _ => ?_) _ _
    | refine Gd.forIn_range (fun _ _ => ?_) _ _
    | intro _
    | split
    | dsimp only [Function.comp]

instance gd_numberAt : ∀ x0, Gd P (Go.numberAt x0) := by
  intros
  unfold Go.numberAt
  repeat' first
    | infer_instance
    | refine Gd.bind ?_ fun _ => ?_
    | refine Gd.map _ ?_
    | refine Gd.mapM_arr (fun _ => ?_) _
    | refine Gd.mapM_list (fun _ => ?_) _
    | refine Gd.foldlM_list (fun _ _ => ?_) _ _
    | refine Gd.forIn_arr (fun _ _ => ?_) _ _
    | refine Gd.forIn_range (fun _ _ => ?_) _ _
    | intro _
    | split
    | dsimp only [Function.comp]

instance gd_cellsIn : ∀ x0, Gd P (Go.cellsIn x0) := by
  intros
  unfold Go.cellsIn
  repeat' first
    | infer_instance
    | refine Gd.bind ?_ fun _ => ?_
    | refine Gd.map _ ?_
    | refine Gd.mapM_arr (fun _ => ?_) _
    | refine Gd.mapM_list (fun _ => ?_) _
    | refine Gd.foldlM_list (fun _ _ => ?_) _ _
    | refine Gd.forIn_arr (fun _ _ => ?_) _ _
    | refine Gd.forIn_range (fun _ _ => ?_) _ _
    | intro _
    | split
    | dsimp only [Function.comp]

instance gd_asNumber : ∀ x0 x1, Gd P (Go.asNumber x0 x1) := by
  intros
  unfold Go.asNumber
  repeat' first
    | infer_instance
    | refine Gd.bind ?_ fun _ => ?_
    | refine Gd.map _ ?_
    | refine Gd.mapM_arr (fun _ => ?_) _
    | refine Gd.mapM_list (fun _ => ?_) _
    | refine Gd.foldlM_list (fun _ _ => ?_) _ _
    | refine Gd.forIn_arr (fun _ _ => ?_) _ _
    | refine Gd.forIn_range (fun _ _ => ?_) _ _
    | intro _
    | split
    | dsimp only [Function.comp]

instance gd_behindNumber : ∀ x0, Gd P (Go.behindNumber x0) := by
  intros
  unfold Go.behindNumber
  repeat' first
    | infer_instance
    | refine Gd.bind ?_ fun _ => ?_
    | refine Gd.map _ ?_
    | refine Gd.mapM_arr (fun _ => ?_) _
    | refine Gd.mapM_list (fun _ => ?_) _
    | refine Gd.foldlM_list (fun _ _ => ?_) _ _
    | refine Gd.forIn_arr (fun _ _ => ?_) _ _
    | refine Gd.forIn_range (fun _ _ => ?_) _ _
    | intro _
    | split
    | dsimp only [Function.comp]

instance gd_backFromNumber : ∀ x0, Gd P (Go.backFromNumber x0) := by
  intros
  unfold Go.backFromNumber
  repeat' first
    | infer_instance
    | refine Gd.bind ?_ fun _ => ?_
    | refine Gd.map _ ?_
    | refine Gd.mapM_arr (fun _ => ?_) _
    | refine Gd.mapM_list (fun _ => ?_) _
    | refine Gd.foldlM_list (fun _ _ => ?_) _ _
    | refine Gd.forIn_arr (fun _ _ => ?_) _ _
    | refine Gd.forIn_range (fun _ _ => ?_) _ _
    | intro _
    | split
    | dsimp only [Function.comp]

instance gd_noView : ∀ x0, Gd P (Go.noView x0) := by
  intros
  unfold Go.noView
  repeat' first
    | infer_instance
    | refine Gd.bind ?_ fun _ => ?_
    | refine Gd.map _ ?_
    | refine Gd.mapM_arr (fun _ => ?_) _
    | refine Gd.mapM_list (fun _ => ?_) _
    | refine Gd.foldlM_list (fun _ _ => ?_) _ _
    | refine Gd.forIn_arr (fun _ _ => ?_) _ _
    | refine Gd.forIn_range (fun _ _ => ?_) _ _
    | intro _
    | split
    | dsimp only [Function.comp]

instance gd_markStringish : ∀ x0, Gd P (Go.markStringish x0) := by
  intros
  unfold Go.markStringish
  repeat' first
    | infer_instance
    | refine Gd.bind ?_ fun _ => ?_
    | refine Gd.map _ ?_
    | refine Gd.mapM_arr (fun _ => ?_) _
    | refine Gd.mapM_list (fun _ => ?_) _
    | refine Gd.foldlM_list (fun _ _ => ?_) _ _
    | refine Gd.forIn_arr (fun _ _ => ?_) _ _
    | refine Gd.forIn_range (fun _ _ => ?_) _ _
    | intro _
    | split
    | dsimp only [Function.comp]

instance gd_stringish : ∀ x0, Gd P (Go.stringish x0) := by
  intros
  unfold Go.stringish
  repeat' first
    | infer_instance
    | refine Gd.bind ?_ fun _ => ?_
    | refine Gd.map _ ?_
    | refine Gd.mapM_arr (fun _ => ?_) _
    | refine Gd.mapM_list (fun _ => ?_) _
    | refine Gd.foldlM_list (fun _ _ => ?_) _ _
    | refine Gd.forIn_arr (fun _ _ => ?_) _ _
    | refine Gd.forIn_range (fun _ _ => ?_) _ _
    | intro _
    | split
    | dsimp only [Function.comp]

instance gd_mayBeOne : ∀ x0 x1, Gd P (Go.mayBeOne x0 x1) := by
  intros
  unfold Go.mayBeOne
  repeat' first
    | infer_instance
    | refine Gd.bind ?_ fun _ => ?_
    | refine Gd.map _ ?_
    | refine Gd.mapM_arr (fun _ => ?_) _
    | refine Gd.mapM_list (fun _ => ?_) _
    | refine Gd.foldlM_list (fun _ _ => ?_) _ _
    | refine Gd.forIn_arr (fun _ _ => ?_) _ _
    | refine Gd.forIn_range (fun _ _ => ?_) _ _
    | intro _
    | split
    | dsimp only [Function.comp]

instance gd_sameAddr : ∀ x0 x1, Gd P (Go.sameAddr x0 x1) := by
  intros
  unfold Go.sameAddr
  repeat' first
    | infer_instance
    | refine Gd.bind ?_ fun _ => ?_
    | refine Gd.map _ ?_
    | refine Gd.mapM_arr (fun _ => ?_) _
    | refine Gd.mapM_list (fun _ => ?_) _
    | refine Gd.foldlM_list (fun _ _ => ?_) _ _
    | refine Gd.forIn_arr (fun _ _ => ?_) _ _
    | refine Gd.forIn_range (fun _ _ => ?_) _ _
    | intro _
    | split
    | dsimp only [Function.comp]

instance gd_samePointer : ∀ x0 x1, Gd P (Go.samePointer x0 x1) := by
  intros
  unfold Go.samePointer
  repeat' first
    | infer_instance
    | refine Gd.bind ?_ fun _ => ?_
    | refine Gd.map _ ?_
    | refine Gd.mapM_arr (fun _ => ?_) _
    | refine Gd.mapM_list (fun _ => ?_) _
    | refine Gd.foldlM_list (fun _ _ => ?_) _ _
    | refine Gd.forIn_arr (fun _ _ => ?_) _ _
    | refine Gd.forIn_range (fun _ _ => ?_) _ _
    | intro _
    | split
    | dsimp only [Function.comp]

instance gd_typeInfo : ∀ x0, Gd P (Go.typeInfo x0) := by
  intros
  unfold Go.typeInfo
  repeat' first
    | infer_instance
    | refine Gd.bind ?_ fun _ => ?_
    | refine Gd.map _ ?_
    | refine Gd.mapM_arr (fun _ => ?_) _
    | refine Gd.mapM_list (fun _ => ?_) _
    | refine Gd.foldlM_list (fun _ _ => ?_) _ _
    | refine Gd.forIn_arr (fun _ _ => ?_) _ _
    | refine Gd.forIn_range (fun _ _ => ?_) _ _
    | intro _
    | split
    | dsimp only [Function.comp]

instance gd_underlying : ∀ x0, Gd P (Go.underlying x0) := by
  intros
  unfold Go.underlying
  repeat' first
    | infer_instance
    | refine Gd.bind ?_ fun _ => ?_
    | refine Gd.map _ ?_
    | refine Gd.mapM_arr (fun _ => ?_) _
    | refine Gd.mapM_list (fun _ => ?_) _
    | refine Gd.foldlM_list (fun _ _ => ?_) _ _
    | refine Gd.forIn_arr (fun _ _ => ?_) _ _
    | refine Gd.forIn_range (fun _ _ => ?_) _ _
    | intro _
    | split
    | dsimp only [Function.comp]

instance gd_cutType : ∀ x0, Gd P (Go.cutType x0) := by
  intros
  unfold Go.cutType
  repeat' first
    | infer_instance
    | refine Gd.bind ?_ fun _ => ?_
    | refine Gd.map _ ?_
    | refine Gd.mapM_arr (fun _ => ?_) _
    | refine Gd.mapM_list (fun _ => ?_) _
    | refine Gd.foldlM_list (fun _ _ => ?_) _ _
    | refine Gd.forIn_arr (fun _ _ => ?_) _ _
    | refine Gd.forIn_range (fun _ _ => ?_) _ _
    | intro _
    | split
    | dsimp only [Function.comp]

instance gd_globalAddr : ∀ x0, Gd P (Go.globalAddr x0) := by
  intros
  unfold Go.globalAddr
  repeat' first
    | infer_instance
    | refine Gd.bind ?_ fun _ => ?_
    | refine Gd.map _ ?_
    | refine Gd.mapM_arr (fun _ => ?_) _
    | refine Gd.mapM_list (fun _ => ?_) _
    | refine Gd.foldlM_list (fun _ _ => ?_) _ _
    | refine Gd.forIn_arr (fun _ _ => ?_) _ _
    | refine Gd.forIn_range (fun _ _ => ?_) _ _
    | intro _
    | split
    | dsimp only [Function.comp]

instance gd_typeStr : ∀ x0, Gd P (Go.typeStr x0) := by
  intros
  unfold Go.typeStr
  repeat' first
    | infer_instance
    | refine Gd.bind ?_ fun _ => ?_
    | refine Gd.map _ ?_
    | refine Gd.mapM_arr (fun _ => ?_) _
    | refine Gd.mapM_list (fun _ => ?_) _
    | refine Gd.foldlM_list (fun _ _ => ?_) _ _
    | refine Gd.forIn_arr (fun _ _ => ?_) _ _
    | refine Gd.forIn_range (fun _ _ => ?_) _ _
    | intro _
    | split
    | dsimp only [Function.comp]

instance gd_zeroValue : ∀ x0, Gd P (Go.zeroValue x0) := by
  intros
  unfold Go.zeroValue
  repeat' first
    | infer_instance
    | refine Gd.bind ?_ fun _ => ?_
    | refine Gd.map _ ?_
    | refine Gd.mapM_arr (fun _ => ?_) _
    | refine Gd.mapM_list (fun _ => ?_) _
    | refine Gd.foldlM_list (fun _ _ => ?_) _ _
    | refine Gd.forIn_arr (fun _ _ => ?_) _ _
    | refine Gd.forIn_range (fun _ _ => ?_) _ _
    | intro _
    | split
    | dsimp only [Function.comp]

instance gd_sizeOf : ∀ x0, Gd P (Go.sizeOf x0) := by
  intros
  unfold Go.sizeOf
  repeat' first
    | infer_instance
    | refine Gd.bind ?_ fun _ => ?_
    | refine Gd.map _ ?_
    | refine Gd.mapM_arr (fun _ => ?_) _
    | refine Gd.mapM_list (fun _ => ?_) _
    | refine Gd.foldlM_list (fun _ _ => ?_) _ _
    | refine Gd.forIn_arr (fun _ _ => ?_) _ _
    | refine Gd.forIn_range (fun _ _ => ?_) _ _
    | intro _
    | split
    | dsimp only [Function.comp]

instance gd_isAgg : ∀ x0, Gd P (Go.isAgg x0) := by
  intros
  unfold Go.isAgg
  repeat' first
    | infer_instance
    | refine Gd.bind ?_ fun _ => ?_
    | refine Gd.map _ ?_
    | refine Gd.mapM_arr (fun _ => ?_) _
    | refine Gd.mapM_list (fun _ => ?_) _
    | refine Gd.foldlM_list (fun _ _ => ?_) _ _
    | refine Gd.forIn_arr (fun _ _ => ?_) _ _
    | refine Gd.forIn_range (fun _ _ => ?_) _ _
    | intro _
    | split
    | dsimp only [Function.comp]

instance gd_loadCellsFrom : ∀ x0 x1 x2 x3, Gd P (Go.loadCellsFrom x0 x1 x2 x3) := by
  intro x0 x1 x2 x3
  induction x2 generalizing x0 x1 x3 with
  | zero =>
    unfold Go.loadCellsFrom
    repeat' first
      | infer_instance
      | refine Gd.bind ?_ fun _ => ?_
      | refine Gd.map _ ?_
      | refine Gd.mapM_arr (fun _ => ?_) _
      | refine Gd.mapM_list (fun _ => ?_) _
      | refine Gd.foldlM_list (fun _ _ => ?_) _ _
      | refine Gd.forIn_arr (fun _ _ => ?_) _ _
      | refine Gd.forIn_range (fun _ _ => ?_) _ _
      | intro _
      | split
      | dsimp only [Function.comp]
  | succ n ih =>
    unfold Go.loadCellsFrom
    repeat' first
      | exact ih _ _ _ | infer_instance
      | refine Gd.bind ?_ fun _ => ?_
      | refine Gd.map _ ?_
      | refine Gd.mapM_arr (fun _ => ?_) _
      | refine Gd.mapM_list (fun _ => ?_) _
      | refine Gd.foldlM_list (fun _ _ => ?_) _ _
      | refine Gd.forIn_arr (fun _ _ => ?_) _ _
      | refine Gd.forIn_range (fun _ _ => ?_) _ _
      | intro _
      | split
      | dsimp only [Function.comp]

instance gd_loadCells : ∀ x0 x1, Gd P (Go.loadCells x0 x1) := by
  intros
  unfold Go.loadCells
  repeat' first
    | infer_instance
    | refine Gd.bind ?_ fun _ => ?_
    | refine Gd.map _ ?_
    | refine Gd.mapM_arr (fun _ => ?_) _
    | refine Gd.mapM_list (fun _ => ?_) _
    | refine Gd.foldlM_list (fun _ _ => ?_) _ _
    | refine Gd.forIn_arr (fun _ _ => ?_) _ _
    | refine Gd.forIn_range (fun _ _ => ?_) _ _
    | intro _
    | split
    | dsimp only [Function.comp]

instance gd_storeCells : ∀ x0 x1 x2, Gd P (Go.storeCells x0 x1 x2) := by
  intro x0 x1 x2
  induction x1 generalizing x0 x2 with
  | nil =>
    unfold Go.storeCells
    repeat' first
      | infer_instance
      | refine Gd.bind ?_ fun _ => ?_
      | refine Gd.map _ ?_
      | refine Gd.mapM_arr (fun _ => ?_) _
      | refine Gd.mapM_list (fun _ => ?_) _
      | refine Gd.foldlM_list (fun _ _ => ?_) _ _
      | refine Gd.forIn_arr (fun _ _ => ?_) _ _
      | refine Gd.forIn_range (fun _ _ => ?_) _ _
      | intro _
      | split
      | dsimp only [Function.comp]
  | cons a l ih =>
    unfold Go.storeCells
    repeat' first
      | exact ih _ _ | infer_instance
      | refine Gd.bind ?_ fun _ => ?_
      | refine Gd.map _ ?_
      | refine Gd.mapM_arr (fun _ => ?_) _
      | refine Gd.mapM_list (fun _ => ?_) _
      | refine Gd.foldlM_list (fun _ _ => ?_) _ _
      | refine Gd.forIn_arr (fun _ _ => ?_) _ _
      | refine Gd.forIn_range (fun _ _ => ?_) _ _
      | intro _
      | split
      | dsimp only [Function.comp]

instance gd_loadVar : ∀ x0 x1, Gd P (Go.loadVar x0 x1) := by
  intros
  unfold Go.loadVar
  repeat' first
    | infer_instance
    | refine Gd.bind ?_ fun _ => ?_
    | refine Gd.map _ ?_
    | refine Gd.mapM_arr (fun _ => ?_) _
    | refine Gd.mapM_list (fun _ => ?_) _
    | refine Gd.foldlM_list (fun _ _ => ?_) _ _
    | refine Gd.forIn_arr (fun _ _ => ?_) _ _
    | refine Gd.forIn_range (fun _ _ => ?_) _ _
    | intro _
    | split
    | dsimp only [Function.comp]

instance gd_storeVar : ∀ x0 x1 x2, Gd P (Go.storeVar x0 x1 x2) := by
  intros
  unfold Go.storeVar
  repeat' first
    | infer_instance
    | refine Gd.bind ?_ fun _ => ?_
    | refine Gd.map _ ?_
    | refine Gd.mapM_arr (fun _ => ?_) _
    | refine Gd.mapM_list (fun _ => ?_) _
    | refine Gd.foldlM_list (fun _ _ => ?_) _ _
    | refine Gd.forIn_arr (fun _ _ => ?_) _ _
    | refine Gd.forIn_range (fun _ _ => ?_) _ _
    | intro _
    | split
    | dsimp only [Function.comp]

instance gd_newRow : ∀ x0 x1, Gd P (Go.newRow x0 x1) := by
  intros
  unfold Go.newRow
  repeat' first
    | infer_instance
    | refine Gd.bind ?_ fun _ => ?_
    | refine Gd.map _ ?_
    | refine Gd.mapM_arr (fun _ => ?_) _
    | refine Gd.mapM_list (fun _ => ?_) _
    | refine Gd.foldlM_list (fun _ _ => ?_) _ _
    | refine Gd.forIn_arr (fun _ _ => ?_) _ _
    | refine Gd.forIn_range (fun _ _ => ?_) _ _
    | intro _
    | split
    | dsimp only [Function.comp]

instance gd_newVar : ∀ x0 x1, Gd P (Go.newVar x0 x1) := by
  intros
  unfold Go.newVar
  repeat' first
    | infer_instance
    | refine Gd.bind ?_ fun _ => ?_
    | refine Gd.map _ ?_
    | refine Gd.mapM_arr (fun _ => ?_) _
    | refine Gd.mapM_list (fun _ => ?_) _
    | refine Gd.foldlM_list (fun _ _ => ?_) _ _
    | refine Gd.forIn_arr (fun _ _ => ?_) _ _
    | refine Gd.forIn_range (fun _ _ => ?_) _ _
    | intro _
    | split
    | dsimp only [Function.comp]

instance gd_elemOf : ∀ x0, Gd P (Go.elemOf x0) := by
  intros
  unfold Go.elemOf
  repeat' first
    | infer_instance
    | refine Gd.bind ?_ fun _ => ?_
    | refine Gd.map _ ?_
    | refine Gd.mapM_arr (fun _ => ?_) _
    | refine Gd.mapM_list (fun _ => ?_) _
    | refine Gd.foldlM_list (fun _ _ => ?_) _ _
    | refine Gd.forIn_arr (fun _ _ => ?_) _ _
    | refine Gd.forIn_range (fun _ _ => ?_) _ _
    | intro _
    | split
    | dsimp only [Function.comp]

instance gd_part : ∀ x0 x1 x2, Gd P (Go.part x0 x1 x2) := by
  intros
  unfold Go.part
  repeat' first
    | infer_instance
    | refine Gd.bind ?_ fun _ => ?_
    | refine Gd.map _ ?_
    | refine Gd.mapM_arr (fun _ => ?_) _
    | refine Gd.mapM_list (fun _ => ?_) _
    | refine Gd.foldlM_list (fun _ _ => ?_) _ _
    | refine Gd.forIn_arr (fun _ _ => ?_) _ _
    | refine Gd.forIn_range (fun _ _ => ?_) _ _
    | intro _
    | split
    | dsimp only [Function.comp]

instance gd_panicString {α : Type} : ∀ x0, Gd P (Go.panicString x0 : Sem α) := by
  intros
  unfold Go.panicString
  repeat' first
    | infer_instance
    | refine Gd.bind ?_ fun _ => ?_
    | refine Gd.map _ ?_
    | refine Gd.mapM_arr (fun _ => ?_) _
    | refine Gd.mapM_list (fun _ => ?_) _
    | refine Gd.foldlM_list (fun _ _ => ?_) _ _
    | refine Gd.forIn_arr (fun _ _ => ?_) _ _
    | refine Gd.forIn_range (fun _ _ => ?_) _ _
    | intro _
    | split
    | dsimp only [Function.comp]

instance gd_externState : ∀ x0, Gd P (Go.externState x0) := by
  intros
  unfold Go.externState
  repeat' first
    | infer_instance
    | refine Gd.bind ?_ fun _ => ?_
    | refine Gd.map _ ?_
    | refine Gd.mapM_arr (fun _ => ?_) _
    | refine Gd.mapM_list (fun _ => ?_) _
    | refine Gd.foldlM_list (fun _ _ => ?_) _ _
    | refine Gd.forIn_arr (fun _ _ => ?_) _ _
    | refine Gd.forIn_range (fun _ _ => ?_) _ _
    | intro _
    | split
    | dsimp only [Function.comp]

instance gd_runtimePanic {α : Type} : ∀ x0, Gd P (Go.runtimePanic x0 : Sem α) := by
  intros
  unfold Go.runtimePanic
  repeat' first
    | infer_instance
    | refine Gd.bind ?_ fun _ => ?_
    | refine Gd.map _ ?_
    | refine Gd.mapM_arr (fun _ => ?_) _
    | refine Gd.mapM_list (fun _ => ?_) _
    | refine Gd.foldlM_list (fun _ _ => ?_) _ _
    | refine Gd.forIn_arr (fun _ _ => ?_) _ _
    | refine Gd.forIn_range (fun _ _ => ?_) _ _
    | intro _
    | split
    | dsimp only [Function.comp]

instance gd_boundsPanic {α : Type} : ∀ x0 x1 x2 x3, Gd P (Go.boundsPanic x0 x1 x2 x3 : Sem α) := by
  intros
  unfold Go.boundsPanic
  repeat' first
    | infer_instance
    | refine Gd.bind ?_ fun _ => ?_
    | refine Gd.map _ ?_
    | refine Gd.mapM_arr (fun _ => ?_) _
    | refine Gd.mapM_list (fun _ => ?_) _
    | refine Gd.foldlM_list (fun _ _ => ?_) _ _
    | refine Gd.forIn_arr (fun _ _ => ?_) _ _
    | refine Gd.forIn_range (fun _ _ => ?_) _ _
    | intro _
    | split
    | dsimp only [Function.comp]

instance gd_asIntOf : ∀ x0, Gd P (Go.asIntOf x0) := by
  intros
  unfold Go.asIntOf
  repeat' first
    | infer_instance
    | refine Gd.bind ?_ fun _ => ?_
    | refine Gd.map _ ?_
    | refine Gd.mapM_arr (fun _ => ?_) _
    | refine Gd.mapM_list (fun _ => ?_) _
    | refine Gd.foldlM_list (fun _ _ => ?_) _ _
    | refine Gd.forIn_arr (fun _ _ => ?_) _ _
    | refine Gd.forIn_range (fun _ _ => ?_) _ _
    | intro _
    | split
    | dsimp only [Function.comp]

instance gd_asInt : ∀ x0, Gd P (Go.asInt x0) := by
  intros
  unfold Go.asInt
  repeat' first
    | infer_instance
    | refine Gd.bind ?_ fun _ => ?_
    | refine Gd.map _ ?_
    | refine Gd.mapM_arr (fun _ => ?_) _
    | refine Gd.mapM_list (fun _ => ?_) _
    | refine Gd.foldlM_list (fun _ _ => ?_) _ _
    | refine Gd.forIn_arr (fun _ _ => ?_) _ _
    | refine Gd.forIn_range (fun _ _ => ?_) _ _
    | intro _
    | split
    | dsimp only [Function.comp]

instance gd_asBool : ∀ x0, Gd P (Go.asBool x0) := by
  intros
  unfold Go.asBool
  repeat' first
    | infer_instance
    | refine Gd.bind ?_ fun _ => ?_
    | refine Gd.map _ ?_
    | refine Gd.mapM_arr (fun _ => ?_) _
    | refine Gd.mapM_list (fun _ => ?_) _
    | refine Gd.foldlM_list (fun _ _ => ?_) _ _
    | refine Gd.forIn_arr (fun _ _ => ?_) _ _
    | refine Gd.forIn_range (fun _ _ => ?_) _ _
    | intro _
    | split
    | dsimp only [Function.comp]

instance gd_asString : ∀ x0, Gd P (Go.asString x0) := by
  intros
  unfold Go.asString
  repeat' first
    | infer_instance
    | refine Gd.bind ?_ fun _ => ?_
    | refine Gd.map _ ?_
    | refine Gd.mapM_arr (fun _ => ?_) _
    | refine Gd.mapM_list (fun _ => ?_) _
    | refine Gd.foldlM_list (fun _ _ => ?_) _ _
    | refine Gd.forIn_arr (fun _ _ => ?_) _ _
    | refine Gd.forIn_range (fun _ _ => ?_) _ _
    | intro _
    | split
    | dsimp only [Function.comp]

instance gd_asAgg : ∀ x0, Gd P (Go.asAgg x0) := by
  intros
  unfold Go.asAgg
  repeat' first
    | infer_instance
    | refine Gd.bind ?_ fun _ => ?_
    | refine Gd.map _ ?_
    | refine Gd.mapM_arr (fun _ => ?_) _
    | refine Gd.mapM_list (fun _ => ?_) _
    | refine Gd.foldlM_list (fun _ _ => ?_) _ _
    | refine Gd.forIn_arr (fun _ _ => ?_) _ _
    | refine Gd.forIn_range (fun _ _ => ?_) _ _
    | intro _
    | split
    | dsimp only [Function.comp]

instance gd_asAddr : ∀ x0, Gd P (Go.asAddr x0) := by
  intros
  unfold Go.asAddr
  repeat' first
    | infer_instance
    | refine Gd.bind ?_ fun _ => ?_
    | refine Gd.map _ ?_
    | refine Gd.mapM_arr (fun _ => ?_) _
    | refine Gd.mapM_list (fun _ => ?_) _
    | refine Gd.foldlM_list (fun _ _ => ?_) _ _
    | refine Gd.forIn_arr (fun _ _ => ?_) _ _
    | refine Gd.forIn_range (fun _ _ => ?_) _ _
    | intro _
    | split
    | dsimp only [Function.comp]

instance gd_Deferred_ofValue : ∀ x0 x1, Gd P (Go.Deferred.ofValue x0 x1) := by
  intros
  unfold Go.Deferred.ofValue
  repeat' first
    | infer_instance
    | refine Gd.bind ?_ fun _ => ?_
    | refine Gd.map _ ?_
    | refine Gd.mapM_arr (fun _ => ?_) _
    | refine Gd.mapM_list (fun _ => ?_) _
    | refine Gd.foldlM_list (fun _ _ => ?_) _ _
    | refine Gd.forIn_arr (fun _ _ => ?_) _ _
    | refine Gd.forIn_range (fun _ _ => ?_) _ _
    | intro _
    | split
    | dsimp only [Function.comp]

instance gd_Instr_alloc : ∀ x0 x1 x2, Gd P (Go.Instr.alloc x0 x1 x2) := by
  intros
  unfold Go.Instr.alloc
  repeat' first
    | infer_instance
    | refine Gd.bind ?_ fun _ => ?_
    | refine Gd.map _ ?_
    | refine Gd.mapM_arr (fun _ => ?_) _
    | refine Gd.mapM_list (fun _ => ?_) _
    | refine Gd.foldlM_list (fun _ _ => ?_) _ _
    | refine Gd.forIn_arr (fun _ _ => ?_) _ _
    | refine Gd.forIn_range (fun _ _ => ?_) _ _
    | intro _
    | split
    | dsimp only [Function.comp]

instance gd_Instr_sliceBound : ∀ x0 x1 x2, Gd P (Go.Instr.sliceBound x0 x1 x2) := by
  intros
  unfold Go.Instr.sliceBound
  repeat' first
    | infer_instance
    | refine Gd.bind ?_ fun _ => ?_
    | refine Gd.map _ ?_
    | refine Gd.mapM_arr (fun _ => ?_) _
    | refine Gd.mapM_list (fun _ => ?_) _
    | refine Gd.foldlM_list (fun _ _ => ?_) _ _
    | refine Gd.forIn_arr (fun _ _ => ?_) _ _
    | refine Gd.forIn_range (fun _ _ => ?_) _ _
    | intro _
    | split
    | dsimp only [Function.comp]

instance gd_Instr_sliceBounds : ∀ x0 x1 x2 x3 x4 x5, Gd P (Go.Instr.sliceBounds x0 x1 x2 x3 x4 x5) := by
  intros
  unfold Go.Instr.sliceBounds
  repeat' first
    | infer_instance
    | refine Gd.bind ?_ fun _ => ?_
    | refine Gd.map _ ?_
    | refine Gd.mapM_arr (fun _ => ?_) _
    | refine Gd.mapM_list (fun _ => ?_) _
    | refine Gd.foldlM_list (fun _ _ => ?_) _ _
    | refine Gd.forIn_arr (fun _ _ => ?_) _ _
    | refine Gd.forIn_range (fun _ _ => ?_) _ _
    | intro _
    | split
    | dsimp only [Function.comp]

instance gd_Instr_slice : ∀ x0 x1 x2 x3 x4, Gd P (Go.Instr.slice x0 x1 x2 x3 x4) := by
  intros
  unfold Go.Instr.slice
  repeat' first
    | infer_instance
    | refine Gd.bind ?_ fun _ => ?_
    | refine Gd.map _ ?_
    | refine Gd.mapM_arr (fun _ => ?_) _
    | refine Gd.mapM_list (fun _ => ?_) _
    | refine Gd.foldlM_list (fun _ _ => ?_) _ _
    | refine Gd.forIn_arr (fun _ _ => ?_) _ _
    | refine Gd.forIn_range (fun _ _ => ?_) _ _
    | intro _
    | split
    | dsimp only [Function.comp]

instance gd_byteOf : ∀ x0, Gd P (Go.byteOf x0) := by
  intros
  unfold Go.byteOf
  repeat' first
    | infer_instance
    | refine Gd.bind ?_ fun _ => ?_
    | refine Gd.map _ ?_
    | refine Gd.mapM_arr (fun _ => ?_) _
    | refine Gd.mapM_list (fun _ => ?_) _
    | refine Gd.foldlM_list (fun _ _ => ?_) _ _
    | refine Gd.forIn_arr (fun _ _ => ?_) _ _
    | refine Gd.forIn_range (fun _ _ => ?_) _ _
    | intro _
    | split
    | dsimp only [Function.comp]

instance gd_partAt : ∀ x0 x1 x2, Gd P (Go.partAt x0 x1 x2) := by
  intros
  unfold Go.partAt
  repeat' first
    | infer_instance
    | refine Gd.bind ?_ fun _ => ?_
    | refine Gd.map _ ?_
    | refine Gd.mapM_arr (fun _ => ?_) _
    | refine Gd.mapM_list (fun _ => ?_) _
    | refine Gd.foldlM_list (fun _ _ => ?_) _ _
    | refine Gd.forIn_arr (fun _ _ => ?_) _ _
    | refine Gd.forIn_range (fun _ _ => ?_) _ _
    | intro _
    | split
    | dsimp only [Function.comp]

instance gd_fieldPlace : ∀ x0 x1, Gd P (Go.fieldPlace x0 x1) := by
  intros
  unfold Go.fieldPlace
  repeat' first
    | infer_instance
    | refine Gd.bind ?_ fun _ => ?_
    | refine Gd.map _ ?_
    | refine Gd.mapM_arr (fun _ => ?_) _
    | refine Gd.mapM_list (fun _ => ?_) _
    | refine Gd.foldlM_list (fun _ _ => ?_) _ _
    | refine Gd.forIn_arr (fun _ _ => ?_) _ _
    | refine Gd.forIn_range (fun _ _ => ?_) _ _
    | intro _
    | split
    | dsimp only [Function.comp]

instance gd_variablesAt : ∀ x0 x1 x2, Gd P (Go.variablesAt x0 x1 x2) := by
  intros
  unfold Go.variablesAt
  repeat' first
    | infer_instance
    | refine Gd.bind ?_ fun _ => ?_
    | refine Gd.map _ ?_
    | refine Gd.mapM_arr (fun _ => ?_) _
    | refine Gd.mapM_list (fun _ => ?_) _
    | refine Gd.foldlM_list (fun _ _ => ?_) _ _
    | refine Gd.forIn_arr (fun _ _ => ?_) _ _
    | refine Gd.forIn_range (fun _ _ => ?_) _ _
    | intro _
    | split
    | dsimp only [Function.comp]

instance gd_intVariablesAt : ∀ x0 x1 x2, Gd P (Go.intVariablesAt x0 x1 x2) := by
  intros
  unfold Go.intVariablesAt
  repeat' first
    | infer_instance
    | refine Gd.bind ?_ fun _ => ?_
    | refine Gd.map _ ?_
    | refine Gd.mapM_arr (fun _ => ?_) _
    | refine Gd.mapM_list (fun _ => ?_) _
    | refine Gd.foldlM_list (fun _ _ => ?_) _ _
    | refine Gd.forIn_arr (fun _ _ => ?_) _ _
    | refine Gd.forIn_range (fun _ _ => ?_) _ _
    | intro _
    | split
    | dsimp only [Function.comp]

instance gd_byteVariablesAt : ∀ x0 x1, Gd P (Go.byteVariablesAt x0 x1) := by
  intros
  unfold Go.byteVariablesAt
  repeat' first
    | infer_instance
    | refine Gd.bind ?_ fun _ => ?_
    | refine Gd.map _ ?_
    | refine Gd.mapM_arr (fun _ => ?_) _
    | refine Gd.mapM_list (fun _ => ?_) _
    | refine Gd.foldlM_list (fun _ _ => ?_) _ _
    | refine Gd.forIn_arr (fun _ _ => ?_) _ _
    | refine Gd.forIn_range (fun _ _ => ?_) _ _
    | intro _
    | split
    | dsimp only [Function.comp]

instance gd_loadBytes : ∀ x0 x1 x2, Gd P (Go.loadBytes x0 x1 x2) := by
  intro x0 x1 x2
  induction x2 generalizing x0 x1 with
  | zero =>
    unfold Go.loadBytes
    repeat' first
      | infer_instance
      | refine Gd.bind ?_ fun _ => ?_
      | refine Gd.map _ ?_
      | refine Gd.mapM_arr (fun _ => ?_) _
      | refine Gd.mapM_list (fun _ => ?_) _
      | refine Gd.foldlM_list (fun _ _ => ?_) _ _
      | refine Gd.forIn_arr (fun _ _ => ?_) _ _
      | refine Gd.forIn_range (fun _ _ => ?_) _ _
      | intro _
      | split
      | dsimp only [Function.comp]
  | succ n ih =>
    unfold Go.loadBytes
    repeat' first
      | exact ih _ _ | infer_instance
      | refine Gd.bind ?_ fun _ => ?_
      | refine Gd.map _ ?_
      | refine Gd.mapM_arr (fun _ => ?_) _
      | refine Gd.mapM_list (fun _ => ?_) _
      | refine Gd.foldlM_list (fun _ _ => ?_) _ _
      | refine Gd.forIn_arr (fun _ _ => ?_) _ _
      | refine Gd.forIn_range (fun _ _ => ?_) _ _
      | intro _
      | split
      | dsimp only [Function.comp]

instance gd_storeBytes : ∀ x0 x1, Gd P (Go.storeBytes x0 x1) := by
  intros
  unfold Go.storeBytes
  repeat' first
    | infer_instance
    | refine Gd.bind ?_ fun _ => ?_
    | refine Gd.map _ ?_
    | refine Gd.mapM_arr (fun _ => ?_) _
    | refine Gd.mapM_list (fun _ => ?_) _
    | refine Gd.foldlM_list (fun _ _ => ?_) _ _
    | refine Gd.forIn_arr (fun _ _ => ?_) _ _
    | refine Gd.forIn_range (fun _ _ => ?_) _ _
    | intro _
    | split
    | dsimp only [Function.comp]

instance gd_Instr_sureAddr : ∀ x0, Gd P (Go.Instr.sureAddr x0) := by
  intros
  unfold Go.Instr.sureAddr
  repeat' first
    | infer_instance
    | refine Gd.bind ?_ fun _ => ?_
    | refine Gd.map _ ?_
    | refine Gd.mapM_arr (fun _ => ?_) _
    | refine Gd.mapM_list (fun _ => ?_) _
    | refine Gd.foldlM_list (fun _ _ => ?_) _ _
    | refine Gd.forIn_arr (fun _ _ => ?_) _ _
    | refine Gd.forIn_range (fun _ _ => ?_) _ _
    | intro _
    | split
    | dsimp only [Function.comp]

instance gd_Instr_loadAt : ∀ x0 x1, Gd P (Go.Instr.loadAt x0 x1) := by
  intros
  unfold Go.Instr.loadAt
  repeat' first
    | infer_instance
    | refine Gd.bind ?_ fun _ => ?_
    | refine Gd.map _ ?_
    | refine Gd.mapM_arr (fun _ => ?_) _
    | refine Gd.mapM_list (fun _ => ?_) _
    | refine Gd.foldlM_list (fun _ _ => ?_) _ _
    | refine Gd.forIn_arr (fun _ _ => ?_) _ _
    | refine Gd.forIn_range (fun _ _ => ?_) _ _
    | intro _
    | split
    | dsimp only [Function.comp]

instance gd_Instr_storeAt : ∀ x0 x1 x2, Gd P (Go.Instr.storeAt x0 x1 x2) := by
  intros
  unfold Go.Instr.storeAt
  repeat' first
    | infer_instance
    | refine Gd.bind ?_ fun _ => ?_
    | refine Gd.map _ ?_
    | refine Gd.mapM_arr (fun _ => ?_) _
    | refine Gd.mapM_list (fun _ => ?_) _
    | refine Gd.foldlM_list (fun _ _ => ?_) _ _
    | refine Gd.forIn_arr (fun _ _ => ?_) _ _
    | refine Gd.forIn_range (fun _ _ => ?_) _ _
    | intro _
    | split
    | dsimp only [Function.comp]

instance gd_Instr_fieldAt : ∀ x0 x1 x2, Gd P (Go.Instr.fieldAt x0 x1 x2) := by
  intros
  unfold Go.Instr.fieldAt
  repeat' first
    | infer_instance
    | refine Gd.bind ?_ fun _ => ?_
    | refine Gd.map _ ?_
    | refine Gd.mapM_arr (fun _ => ?_) _
    | refine Gd.mapM_list (fun _ => ?_) _
    | refine Gd.foldlM_list (fun _ _ => ?_) _ _
    | refine Gd.forIn_arr (fun _ _ => ?_) _ _
    | refine Gd.forIn_range (fun _ _ => ?_) _ _
    | intro _
    | split
    | dsimp only [Function.comp]

instance gd_Instr_indexAt : ∀ x0 x1 x2, Gd P (Go.Instr.indexAt x0 x1 x2) := by
  intros
  unfold Go.Instr.indexAt
  repeat' first
    | infer_instance
    | refine Gd.bind ?_ fun _ => ?_
    | refine Gd.map _ ?_
    | refine Gd.mapM_arr (fun _ => ?_) _
    | refine Gd.mapM_list (fun _ => ?_) _
    | refine Gd.foldlM_list (fun _ _ => ?_) _ _
    | refine Gd.forIn_arr (fun _ _ => ?_) _ _
    | refine Gd.forIn_range (fun _ _ => ?_) _ _
    | intro _
    | split
    | dsimp only [Function.comp]

instance gd_Instr_sliceAt : ∀ x0 x1 x2 x3 x4, Gd P (Go.Instr.sliceAt x0 x1 x2 x3 x4) := by
  intros
  unfold Go.Instr.sliceAt
  repeat' first
    | infer_instance
    | refine Gd.bind ?_ fun _ => ?_
    | refine Gd.map _ ?_
    | refine Gd.mapM_arr (fun _ => ?_) _
    | refine Gd.mapM_list (fun _ => ?_) _
    | refine Gd.foldlM_list (fun _ _ => ?_) _ _
    | refine Gd.forIn_arr (fun _ _ => ?_) _ _
    | refine Gd.forIn_range (fun _ _ => ?_) _ _
    | intro _
    | split
    | dsimp only [Function.comp]

instance gd_Instr_arrayAt : ∀ x0 x1, Gd P (Go.Instr.arrayAt x0 x1) := by
  intros
  unfold Go.Instr.arrayAt
  repeat' first
    | infer_instance
    | refine Gd.bind ?_ fun _ => ?_
    | refine Gd.map _ ?_
    | refine Gd.mapM_arr (fun _ => ?_) _
    | refine Gd.mapM_list (fun _ => ?_) _
    | refine Gd.foldlM_list (fun _ _ => ?_) _ _
    | refine Gd.forIn_arr (fun _ _ => ?_) _ _
    | refine Gd.forIn_range (fun _ _ => ?_) _ _
    | intro _
    | split
    | dsimp only [Function.comp]

instance gd_Instr_box : ∀ x0 x1, Gd P (Go.Instr.box x0 x1) := by
  intros
  unfold Go.Instr.box
  repeat' first
    | infer_instance
    | refine Gd.bind ?_ fun _ => ?_
    | refine Gd.map _ ?_
    | refine Gd.mapM_arr (fun _ => ?_) _
    | refine Gd.mapM_list (fun _ => ?_) _
    | refine Gd.foldlM_list (fun _ _ => ?_) _ _
    | refine Gd.forIn_arr (fun _ _ => ?_) _ _
    | refine Gd.forIn_range (fun _ _ => ?_) _ _
    | intro _
    | split
    | dsimp only [Function.comp]

instance gd_Instr_build : ∀ x0 x1, Gd P (Go.Instr.build x0 x1) := by
  intros
  unfold Go.Instr.build
  repeat' first
    | infer_instance
    | refine Gd.bind ?_ fun _ => ?_
    | refine Gd.map _ ?_
    | refine Gd.mapM_arr (fun _ => ?_) _
    | refine Gd.mapM_list (fun _ => ?_) _
    | refine Gd.foldlM_list (fun _ _ => ?_) _ _
    | refine Gd.forIn_arr (fun _ _ => ?_) _ _
    | refine Gd.forIn_range (fun _ _ => ?_) _ _
    | intro _
    | split
    | dsimp only [Function.comp]

instance gd_Instr_buildSlice : ∀ x0 x1 x2, Gd P (Go.Instr.buildSlice x0 x1 x2) := by
  intros
  unfold Go.Instr.buildSlice
  repeat' first
    | infer_instance
    | refine Gd.bind ?_ fun _ => ?_
    | refine Gd.map _ ?_
    | refine Gd.mapM_arr (fun _ => ?_) _
    | refine Gd.mapM_list (fun _ => ?_) _
    | refine Gd.foldlM_list (fun _ _ => ?_) _ _
    | refine Gd.forIn_arr (fun _ _ => ?_) _ _
    | refine Gd.forIn_range (fun _ _ => ?_) _ _
    | intro _
    | split
    | dsimp only [Function.comp]

instance gd_Instr_waits : ∀ x0, Gd P (Go.Instr.waits x0) := by
  intros
  unfold Go.Instr.waits
  repeat' first
    | infer_instance
    | refine Gd.bind ?_ fun _ => ?_
    | refine Gd.map _ ?_
    | refine Gd.mapM_arr (fun _ => ?_) _
    | refine Gd.mapM_list (fun _ => ?_) _
    | refine Gd.foldlM_list (fun _ _ => ?_) _ _
    | refine Gd.forIn_arr (fun _ _ => ?_) _ _
    | refine Gd.forIn_range (fun _ _ => ?_) _ _
    | intro _
    | split
    | dsimp only [Function.comp]

instance gd_Instr_ready : ∀ x0, Gd P (Go.Instr.ready x0) := by
  intros
  unfold Go.Instr.ready
  repeat' first
    | infer_instance
    | refine Gd.bind ?_ fun _ => ?_
    | refine Gd.map _ ?_
    | refine Gd.mapM_arr (fun _ => ?_) _
    | refine Gd.mapM_list (fun _ => ?_) _
    | refine Gd.foldlM_list (fun _ _ => ?_) _ _
    | refine Gd.forIn_arr (fun _ _ => ?_) _ _
    | refine Gd.forIn_range (fun _ _ => ?_) _ _
    | intro _
    | split
    | dsimp only [Function.comp]

instance gd_Instr_makeInterface : ∀ x0 x1, Gd P (Go.Instr.makeInterface x0 x1) := by
  intros
  unfold Go.Instr.makeInterface
  repeat' first
    | infer_instance
    | refine Gd.bind ?_ fun _ => ?_
    | refine Gd.map _ ?_
    | refine Gd.mapM_arr (fun _ => ?_) _
    | refine Gd.mapM_list (fun _ => ?_) _
    | refine Gd.foldlM_list (fun _ _ => ?_) _ _
    | refine Gd.forIn_arr (fun _ _ => ?_) _ _
    | refine Gd.forIn_range (fun _ _ => ?_) _ _
    | intro _
    | split
    | dsimp only [Function.comp]

instance gd_Instr_makeFunc : ∀ x0 x1 x2, Gd P (Go.Instr.makeFunc x0 x1 x2) := by
  intros
  unfold Go.Instr.makeFunc
  repeat' first
    | infer_instance
    | refine Gd.bind ?_ fun _ => ?_
    | refine Gd.map _ ?_
    | refine Gd.mapM_arr (fun _ => ?_) _
    | refine Gd.mapM_list (fun _ => ?_) _
    | refine Gd.foldlM_list (fun _ _ => ?_) _ _
    | refine Gd.forIn_arr (fun _ _ => ?_) _ _
    | refine Gd.forIn_range (fun _ _ => ?_) _ _
    | intro _
    | split
    | dsimp only [Function.comp]

instance gd_Instr_makeMap : ∀ x0 x1, Gd P (Go.Instr.makeMap x0 x1) := by
  intros
  unfold Go.Instr.makeMap
  repeat' first
    | infer_instance
    | refine Gd.bind ?_ fun _ => ?_
    | refine Gd.map _ ?_
    | refine Gd.mapM_arr (fun _ => ?_) _
    | refine Gd.mapM_list (fun _ => ?_) _
    | refine Gd.foldlM_list (fun _ _ => ?_) _ _
    | refine Gd.forIn_arr (fun _ _ => ?_) _ _
    | refine Gd.forIn_range (fun _ _ => ?_) _ _
    | intro _
    | split
    | dsimp only [Function.comp]

instance gd_Instr_makeChan : ∀ x0 x1, Gd P (Go.Instr.makeChan x0 x1) := by
  intros
  unfold Go.Instr.makeChan
  repeat' first
    | infer_instance
    | refine Gd.bind ?_ fun _ => ?_
    | refine Gd.map _ ?_
    | refine Gd.mapM_arr (fun _ => ?_) _
    | refine Gd.mapM_list (fun _ => ?_) _
    | refine Gd.foldlM_list (fun _ _ => ?_) _ _
    | refine Gd.forIn_arr (fun _ _ => ?_) _ _
    | refine Gd.forIn_range (fun _ _ => ?_) _ _
    | intro _
    | split
    | dsimp only [Function.comp]

instance gd_Instr_makeSlice : ∀ x0 x1 x2, Gd P (Go.Instr.makeSlice x0 x1 x2) := by
  intros
  unfold Go.Instr.makeSlice
  repeat' first
    | infer_instance
    | refine Gd.bind ?_ fun _ => ?_
    | refine Gd.map _ ?_
    | refine Gd.mapM_arr (fun _ => ?_) _
    | refine Gd.mapM_list (fun _ => ?_) _
    | refine Gd.foldlM_list (fun _ _ => ?_) _ _
    | refine Gd.forIn_arr (fun _ _ => ?_) _ _
    | refine Gd.forIn_range (fun _ _ => ?_) _ _
    | intro _
    | split
    | dsimp only [Function.comp]

instance gd_Instr_field : ∀ x0 x1 x2, Gd P (Go.Instr.field x0 x1 x2) := by
  intros
  unfold Go.Instr.field
  repeat' first
    | infer_instance
    | refine Gd.bind ?_ fun _ => ?_
    | refine Gd.map _ ?_
    | refine Gd.mapM_arr (fun _ => ?_) _
    | refine Gd.mapM_list (fun _ => ?_) _
    | refine Gd.foldlM_list (fun _ _ => ?_) _ _
    | refine Gd.forIn_arr (fun _ _ => ?_) _ _
    | refine Gd.forIn_range (fun _ _ => ?_) _ _
    | intro _
    | split
    | dsimp only [Function.comp]

instance gd_Instr_index : ∀ x0 x1 x2, Gd P (Go.Instr.index x0 x1 x2) := by
  intros
  unfold Go.Instr.index
  repeat' first
    | infer_instance
    | refine Gd.bind ?_ fun _ => ?_
    | refine Gd.map _ ?_
    | refine Gd.mapM_arr (fun _ => ?_) _
    | refine Gd.mapM_list (fun _ => ?_) _
    | refine Gd.foldlM_list (fun _ _ => ?_) _ _
    | refine Gd.forIn_arr (fun _ _ => ?_) _ _
    | refine Gd.forIn_range (fun _ _ => ?_) _ _
    | intro _
    | split
    | dsimp only [Function.comp]

instance gd_Op_equalIn : ∀ x0 x1 x2 x3, Gd P (Go.Op.equalIn x0 x1 x2 x3) := by
  intro x0 x1 x2 x3
  induction x0 generalizing x1 x2 x3 with
  | zero =>
    unfold Go.Op.equalIn
    repeat' first
      | infer_instance
      | refine Gd.bind ?_ fun _ => ?_
      | refine Gd.map _ ?_
      | refine Gd.mapM_arr (fun _ => ?_) _
      | refine Gd.mapM_list (fun _ => ?_) _
      | refine Gd.foldlM_list (fun _ _ => ?_) _ _
      | refine Gd.forIn_arr (fun _ _ => ?_) _ _
      | refine Gd.forIn_range (fun _ _ => ?_) _ _
      | intro _
      | split
      | dsimp only [Function.comp]
  | succ n ih =>
    unfold Go.Op.equalIn
    repeat' first
      | exact ih _ _ _ | infer_instance
      | refine Gd.bind ?_ fun _ => ?_
      | refine Gd.map _ ?_
      | refine Gd.mapM_arr (fun _ => ?_) _
      | refine Gd.mapM_list (fun _ => ?_) _
      | refine Gd.foldlM_list (fun _ _ => ?_) _ _
      | refine Gd.forIn_arr (fun _ _ => ?_) _ _
      | refine Gd.forIn_range (fun _ _ => ?_) _ _
      | intro _
      | split
      | dsimp only [Function.comp]

instance gd_Op_equal : ∀ x0 x1 x2, Gd P (Go.Op.equal x0 x1 x2) := by
  intros
  unfold Go.Op.equal
  repeat' first
    | infer_instance
    | refine Gd.bind ?_ fun _ => ?_
    | refine Gd.map _ ?_
    | refine Gd.mapM_arr (fun _ => ?_) _
    | refine Gd.mapM_list (fun _ => ?_) _
    | refine Gd.foldlM_list (fun _ _ => ?_) _ _
    | refine Gd.forIn_arr (fun _ _ => ?_) _ _
    | refine Gd.forIn_range (fun _ _ => ?_) _ _
    | intro _
    | split
    | dsimp only [Function.comp]

instance gd_Op_eqGuardIn : ∀ x0 x1 x2 x3, Gd P (Go.Op.eqGuardIn x0 x1 x2 x3) := by
  intro x0 x1 x2 x3
  induction x0 generalizing x1 x2 x3 with
  | zero =>
    unfold Go.Op.eqGuardIn
    repeat' first
      | infer_instance
      | refine Gd.bind ?_ fun _ => ?_
      | refine Gd.map _ ?_
      | refine Gd.mapM_arr (fun _ => ?_) _
      | refine Gd.mapM_list (fun _ => ?_) _
      | refine Gd.foldlM_list (fun _ _ => ?_) _ _
      | refine Gd.forIn_arr (fun _ _ => ?_) _ _
      | refine Gd.forIn_range (fun _ _ => ?_) _ _
      | intro _
      | split
      | dsimp only [Function.comp]
  | succ n ih =>
    unfold Go.Op.eqGuardIn
    repeat' first
      | exact ih _ _ _ | infer_instance
      | refine Gd.bind ?_ fun _ => ?_
      | refine Gd.map _ ?_
      | refine Gd.mapM_arr (fun _ => ?_) _
      | refine Gd.mapM_list (fun _ => ?_) _
      | refine Gd.foldlM_list (fun _ _ => ?_) _ _
      | refine Gd.forIn_arr (fun _ _ => ?_) _ _
      | refine Gd.forIn_range (fun _ _ => ?_) _ _
      | intro _
      | split
      | dsimp only [Function.comp]

instance gd_Instr_checkKey : ∀ x0 x1 x2 x3, Gd P (Go.Instr.checkKey x0 x1 x2 x3) := by
  intro x0 x1 x2 x3
  induction x1 generalizing x0 x2 x3 with
  | zero =>
    unfold Go.Instr.checkKey
    repeat' first
      | infer_instance
      | refine Gd.bind ?_ fun _ => ?_
      | refine Gd.map _ ?_
      | refine Gd.mapM_arr (fun _ => ?_) _
      | refine Gd.mapM_list (fun _ => ?_) _
      | refine Gd.foldlM_list (fun _ _ => ?_) _ _
      | refine Gd.forIn_arr (fun _ _ => ?_) _ _
      | refine Gd.forIn_range (fun _ _ => ?_) _ _
      | intro _
      | split
      | dsimp only [Function.comp]
  | succ n ih =>
    unfold Go.Instr.checkKey
    repeat' first
      | exact ih _ _ _ | infer_instance
      | refine Gd.bind ?_ fun _ => ?_
      | refine Gd.map _ ?_
      | refine Gd.mapM_arr (fun _ => ?_) _
      | refine Gd.mapM_list (fun _ => ?_) _
      | refine Gd.foldlM_list (fun _ _ => ?_) _ _
      | refine Gd.forIn_arr (fun _ _ => ?_) _ _
      | refine Gd.forIn_range (fun _ _ => ?_) _ _
      | intro _
      | split
      | dsimp only [Function.comp]

instance gd_Instr_findAsking : ∀ x0 x1 x2 x3, Gd P (Go.Instr.findAsking x0 x1 x2 x3) := by
  intro x0 x1 x2 x3
  induction x2 generalizing x3 with
  | nil =>
    unfold Go.Instr.findAsking
    repeat' first
      | infer_instance
      | refine Gd.bind ?_ fun _ => ?_
      | refine Gd.map _ ?_
      | refine Gd.mapM_arr (fun _ => ?_) _
      | refine Gd.mapM_list (fun _ => ?_) _
      | refine Gd.foldlM_list (fun _ _ => ?_) _ _
      | refine Gd.forIn_arr (fun _ _ => ?_) _ _
      | refine Gd.forIn_range (fun _ _ => ?_) _ _
      | intro _
      | split
      | dsimp only [Function.comp]
  | cons a l ih =>
    unfold Go.Instr.findAsking
    repeat' first
      | exact ih _ | infer_instance
      | refine Gd.bind ?_ fun _ => ?_
      | refine Gd.map _ ?_
      | refine Gd.mapM_arr (fun _ => ?_) _
      | refine Gd.mapM_list (fun _ => ?_) _
      | refine Gd.foldlM_list (fun _ _ => ?_) _ _
      | refine Gd.forIn_arr (fun _ _ => ?_) _ _
      | refine Gd.forIn_range (fun _ _ => ?_) _ _
      | intro _
      | split
      | dsimp only [Function.comp]

instance gd_Instr_findKey : ∀ x0 x1 x2, Gd P (Go.Instr.findKey x0 x1 x2) := by
  intros
  unfold Go.Instr.findKey
  repeat' first
    | infer_instance
    | refine Gd.bind ?_ fun _ => ?_
    | refine Gd.map _ ?_
    | refine Gd.mapM_arr (fun _ => ?_) _
    | refine Gd.mapM_list (fun _ => ?_) _
    | refine Gd.foldlM_list (fun _ _ => ?_) _ _
    | refine Gd.forIn_arr (fun _ _ => ?_) _ _
    | refine Gd.forIn_range (fun _ _ => ?_) _ _
    | intro _
    | split
    | dsimp only [Function.comp]

instance gd_Instr_lookup : ∀ x0 x1 x2 x3, Gd P (Go.Instr.lookup x0 x1 x2 x3) := by
  intros
  unfold Go.Instr.lookup
  repeat' first
    | infer_instance
    | refine Gd.bind ?_ fun _ => ?_
    | refine Gd.map _ ?_
    | refine Gd.mapM_arr (fun _ => ?_) _
    | refine Gd.mapM_list (fun _ => ?_) _
    | refine Gd.foldlM_list (fun _ _ => ?_) _ _
    | refine Gd.forIn_arr (fun _ _ => ?_) _ _
    | refine Gd.forIn_range (fun _ _ => ?_) _ _
    | intro _
    | split
    | dsimp only [Function.comp]

instance gd_Instr_keyThatStays : ∀ x0 x1, Gd P (Go.Instr.keyThatStays x0 x1) := by
  intros
  unfold Go.Instr.keyThatStays
  repeat' first
    | infer_instance
    | refine Gd.bind ?_ fun _ => ?_
    | refine Gd.map _ ?_
    | refine Gd.mapM_arr (fun _ => ?_) _
    | refine Gd.mapM_list (fun _ => ?_) _
    | refine Gd.foldlM_list (fun _ _ => ?_) _ _
    | refine Gd.forIn_arr (fun _ _ => ?_) _ _
    | refine Gd.forIn_range (fun _ _ => ?_) _ _
    | intro _
    | split
    | dsimp only [Function.comp]

instance gd_Instr_mapUpdate : ∀ x0 x1 x2 x3, Gd P (Go.Instr.mapUpdate x0 x1 x2 x3) := by
  intros
  unfold Go.Instr.mapUpdate
  repeat' first
    | infer_instance
    | refine Gd.bind ?_ fun _ => ?_
    | refine Gd.map _ ?_
    | refine Gd.mapM_arr (fun _ => ?_) _
    | refine Gd.mapM_list (fun _ => ?_) _
    | refine Gd.foldlM_list (fun _ _ => ?_) _ _
    | refine Gd.forIn_arr (fun _ _ => ?_) _ _
    | refine Gd.forIn_range (fun _ _ => ?_) _ _
    | intro _
    | split
    | dsimp only [Function.comp]

instance gd_Instr_mapEntry : ∀ x0 x1 x2, Gd P (Go.Instr.mapEntry x0 x1 x2) := by
  intros
  unfold Go.Instr.mapEntry
  repeat' first
    | infer_instance
    | refine Gd.bind ?_ fun _ => ?_
    | refine Gd.map _ ?_
    | refine Gd.mapM_arr (fun _ => ?_) _
    | refine Gd.mapM_list (fun _ => ?_) _
    | refine Gd.foldlM_list (fun _ _ => ?_) _ _
    | refine Gd.forIn_arr (fun _ _ => ?_) _ _
    | refine Gd.forIn_range (fun _ _ => ?_) _ _
    | intro _
    | split
    | dsimp only [Function.comp]

instance gd_Instr_entryStore : ∀ x0 x1 x2 x3, Gd P (Go.Instr.entryStore x0 x1 x2 x3) := by
  intros
  unfold Go.Instr.entryStore
  repeat' first
    | infer_instance
    | refine Gd.bind ?_ fun _ => ?_
    | refine Gd.map _ ?_
    | refine Gd.mapM_arr (fun _ => ?_) _
    | refine Gd.mapM_list (fun _ => ?_) _
    | refine Gd.foldlM_list (fun _ _ => ?_) _ _
    | refine Gd.forIn_arr (fun _ _ => ?_) _ _
    | refine Gd.forIn_range (fun _ _ => ?_) _ _
    | intro _
    | split
    | dsimp only [Function.comp]

instance gd_Instr_range : ∀ x0 x1, Gd P (Go.Instr.range x0 x1) := by
  intros
  unfold Go.Instr.range
  repeat' first
    | infer_instance
    | refine Gd.bind ?_ fun _ => ?_
    | refine Gd.map _ ?_
    | refine Gd.mapM_arr (fun _ => ?_) _
    | refine Gd.mapM_list (fun _ => ?_) _
    | refine Gd.foldlM_list (fun _ _ => ?_) _ _
    | refine Gd.forIn_arr (fun _ _ => ?_) _ _
    | refine Gd.forIn_range (fun _ _ => ?_) _ _
    | intro _
    | split
    | dsimp only [Function.comp]

instance gd_Instr_next : ∀ x0 x1 x2, Gd P (Go.Instr.next x0 x1 x2) := by
  intros
  unfold Go.Instr.next
  repeat' first
    | infer_instance
    | refine Gd.bind ?_ fun _ => ?_
    | refine Gd.map _ ?_
    | refine Gd.mapM_arr (fun _ => ?_) _
    | refine Gd.mapM_list (fun _ => ?_) _
    | refine Gd.foldlM_list (fun _ _ => ?_) _ _
    | refine Gd.forIn_arr (fun _ _ => ?_) _ _
    | refine Gd.forIn_range (fun _ _ => ?_) _ _
    | intro _
    | split
    | dsimp only [Function.comp]

instance gd_Instr_entry : ∀ x0, Gd P (Go.Instr.entry x0) := by
  intros
  unfold Go.Instr.entry
  repeat' first
    | infer_instance
    | refine Gd.bind ?_ fun _ => ?_
    | refine Gd.map _ ?_
    | refine Gd.mapM_arr (fun _ => ?_) _
    | refine Gd.mapM_list (fun _ => ?_) _
    | refine Gd.foldlM_list (fun _ _ => ?_) _ _
    | refine Gd.forIn_arr (fun _ _ => ?_) _ _
    | refine Gd.forIn_range (fun _ _ => ?_) _ _
    | intro _
    | split
    | dsimp only [Function.comp]

instance gd_Instr_getLoop : ∀ x0, Gd P (Go.Instr.getLoop x0) := by
  intros
  unfold Go.Instr.getLoop
  repeat' first
    | infer_instance
    | refine Gd.bind ?_ fun _ => ?_
    | refine Gd.map _ ?_
    | refine Gd.mapM_arr (fun _ => ?_) _
    | refine Gd.mapM_list (fun _ => ?_) _
    | refine Gd.foldlM_list (fun _ _ => ?_) _ _
    | refine Gd.forIn_arr (fun _ _ => ?_) _ _
    | refine Gd.forIn_range (fun _ _ => ?_) _ _
    | intro _
    | split
    | dsimp only [Function.comp]

instance gd_Instr_enterLoop : ∀ x0 x1 x2 x3 x4 x5, Gd P (Go.Instr.enterLoop x0 x1 x2 x3 x4 x5) := by
  intros
  unfold Go.Instr.enterLoop
  repeat' first
    | infer_instance
    | refine Gd.bind ?_ fun _ => ?_
    | refine Gd.map _ ?_
    | refine Gd.mapM_arr (fun _ => ?_) _
    | refine Gd.mapM_list (fun _ => ?_) _
    | refine Gd.foldlM_list (fun _ _ => ?_) _ _
    | refine Gd.forIn_arr (fun _ _ => ?_) _ _
    | refine Gd.forIn_range (fun _ _ => ?_) _ _
    | intro _
    | split
    | dsimp only [Function.comp]

instance gd_Instr_beginRound : ∀ x0, Gd P (Go.Instr.beginRound x0) := by
  intros
  unfold Go.Instr.beginRound
  repeat' first
    | infer_instance
    | refine Gd.bind ?_ fun _ => ?_
    | refine Gd.map _ ?_
    | refine Gd.mapM_arr (fun _ => ?_) _
    | refine Gd.mapM_list (fun _ => ?_) _
    | refine Gd.foldlM_list (fun _ _ => ?_) _ _
    | refine Gd.forIn_arr (fun _ _ => ?_) _ _
    | refine Gd.forIn_range (fun _ _ => ?_) _ _
    | intro _
    | split
    | dsimp only [Function.comp]

instance gd_Instr_endRound : ∀ x0 x1, Gd P (Go.Instr.endRound x0 x1) := by
  intros
  unfold Go.Instr.endRound
  repeat' first
    | infer_instance
    | refine Gd.bind ?_ fun _ => ?_
    | refine Gd.map _ ?_
    | refine Gd.mapM_arr (fun _ => ?_) _
    | refine Gd.mapM_list (fun _ => ?_) _
    | refine Gd.foldlM_list (fun _ _ => ?_) _ _
    | refine Gd.forIn_arr (fun _ _ => ?_) _ _
    | refine Gd.forIn_range (fun _ _ => ?_) _ _
    | intro _
    | split
    | dsimp only [Function.comp]

instance gd_Instr_endLoop : ∀ x0, Gd P (Go.Instr.endLoop x0) := by
  intros
  unfold Go.Instr.endLoop
  repeat' first
    | infer_instance
    | refine Gd.bind ?_ fun _ => ?_
    | refine Gd.map _ ?_
    | refine Gd.mapM_arr (fun _ => ?_) _
    | refine Gd.mapM_list (fun _ => ?_) _
    | refine Gd.foldlM_list (fun _ _ => ?_) _ _
    | refine Gd.forIn_arr (fun _ _ => ?_) _ _
    | refine Gd.forIn_range (fun _ _ => ?_) _ _
    | intro _
    | split
    | dsimp only [Function.comp]

instance gd_Instr_deferInRound : ∀ x0 x1, Gd P (Go.Instr.deferInRound x0 x1) := by
  intros
  unfold Go.Instr.deferInRound
  repeat' first
    | infer_instance
    | refine Gd.bind ?_ fun _ => ?_
    | refine Gd.map _ ?_
    | refine Gd.mapM_arr (fun _ => ?_) _
    | refine Gd.mapM_list (fun _ => ?_) _
    | refine Gd.foldlM_list (fun _ _ => ?_) _ _
    | refine Gd.forIn_arr (fun _ _ => ?_) _ _
    | refine Gd.forIn_range (fun _ _ => ?_) _ _
    | intro _
    | split
    | dsimp only [Function.comp]

instance gd_Instr_takeDeferred : ∀ x0, Gd P (Go.Instr.takeDeferred x0) := by
  intros
  unfold Go.Instr.takeDeferred
  repeat' first
    | infer_instance
    | refine Gd.bind ?_ fun _ => ?_
    | refine Gd.map _ ?_
    | refine Gd.mapM_arr (fun _ => ?_) _
    | refine Gd.mapM_list (fun _ => ?_) _
    | refine Gd.foldlM_list (fun _ _ => ?_) _ _
    | refine Gd.forIn_arr (fun _ _ => ?_) _ _
    | refine Gd.forIn_range (fun _ _ => ?_) _ _
    | intro _
    | split
    | dsimp only [Function.comp]

set_option maxHeartbeats 1000000 in
instance gd_Builtin_ssaWrapNilChk_ : ∀ x0 x1 x2, Gd P (Go.Builtin.ssaWrapNilChk_ x0 x1 x2) := by
  intro x0 x1 x2
  obtain ⟨l⟩ := x2
  rcases l with _ | ⟨a, _ | ⟨b, _ | ⟨c, _ | ⟨z, l⟩⟩⟩⟩
  case cons.cons.cons.nil =>
    cases b
    case string b0 =>
      cases c
      case string c0 =>
        cases a
        case pointer a0 =>
          all_goals cases a0
          all_goals unfold Go.Builtin.ssaWrapNilChk_
          all_goals conv => arg 2; whnf
          all_goals (repeat' first
              | infer_instance
              | refine Gd.wchoose fun _ => ?_
              | refine Gd.wget fun _ => ?_
              | refine Gd.wset ?_
              | refine Gd.wnew fun _ => ?_
              | refine Gd.wshape fun _ => ?_
              | refine Gd.wprogram ?_
              | refine Gd.wdec (fun _ => ?_) (fun _ => ?_) _
              | refine Gd.bind ?_ fun _ => ?_
              | refine Gd.sbind ?_ fun _ => ?_
              | refine Gd.map _ ?_
              | intro _
              | split
              | dsimp only [Function.comp])
        all_goals exact gd_dead _
      all_goals exact gd_dead _
    all_goals exact gd_dead _
  all_goals exact gd_dead _

instance gd_Place_get : ∀ x0 x1, Gd P (Go.Place.get x0 x1) := by
  intros
  unfold Go.Place.get
  repeat' first
    | infer_instance
    | refine Gd.bind ?_ fun _ => ?_
    | refine Gd.map _ ?_
    | refine Gd.mapM_arr (fun _ => ?_) _
    | refine Gd.mapM_list (fun _ => ?_) _
    | refine Gd.foldlM_list (fun _ _ => ?_) _ _
    | refine Gd.forIn_arr (fun _ _ => ?_) _ _
    | refine Gd.forIn_range (fun _ _ => ?_) _ _
    | intro _
    | split
    | dsimp only [Function.comp]

instance gd_follow : ∀ x0 x1 x2, Gd P (Go.follow x0 x1 x2) := by
  intro x0 x1 x2
  induction x0 generalizing x1 x2 with
  | nil =>
    unfold Go.follow
    repeat' first
      | infer_instance
      | refine Gd.bind ?_ fun _ => ?_
      | refine Gd.map _ ?_
      | refine Gd.mapM_arr (fun _ => ?_) _
      | refine Gd.mapM_list (fun _ => ?_) _
      | refine Gd.foldlM_list (fun _ _ => ?_) _ _
      | refine Gd.forIn_arr (fun _ _ => ?_) _ _
      | refine Gd.forIn_range (fun _ _ => ?_) _ _
      | intro _
      | split
      | dsimp only [Function.comp]
  | cons a l ih =>
    unfold Go.follow
    repeat' first
      | exact ih _ _ | infer_instance
      | refine Gd.bind ?_ fun _ => ?_
      | refine Gd.map _ ?_
      | refine Gd.mapM_arr (fun _ => ?_) _
      | refine Gd.mapM_list (fun _ => ?_) _
      | refine Gd.foldlM_list (fun _ _ => ?_) _ _
      | refine Gd.forIn_arr (fun _ _ => ?_) _ _
      | refine Gd.forIn_range (fun _ _ => ?_) _ _
      | intro _
      | split
      | dsimp only [Function.comp]

instance gd_receiverAt : ∀ x0 x1 x2 x3, Gd P (Go.receiverAt x0 x1 x2 x3) := by
  intros
  unfold Go.receiverAt
  repeat' first
    | infer_instance
    | refine Gd.bind ?_ fun _ => ?_
    | refine Gd.map _ ?_
    | refine Gd.mapM_arr (fun _ => ?_) _
    | refine Gd.mapM_list (fun _ => ?_) _
    | refine Gd.foldlM_list (fun _ _ => ?_) _ _
    | refine Gd.forIn_arr (fun _ _ => ?_) _ _
    | refine Gd.forIn_range (fun _ _ => ?_) _ _
    | intro _
    | split
    | dsimp only [Function.comp]

instance gd_receiverVia : ∀ x0 x1 x2 x3, Gd P (Go.receiverVia x0 x1 x2 x3) := by
  intros
  unfold Go.receiverVia
  repeat' first
    | infer_instance
    | refine Gd.bind ?_ fun _ => ?_
    | refine Gd.map _ ?_
    | refine Gd.mapM_arr (fun _ => ?_) _
    | refine Gd.mapM_list (fun _ => ?_) _
    | refine Gd.foldlM_list (fun _ _ => ?_) _ _
    | refine Gd.forIn_arr (fun _ _ => ?_) _ _
    | refine Gd.forIn_range (fun _ _ => ?_) _ _
    | intro _
    | split
    | dsimp only [Function.comp]

instance gd_method : ∀ x0 x1 x2 x3, Gd P (Go.method x0 x1 x2 x3) := by
  intro x0 x1 x2 x3
  induction x0 generalizing x1 x2 x3 with
  | zero =>
    unfold Go.method
    repeat' first
      | infer_instance
      | refine Gd.bind ?_ fun _ => ?_
      | refine Gd.map _ ?_
      | refine Gd.mapM_arr (fun _ => ?_) _
      | refine Gd.mapM_list (fun _ => ?_) _
      | refine Gd.foldlM_list (fun _ _ => ?_) _ _
      | refine Gd.forIn_arr (fun _ _ => ?_) _ _
      | refine Gd.forIn_range (fun _ _ => ?_) _ _
      | intro _
      | split
      | dsimp only [Function.comp]
  | succ n ih =>
    unfold Go.method
    repeat' first
      | exact ih _ _ _ | infer_instance
      | refine Gd.bind ?_ fun _ => ?_
      | refine Gd.map _ ?_
      | refine Gd.mapM_arr (fun _ => ?_) _
      | refine Gd.mapM_list (fun _ => ?_) _
      | refine Gd.foldlM_list (fun _ _ => ?_) _ _
      | refine Gd.forIn_arr (fun _ _ => ?_) _ _
      | refine Gd.forIn_range (fun _ _ => ?_) _ _
      | intro _
      | split
      | dsimp only [Function.comp]

instance gd_followBlind : ∀ x0 x1 x2, Gd P (Go.followBlind x0 x1 x2) := by
  intro x0 x1 x2
  induction x0 generalizing x1 x2 with
  | nil =>
    unfold Go.followBlind
    repeat' first
      | infer_instance
      | refine Gd.bind ?_ fun _ => ?_
      | refine Gd.map _ ?_
      | refine Gd.mapM_arr (fun _ => ?_) _
      | refine Gd.mapM_list (fun _ => ?_) _
      | refine Gd.foldlM_list (fun _ _ => ?_) _ _
      | refine Gd.forIn_arr (fun _ _ => ?_) _ _
      | refine Gd.forIn_range (fun _ _ => ?_) _ _
      | intro _
      | split
      | dsimp only [Function.comp]
  | cons a l ih =>
    unfold Go.followBlind
    repeat' first
      | exact ih _ _ | infer_instance
      | refine Gd.bind ?_ fun _ => ?_
      | refine Gd.map _ ?_
      | refine Gd.mapM_arr (fun _ => ?_) _
      | refine Gd.mapM_list (fun _ => ?_) _
      | refine Gd.foldlM_list (fun _ _ => ?_) _ _
      | refine Gd.forIn_arr (fun _ _ => ?_) _ _
      | refine Gd.forIn_range (fun _ _ => ?_) _ _
      | intro _
      | split
      | dsimp only [Function.comp]

instance gd_nilAhead : ∀ x0 x1 x2 x3, Gd P (Go.nilAhead x0 x1 x2 x3) := by
  intro x0 x1 x2 x3
  induction x0 generalizing x1 x2 x3 with
  | zero =>
    unfold Go.nilAhead
    repeat' first
      | infer_instance
      | refine Gd.bind ?_ fun _ => ?_
      | refine Gd.map _ ?_
      | refine Gd.mapM_arr (fun _ => ?_) _
      | refine Gd.mapM_list (fun _ => ?_) _
      | refine Gd.foldlM_list (fun _ _ => ?_) _ _
      | refine Gd.forIn_arr (fun _ _ => ?_) _ _
      | refine Gd.forIn_range (fun _ _ => ?_) _ _
      | intro _
      | split
      | dsimp only [Function.comp]
  | succ n ih =>
    unfold Go.nilAhead
    repeat' first
      | exact ih _ _ _ | infer_instance
      | refine Gd.bind ?_ fun _ => ?_
      | refine Gd.map _ ?_
      | refine Gd.mapM_arr (fun _ => ?_) _
      | refine Gd.mapM_list (fun _ => ?_) _
      | refine Gd.foldlM_list (fun _ _ => ?_) _ _
      | refine Gd.forIn_arr (fun _ _ => ?_) _ _
      | refine Gd.forIn_range (fun _ _ => ?_) _ _
      | intro _
      | split
      | dsimp only [Function.comp]

instance gd_Builtin_printOne : ∀ x0 x1, Gd P (Go.Builtin.printOne x0 x1) := by
  intros
  unfold Go.Builtin.printOne
  repeat' first
    | infer_instance
    | refine Gd.bind ?_ fun _ => ?_
    | refine Gd.map _ ?_
    | refine Gd.mapM_arr (fun _ => ?_) _
    | refine Gd.mapM_list (fun _ => ?_) _
    | refine Gd.foldlM_list (fun _ _ => ?_) _ _
    | refine Gd.forIn_arr (fun _ _ => ?_) _ _
    | refine Gd.forIn_range (fun _ _ => ?_) _ _
    | intro _
    | split
    | dsimp only [Function.comp]

instance gd_Instr_typeAssert : ∀ x0 x1 x2 x3, Gd P (Go.Instr.typeAssert x0 x1 x2 x3) := by
  intros
  unfold Go.Instr.typeAssert
  repeat' first
    | infer_instance
    | refine Gd.bind ?_ fun _ => ?_
    | refine Gd.map _ ?_
    | refine Gd.mapM_arr (fun _ => ?_) _
    | refine Gd.mapM_list (fun _ => ?_) _
    | refine Gd.foldlM_list (fun _ _ => ?_) _ _
    | refine Gd.forIn_arr (fun _ _ => ?_) _ _
    | refine Gd.forIn_range (fun _ _ => ?_) _ _
    | intro _
    | split
    | dsimp only [Function.comp]

instance gd_Instr_extract : ∀ x0 x1, Gd P (Go.Instr.extract x0 x1) := by
  intros
  unfold Go.Instr.extract
  repeat' first
    | infer_instance
    | refine Gd.bind ?_ fun _ => ?_
    | refine Gd.map _ ?_
    | refine Gd.mapM_arr (fun _ => ?_) _
    | refine Gd.mapM_list (fun _ => ?_) _
    | refine Gd.foldlM_list (fun _ _ => ?_) _ _
    | refine Gd.forIn_arr (fun _ _ => ?_) _ _
    | refine Gd.forIn_range (fun _ _ => ?_) _ _
    | intro _
    | split
    | dsimp only [Function.comp]

instance gd_Instr_panicnil : Gd P Go.Instr.panicnil := by
  constructor
  unfold Go.Instr.panicnil
  show Good P _ (Sem.bind (Sem.sys Sys.env Sem.pure) _)
  refine Good.sys _ (fun w es => ?_) fun r => ?_
  · exact trivial
  · have : ∀ x : Sem Int, Gd P x → Good P (fun _ => True) x := fun _ h => h.good
    apply this
    show Gd P (Sem.bind (Sem.pure r) _)
    refine Gd.sbind ?_ fun _ => ?_
    repeat' first
        | infer_instance
        | refine Gd.bind ?_ fun _ => ?_
        | refine Gd.map _ ?_
        | refine Gd.mapM_arr (fun _ => ?_) _
        | refine Gd.mapM_list (fun _ => ?_) _
        | refine Gd.foldlM_list (fun _ _ => ?_) _ _
        | refine Gd.forIn_arr (fun _ _ => ?_) _ _
        | refine Gd.forIn_range (fun _ _ => ?_) _ _
        | intro _
        | split
        | dsimp only [Function.comp]

instance gd_Instr_panic : ∀ x0, Gd P (Go.Instr.panic x0) := by
  intros
  unfold Go.Instr.panic
  repeat' first
    | infer_instance
    | refine Gd.bind ?_ fun _ => ?_
    | refine Gd.map _ ?_
    | refine Gd.mapM_arr (fun _ => ?_) _
    | refine Gd.mapM_list (fun _ => ?_) _
    | refine Gd.foldlM_list (fun _ _ => ?_) _ _
    | refine Gd.forIn_arr (fun _ _ => ?_) _ _
    | refine Gd.forIn_range (fun _ _ => ?_) _ _
    | intro _
    | split
    | dsimp only [Function.comp]

instance gd_Op_intArith : ∀ x0 x1 x2 x3, Gd P (Go.Op.intArith x0 x1 x2 x3) := by
  intros
  unfold Go.Op.intArith
  repeat' first
    | infer_instance
    | refine Gd.bind ?_ fun _ => ?_
    | refine Gd.map _ ?_
    | refine Gd.mapM_arr (fun _ => ?_) _
    | refine Gd.mapM_list (fun _ => ?_) _
    | refine Gd.foldlM_list (fun _ _ => ?_) _ _
    | refine Gd.forIn_arr (fun _ _ => ?_) _ _
    | refine Gd.forIn_range (fun _ _ => ?_) _ _
    | intro _
    | split
    | dsimp only [Function.comp]

instance gd_Op_intDiv : ∀ x0 x1 x2 x3, Gd P (Go.Op.intDiv x0 x1 x2 x3) := by
  intros
  unfold Go.Op.intDiv
  repeat' first
    | infer_instance
    | refine Gd.bind ?_ fun _ => ?_
    | refine Gd.map _ ?_
    | refine Gd.mapM_arr (fun _ => ?_) _
    | refine Gd.mapM_list (fun _ => ?_) _
    | refine Gd.foldlM_list (fun _ _ => ?_) _ _
    | refine Gd.forIn_arr (fun _ _ => ?_) _ _
    | refine Gd.forIn_range (fun _ _ => ?_) _ _
    | intro _
    | split
    | dsimp only [Function.comp]

instance gd_Op_intBits : ∀ x0 x1 x2 x3, Gd P (Go.Op.intBits x0 x1 x2 x3) := by
  intros
  unfold Go.Op.intBits
  repeat' first
    | infer_instance
    | refine Gd.bind ?_ fun _ => ?_
    | refine Gd.map _ ?_
    | refine Gd.mapM_arr (fun _ => ?_) _
    | refine Gd.mapM_list (fun _ => ?_) _
    | refine Gd.foldlM_list (fun _ _ => ?_) _ _
    | refine Gd.forIn_arr (fun _ _ => ?_) _ _
    | refine Gd.forIn_range (fun _ _ => ?_) _ _
    | intro _
    | split
    | dsimp only [Function.comp]

instance gd_Op_shift : ∀ x0 x1 x2 x3 x4, Gd P (Go.Op.shift x0 x1 x2 x3 x4) := by
  intros
  unfold Go.Op.shift
  repeat' first
    | infer_instance
    | refine Gd.bind ?_ fun _ => ?_
    | refine Gd.map _ ?_
    | refine Gd.mapM_arr (fun _ => ?_) _
    | refine Gd.mapM_list (fun _ => ?_) _
    | refine Gd.foldlM_list (fun _ _ => ?_) _ _
    | refine Gd.forIn_arr (fun _ _ => ?_) _ _
    | refine Gd.forIn_range (fun _ _ => ?_) _ _
    | intro _
    | split
    | dsimp only [Function.comp]

instance gd_Op_intCmp : ∀ x0 x1 x2, Gd P (Go.Op.intCmp x0 x1 x2) := by
  intros
  unfold Go.Op.intCmp
  repeat' first
    | infer_instance
    | refine Gd.bind ?_ fun _ => ?_
    | refine Gd.map _ ?_
    | refine Gd.mapM_arr (fun _ => ?_) _
    | refine Gd.mapM_list (fun _ => ?_) _
    | refine Gd.foldlM_list (fun _ _ => ?_) _ _
    | refine Gd.forIn_arr (fun _ _ => ?_) _ _
    | refine Gd.forIn_range (fun _ _ => ?_) _ _
    | intro _
    | split
    | dsimp only [Function.comp]

instance gd_Op_floatArith : ∀ x0 x1 x2 x3, Gd P (Go.Op.floatArith x0 x1 x2 x3) := by
  intros
  unfold Go.Op.floatArith
  repeat' first
    | infer_instance
    | refine Gd.bind ?_ fun _ => ?_
    | refine Gd.map _ ?_
    | refine Gd.mapM_arr (fun _ => ?_) _
    | refine Gd.mapM_list (fun _ => ?_) _
    | refine Gd.foldlM_list (fun _ _ => ?_) _ _
    | refine Gd.forIn_arr (fun _ _ => ?_) _ _
    | refine Gd.forIn_range (fun _ _ => ?_) _ _
    | intro _
    | split
    | dsimp only [Function.comp]

instance gd_Op_floatCmp : ∀ x0 x1 x2 x3, Gd P (Go.Op.floatCmp x0 x1 x2 x3) := by
  intros
  unfold Go.Op.floatCmp
  repeat' first
    | infer_instance
    | refine Gd.bind ?_ fun _ => ?_
    | refine Gd.map _ ?_
    | refine Gd.mapM_arr (fun _ => ?_) _
    | refine Gd.mapM_list (fun _ => ?_) _
    | refine Gd.foldlM_list (fun _ _ => ?_) _ _
    | refine Gd.forIn_arr (fun _ _ => ?_) _ _
    | refine Gd.forIn_range (fun _ _ => ?_) _ _
    | intro _
    | split
    | dsimp only [Function.comp]

instance gd_Conv_floatToFloat : ∀ x0 x1 x2, Gd P (Go.Conv.floatToFloat x0 x1 x2) := by
  intros
  unfold Go.Conv.floatToFloat
  repeat' first
    | infer_instance
    | refine Gd.bind ?_ fun _ => ?_
    | refine Gd.map _ ?_
    | refine Gd.mapM_arr (fun _ => ?_) _
    | refine Gd.mapM_list (fun _ => ?_) _
    | refine Gd.foldlM_list (fun _ _ => ?_) _ _
    | refine Gd.forIn_arr (fun _ _ => ?_) _ _
    | refine Gd.forIn_range (fun _ _ => ?_) _ _
    | intro _
    | split
    | dsimp only [Function.comp]

instance gd_Op_Complex_arith : ∀ x0 x1 x2 x3, Gd P (Go.Op.Complex.arith x0 x1 x2 x3) := by
  intros
  unfold Go.Op.Complex.arith
  repeat' first
    | infer_instance
    | refine Gd.bind ?_ fun _ => ?_
    | refine Gd.map _ ?_
    | refine Gd.mapM_arr (fun _ => ?_) _
    | refine Gd.mapM_list (fun _ => ?_) _
    | refine Gd.foldlM_list (fun _ _ => ?_) _ _
    | refine Gd.forIn_arr (fun _ _ => ?_) _ _
    | refine Gd.forIn_range (fun _ _ => ?_) _ _
    | intro _
    | split
    | dsimp only [Function.comp]

instance gd_Op_Complex_cmp : ∀ x0 x1 x2 x3, Gd P (Go.Op.Complex.cmp x0 x1 x2 x3) := by
  intros
  unfold Go.Op.Complex.cmp
  repeat' first
    | infer_instance
    | refine Gd.bind ?_ fun _ => ?_
    | refine Gd.map _ ?_
    | refine Gd.mapM_arr (fun _ => ?_) _
    | refine Gd.mapM_list (fun _ => ?_) _
    | refine Gd.foldlM_list (fun _ _ => ?_) _ _
    | refine Gd.forIn_arr (fun _ _ => ?_) _ _
    | refine Gd.forIn_range (fun _ _ => ?_) _ _
    | intro _
    | split
    | dsimp only [Function.comp]

instance gd_Op_Complex_conv : ∀ x0 x1 x2, Gd P (Go.Op.Complex.conv x0 x1 x2) := by
  intros
  unfold Go.Op.Complex.conv
  repeat' first
    | infer_instance
    | refine Gd.bind ?_ fun _ => ?_
    | refine Gd.map _ ?_
    | refine Gd.mapM_arr (fun _ => ?_) _
    | refine Gd.mapM_list (fun _ => ?_) _
    | refine Gd.foldlM_list (fun _ _ => ?_) _ _
    | refine Gd.forIn_arr (fun _ _ => ?_) _ _
    | refine Gd.forIn_range (fun _ _ => ?_) _ _
    | intro _
    | split
    | dsimp only [Function.comp]

instance gd_Op_Complex_add : ∀ x0 x1, Gd P (Go.Op.Complex.add x0 x1) := by
  intros
  unfold Go.Op.Complex.add
  repeat' first
    | infer_instance
    | refine Gd.bind ?_ fun _ => ?_
    | refine Gd.map _ ?_
    | refine Gd.mapM_arr (fun _ => ?_) _
    | refine Gd.mapM_list (fun _ => ?_) _
    | refine Gd.foldlM_list (fun _ _ => ?_) _ _
    | refine Gd.forIn_arr (fun _ _ => ?_) _ _
    | refine Gd.forIn_range (fun _ _ => ?_) _ _
    | intro _
    | split
    | dsimp only [Function.comp]

instance gd_Op_Complex_sub : ∀ x0 x1, Gd P (Go.Op.Complex.sub x0 x1) := by
  intros
  unfold Go.Op.Complex.sub
  repeat' first
    | infer_instance
    | refine Gd.bind ?_ fun _ => ?_
    | refine Gd.map _ ?_
    | refine Gd.mapM_arr (fun _ => ?_) _
    | refine Gd.mapM_list (fun _ => ?_) _
    | refine Gd.foldlM_list (fun _ _ => ?_) _ _
    | refine Gd.forIn_arr (fun _ _ => ?_) _ _
    | refine Gd.forIn_range (fun _ _ => ?_) _ _
    | intro _
    | split
    | dsimp only [Function.comp]

instance gd_Op_Complex_mul : ∀ x0 x1, Gd P (Go.Op.Complex.mul x0 x1) := by
  intros
  unfold Go.Op.Complex.mul
  repeat' first
    | infer_instance
    | refine Gd.bind ?_ fun _ => ?_
    | refine Gd.map _ ?_
    | refine Gd.mapM_arr (fun _ => ?_) _
    | refine Gd.mapM_list (fun _ => ?_) _
    | refine Gd.foldlM_list (fun _ _ => ?_) _ _
    | refine Gd.forIn_arr (fun _ _ => ?_) _ _
    | refine Gd.forIn_range (fun _ _ => ?_) _ _
    | intro _
    | split
    | dsimp only [Function.comp]

instance gd_Op_Complex_quo : ∀ x0 x1, Gd P (Go.Op.Complex.quo x0 x1) := by
  intros
  unfold Go.Op.Complex.quo
  repeat' first
    | infer_instance
    | refine Gd.bind ?_ fun _ => ?_
    | refine Gd.map _ ?_
    | refine Gd.mapM_arr (fun _ => ?_) _
    | refine Gd.mapM_list (fun _ => ?_) _
    | refine Gd.foldlM_list (fun _ _ => ?_) _ _
    | refine Gd.forIn_arr (fun _ _ => ?_) _ _
    | refine Gd.forIn_range (fun _ _ => ?_) _ _
    | intro _
    | split
    | dsimp only [Function.comp]

instance gd_Op_Complex_product : ∀ x0 x1 x2 x3, Gd P (Go.Op.Complex.product x0 x1 x2 x3) := by
  intros
  unfold Go.Op.Complex.product
  repeat' first
    | infer_instance
    | refine Gd.bind ?_ fun _ => ?_
    | refine Gd.map _ ?_
    | refine Gd.mapM_arr (fun _ => ?_) _
    | refine Gd.mapM_list (fun _ => ?_) _
    | refine Gd.foldlM_list (fun _ _ => ?_) _ _
    | refine Gd.forIn_arr (fun _ _ => ?_) _ _
    | refine Gd.forIn_range (fun _ _ => ?_) _ _
    | intro _
    | split
    | dsimp only [Function.comp]

instance gd_Op_Complex_corrected : ∀ x0 x1 x2 x3 x4, Gd P (Go.Op.Complex.corrected x0 x1 x2 x3 x4) := by
  intros
  unfold Go.Op.Complex.corrected
  repeat' first
    | infer_instance
    | refine Gd.bind ?_ fun _ => ?_
    | refine Gd.map _ ?_
    | refine Gd.mapM_arr (fun _ => ?_) _
    | refine Gd.mapM_list (fun _ => ?_) _
    | refine Gd.foldlM_list (fun _ _ => ?_) _ _
    | refine Gd.forIn_arr (fun _ _ => ?_) _ _
    | refine Gd.forIn_range (fun _ _ => ?_) _ _
    | intro _
    | split
    | dsimp only [Function.comp]

instance gd_Op_Complex_quotient : ∀ x0 x1 x2 x3, Gd P (Go.Op.Complex.quotient x0 x1 x2 x3) := by
  intros
  unfold Go.Op.Complex.quotient
  repeat' first
    | infer_instance
    | refine Gd.bind ?_ fun _ => ?_
    | refine Gd.map _ ?_
    | refine Gd.mapM_arr (fun _ => ?_) _
    | refine Gd.mapM_list (fun _ => ?_) _
    | refine Gd.foldlM_list (fun _ _ => ?_) _ _
    | refine Gd.forIn_arr (fun _ _ => ?_) _ _
    | refine Gd.forIn_range (fun _ _ => ?_) _ _
    | intro _
    | split
    | dsimp only [Function.comp]

instance gd_Op_complexOp : ∀ x0 x1 x2 x3 x4 x5, Gd P (Go.Op.complexOp x0 x1 x2 x3 x4 x5) := by
  intros
  unfold Go.Op.complexOp
  repeat' first
    | infer_instance
    | refine Gd.bind ?_ fun _ => ?_
    | refine Gd.map _ ?_
    | refine Gd.mapM_arr (fun _ => ?_) _
    | refine Gd.mapM_list (fun _ => ?_) _
    | refine Gd.foldlM_list (fun _ _ => ?_) _ _
    | refine Gd.forIn_arr (fun _ _ => ?_) _ _
    | refine Gd.forIn_range (fun _ _ => ?_) _ _
    | intro _
    | split
    | dsimp only [Function.comp]

instance gd_Op_stringOp : ∀ x0 x1 x2, Gd P (Go.Op.stringOp x0 x1 x2) := by
  intros
  unfold Go.Op.stringOp
  repeat' first
    | infer_instance
    | refine Gd.bind ?_ fun _ => ?_
    | refine Gd.map _ ?_
    | refine Gd.mapM_arr (fun _ => ?_) _
    | refine Gd.mapM_list (fun _ => ?_) _
    | refine Gd.foldlM_list (fun _ _ => ?_) _ _
    | refine Gd.forIn_arr (fun _ _ => ?_) _ _
    | refine Gd.forIn_range (fun _ _ => ?_) _ _
    | intro _
    | split
    | dsimp only [Function.comp]

instance gd_Op_twoPlaces : ∀ x0 x1, Gd P (Go.Op.twoPlaces x0 x1) := by
  intros
  unfold Go.Op.twoPlaces
  repeat' first
    | infer_instance
    | refine Gd.bind ?_ fun _ => ?_
    | refine Gd.map _ ?_
    | refine Gd.mapM_arr (fun _ => ?_) _
    | refine Gd.mapM_list (fun _ => ?_) _
    | refine Gd.foldlM_list (fun _ _ => ?_) _ _
    | refine Gd.forIn_arr (fun _ _ => ?_) _ _
    | refine Gd.forIn_range (fun _ _ => ?_) _ _
    | intro _
    | split
    | dsimp only [Function.comp]

instance gd_Op_addrSub : ∀ x0 x1 x2, Gd P (Go.Op.addrSub x0 x1 x2) := by
  intros
  unfold Go.Op.addrSub
  repeat' first
    | infer_instance
    | refine Gd.bind ?_ fun _ => ?_
    | refine Gd.map _ ?_
    | refine Gd.mapM_arr (fun _ => ?_) _
    | refine Gd.mapM_list (fun _ => ?_) _
    | refine Gd.foldlM_list (fun _ _ => ?_) _ _
    | refine Gd.forIn_arr (fun _ _ => ?_) _ _
    | refine Gd.forIn_range (fun _ _ => ?_) _ _
    | intro _
    | split
    | dsimp only [Function.comp]

instance gd_Op_addrCmp : ∀ x0 x1 x2, Gd P (Go.Op.addrCmp x0 x1 x2) := by
  intros
  unfold Go.Op.addrCmp
  repeat' first
    | infer_instance
    | refine Gd.bind ?_ fun _ => ?_
    | refine Gd.map _ ?_
    | refine Gd.mapM_arr (fun _ => ?_) _
    | refine Gd.mapM_list (fun _ => ?_) _
    | refine Gd.foldlM_list (fun _ _ => ?_) _ _
    | refine Gd.forIn_arr (fun _ _ => ?_) _ _
    | refine Gd.forIn_range (fun _ _ => ?_) _ _
    | intro _
    | split
    | dsimp only [Function.comp]

instance gd_Op_addrMod : ∀ x0 x1 x2, Gd P (Go.Op.addrMod x0 x1 x2) := by
  intros
  unfold Go.Op.addrMod
  repeat' first
    | infer_instance
    | refine Gd.bind ?_ fun _ => ?_
    | refine Gd.map _ ?_
    | refine Gd.mapM_arr (fun _ => ?_) _
    | refine Gd.mapM_list (fun _ => ?_) _
    | refine Gd.foldlM_list (fun _ _ => ?_) _ _
    | refine Gd.forIn_arr (fun _ _ => ?_) _ _
    | refine Gd.forIn_range (fun _ _ => ?_) _ _
    | intro _
    | split
    | dsimp only [Function.comp]

instance gd_Op_unary : ∀ x0 x1, Gd P (Go.Op.unary x0 x1) := by
  intros
  unfold Go.Op.unary
  repeat' first
    | infer_instance
    | refine Gd.bind ?_ fun _ => ?_
    | refine Gd.map _ ?_
    | refine Gd.mapM_arr (fun _ => ?_) _
    | refine Gd.mapM_list (fun _ => ?_) _
    | refine Gd.foldlM_list (fun _ _ => ?_) _ _
    | refine Gd.forIn_arr (fun _ _ => ?_) _ _
    | refine Gd.forIn_range (fun _ _ => ?_) _ _
    | intro _
    | split
    | dsimp only [Function.comp]

instance gd_Conv_intToInt : ∀ x0 x1, Gd P (Go.Conv.intToInt x0 x1) := by
  intros
  unfold Go.Conv.intToInt
  repeat' first
    | infer_instance
    | refine Gd.bind ?_ fun _ => ?_
    | refine Gd.map _ ?_
    | refine Gd.mapM_arr (fun _ => ?_) _
    | refine Gd.mapM_list (fun _ => ?_) _
    | refine Gd.foldlM_list (fun _ _ => ?_) _ _
    | refine Gd.forIn_arr (fun _ _ => ?_) _ _
    | refine Gd.forIn_range (fun _ _ => ?_) _ _
    | intro _
    | split
    | dsimp only [Function.comp]

instance gd_Conv_intToFloat : ∀ x0 x1, Gd P (Go.Conv.intToFloat x0 x1) := by
  intros
  unfold Go.Conv.intToFloat
  repeat' first
    | infer_instance
    | refine Gd.bind ?_ fun _ => ?_
    | refine Gd.map _ ?_
    | refine Gd.mapM_arr (fun _ => ?_) _
    | refine Gd.mapM_list (fun _ => ?_) _
    | refine Gd.foldlM_list (fun _ _ => ?_) _ _
    | refine Gd.forIn_arr (fun _ _ => ?_) _ _
    | refine Gd.forIn_range (fun _ _ => ?_) _ _
    | intro _
    | split
    | dsimp only [Function.comp]

instance gd_Conv_floatToInt : ∀ x0 x1 x2, Gd P (Go.Conv.floatToInt x0 x1 x2) := by
  intros
  unfold Go.Conv.floatToInt
  repeat' first
    | infer_instance
    | refine Gd.bind ?_ fun _ => ?_
    | refine Gd.map _ ?_
    | refine Gd.mapM_arr (fun _ => ?_) _
    | refine Gd.mapM_list (fun _ => ?_) _
    | refine Gd.foldlM_list (fun _ _ => ?_) _ _
    | refine Gd.forIn_arr (fun _ _ => ?_) _ _
    | refine Gd.forIn_range (fun _ _ => ?_) _ _
    | intro _
    | split
    | dsimp only [Function.comp]

instance gd_Conv_complexToComplex : ∀ x0 x1 x2 x3, Gd P (Go.Conv.complexToComplex x0 x1 x2 x3) := by
  intros
  unfold Go.Conv.complexToComplex
  repeat' first
    | infer_instance
    | refine Gd.bind ?_ fun _ => ?_
    | refine Gd.map _ ?_
    | refine Gd.mapM_arr (fun _ => ?_) _
    | refine Gd.mapM_list (fun _ => ?_) _
    | refine Gd.foldlM_list (fun _ _ => ?_) _ _
    | refine Gd.forIn_arr (fun _ _ => ?_) _ _
    | refine Gd.forIn_range (fun _ _ => ?_) _ _
    | intro _
    | split
    | dsimp only [Function.comp]

instance gd_Conv_intToString : ∀ x0, Gd P (Go.Conv.intToString x0) := by
  intros
  unfold Go.Conv.intToString
  repeat' first
    | infer_instance
    | refine Gd.bind ?_ fun _ => ?_
    | refine Gd.map _ ?_
    | refine Gd.mapM_arr (fun _ => ?_) _
    | refine Gd.mapM_list (fun _ => ?_) _
    | refine Gd.foldlM_list (fun _ _ => ?_) _ _
    | refine Gd.forIn_arr (fun _ _ => ?_) _ _
    | refine Gd.forIn_range (fun _ _ => ?_) _ _
    | intro _
    | split
    | dsimp only [Function.comp]

instance gd_Conv_stringToBytes : ∀ x0 x1, Gd P (Go.Conv.stringToBytes x0 x1) := by
  intros
  unfold Go.Conv.stringToBytes
  repeat' first
    | infer_instance
    | refine Gd.bind ?_ fun _ => ?_
    | refine Gd.map _ ?_
    | refine Gd.mapM_arr (fun _ => ?_) _
    | refine Gd.mapM_list (fun _ => ?_) _
    | refine Gd.foldlM_list (fun _ _ => ?_) _ _
    | refine Gd.forIn_arr (fun _ _ => ?_) _ _
    | refine Gd.forIn_range (fun _ _ => ?_) _ _
    | intro _
    | split
    | dsimp only [Function.comp]

instance gd_Conv_bytesToString : ∀ x0, Gd P (Go.Conv.bytesToString x0) := by
  intros
  unfold Go.Conv.bytesToString
  repeat' first
    | infer_instance
    | refine Gd.bind ?_ fun _ => ?_
    | refine Gd.map _ ?_
    | refine Gd.mapM_arr (fun _ => ?_) _
    | refine Gd.mapM_list (fun _ => ?_) _
    | refine Gd.foldlM_list (fun _ _ => ?_) _ _
    | refine Gd.forIn_arr (fun _ _ => ?_) _ _
    | refine Gd.forIn_range (fun _ _ => ?_) _ _
    | intro _
    | split
    | dsimp only [Function.comp]

instance gd_Conv_stringToRunes : ∀ x0 x1, Gd P (Go.Conv.stringToRunes x0 x1) := by
  intros
  unfold Go.Conv.stringToRunes
  repeat' first
    | infer_instance
    | refine Gd.bind ?_ fun _ => ?_
    | refine Gd.map _ ?_
    | refine Gd.mapM_arr (fun _ => ?_) _
    | refine Gd.mapM_list (fun _ => ?_) _
    | refine Gd.foldlM_list (fun _ _ => ?_) _ _
    | refine Gd.forIn_arr (fun _ _ => ?_) _ _
    | refine Gd.forIn_range (fun _ _ => ?_) _ _
    | intro _
    | split
    | dsimp only [Function.comp]

instance gd_Conv_runesToString : ∀ x0, Gd P (Go.Conv.runesToString x0) := by
  intros
  unfold Go.Conv.runesToString
  repeat' first
    | infer_instance
    | refine Gd.bind ?_ fun _ => ?_
    | refine Gd.map _ ?_
    | refine Gd.mapM_arr (fun _ => ?_) _
    | refine Gd.mapM_list (fun _ => ?_) _
    | refine Gd.foldlM_list (fun _ _ => ?_) _ _
    | refine Gd.forIn_arr (fun _ _ => ?_) _ _
    | refine Gd.forIn_range (fun _ _ => ?_) _ _
    | intro _
    | split
    | dsimp only [Function.comp]

instance gd_Conv_seenAt : ∀ x0, Gd P (Go.Conv.seenAt x0) := by
  intros
  unfold Go.Conv.seenAt
  repeat' first
    | infer_instance
    | refine Gd.bind ?_ fun _ => ?_
    | refine Gd.map _ ?_
    | refine Gd.mapM_arr (fun _ => ?_) _
    | refine Gd.mapM_list (fun _ => ?_) _
    | refine Gd.foldlM_list (fun _ _ => ?_) _ _
    | refine Gd.forIn_arr (fun _ _ => ?_) _ _
    | refine Gd.forIn_range (fun _ _ => ?_) _ _
    | intro _
    | split
    | dsimp only [Function.comp]

instance gd_Conv_unsafePointer : ∀ x0 x1 x2, Gd P (Go.Conv.unsafePointer x0 x1 x2) := by
  intros
  unfold Go.Conv.unsafePointer
  repeat' first
    | infer_instance
    | refine Gd.bind ?_ fun _ => ?_
    | refine Gd.map _ ?_
    | refine Gd.mapM_arr (fun _ => ?_) _
    | refine Gd.mapM_list (fun _ => ?_) _
    | refine Gd.foldlM_list (fun _ _ => ?_) _ _
    | refine Gd.forIn_arr (fun _ _ => ?_) _ _
    | refine Gd.forIn_range (fun _ _ => ?_) _ _
    | intro _
    | split
    | dsimp only [Function.comp]

instance gd_Builtin_holdsCells : ∀ x0 x1, Gd P (Go.Builtin.holdsCells x0 x1) := by
  intros
  unfold Go.Builtin.holdsCells
  repeat' first
    | infer_instance
    | refine Gd.bind ?_ fun _ => ?_
    | refine Gd.map _ ?_
    | refine Gd.mapM_arr (fun _ => ?_) _
    | refine Gd.mapM_list (fun _ => ?_) _
    | refine Gd.foldlM_list (fun _ _ => ?_) _ _
    | refine Gd.forIn_arr (fun _ _ => ?_) _ _
    | refine Gd.forIn_range (fun _ _ => ?_) _ _
    | intro _
    | split
    | dsimp only [Function.comp]

instance gd_Builtin_mayShare : ∀ x0 x1 x2 x3 x4, Gd P (Go.Builtin.mayShare x0 x1 x2 x3 x4) := by
  intros
  unfold Go.Builtin.mayShare
  repeat' first
    | infer_instance
    | refine Gd.bind ?_ fun _ => ?_
    | refine Gd.map _ ?_
    | refine Gd.mapM_arr (fun _ => ?_) _
    | refine Gd.mapM_list (fun _ => ?_) _
    | refine Gd.foldlM_list (fun _ _ => ?_) _ _
    | refine Gd.forIn_arr (fun _ _ => ?_) _ _
    | refine Gd.forIn_range (fun _ _ => ?_) _ _
    | intro _
    | split
    | dsimp only [Function.comp]

instance gd_Builtin_lenOf : ∀ x0, Gd P (Go.Builtin.lenOf x0) := by
  intros
  unfold Go.Builtin.lenOf
  repeat' first
    | infer_instance
    | refine Gd.bind ?_ fun _ => ?_
    | refine Gd.map _ ?_
    | refine Gd.mapM_arr (fun _ => ?_) _
    | refine Gd.mapM_list (fun _ => ?_) _
    | refine Gd.foldlM_list (fun _ _ => ?_) _ _
    | refine Gd.forIn_arr (fun _ _ => ?_) _ _
    | refine Gd.forIn_range (fun _ _ => ?_) _ _
    | intro _
    | split
    | dsimp only [Function.comp]

instance gd_Builtin_firstCells : ∀ x0 x1 x2, Gd P (Go.Builtin.firstCells x0 x1 x2) := by
  intros
  unfold Go.Builtin.firstCells
  repeat' first
    | infer_instance
    | refine Gd.bind ?_ fun _ => ?_
    | refine Gd.map _ ?_
    | refine Gd.mapM_arr (fun _ => ?_) _
    | refine Gd.mapM_list (fun _ => ?_) _
    | refine Gd.foldlM_list (fun _ _ => ?_) _ _
    | refine Gd.forIn_arr (fun _ _ => ?_) _ _
    | refine Gd.forIn_range (fun _ _ => ?_) _ _
    | intro _
    | split
    | dsimp only [Function.comp]

instance gd_Builtin_cap_ : ∀ x0 x1 x2, Gd P (Go.Builtin.cap_ x0 x1 x2) := by
  intros
  unfold Go.Builtin.cap_
  repeat' first
    | infer_instance
    | refine Gd.bind ?_ fun _ => ?_
    | refine Gd.map _ ?_
    | refine Gd.mapM_arr (fun _ => ?_) _
    | refine Gd.mapM_list (fun _ => ?_) _
    | refine Gd.foldlM_list (fun _ _ => ?_) _ _
    | refine Gd.forIn_arr (fun _ _ => ?_) _ _
    | refine Gd.forIn_range (fun _ _ => ?_) _ _
    | intro _
    | split
    | dsimp only [Function.comp]

instance gd_Builtin_clear_ : ∀ x0 x1 x2, Gd P (Go.Builtin.clear_ x0 x1 x2) := by
  intros
  unfold Go.Builtin.clear_
  repeat' first
    | infer_instance
    | refine Gd.bind ?_ fun _ => ?_
    | refine Gd.map _ ?_
    | refine Gd.mapM_arr (fun _ => ?_) _
    | refine Gd.mapM_list (fun _ => ?_) _
    | refine Gd.foldlM_list (fun _ _ => ?_) _ _
    | refine Gd.forIn_arr (fun _ _ => ?_) _ _
    | refine Gd.forIn_range (fun _ _ => ?_) _ _
    | intro _
    | split
    | dsimp only [Function.comp]

set_option maxHeartbeats 1000000 in
instance gd_Builtin_close_ : ∀ x0 x1 x2, Gd P (Go.Builtin.close_ x0 x1 x2) := by
  intro x0 x1 x2
  obtain ⟨l⟩ := x2
  rcases l with _ | ⟨a, _ | ⟨z, l⟩⟩
  case cons.nil =>
    cases a
    case chan a0 =>
      all_goals cases a0
      all_goals unfold Go.Builtin.close_
      all_goals conv => arg 2; whnf
      all_goals (repeat' first
          | infer_instance
          | refine Gd.wchoose fun _ => ?_
          | refine Gd.wget fun _ => ?_
          | refine Gd.wset ?_
          | refine Gd.wnew fun _ => ?_
          | refine Gd.wshape fun _ => ?_
          | refine Gd.wprogram ?_
          | refine Gd.wdec (fun _ => ?_) (fun _ => ?_) _
          | refine Gd.bind ?_ fun _ => ?_
          | refine Gd.sbind ?_ fun _ => ?_
          | refine Gd.map _ ?_
          | intro _
          | split
          | dsimp only [Function.comp])
    all_goals exact gd_dead _
  all_goals exact gd_dead _

set_option maxHeartbeats 1000000 in
instance gd_Builtin_complex_ : ∀ x0 x1 x2, Gd P (Go.Builtin.complex_ x0 x1 x2) := by
  intro x0 x1 x2
  obtain ⟨l⟩ := x2
  rcases l with _ | ⟨a, _ | ⟨b, _ | ⟨z, l⟩⟩⟩
  case cons.cons.nil =>
    cases a
    case float a0 a1 =>
      cases b
      case float b0 b1 =>
        all_goals unfold Go.Builtin.complex_
        all_goals conv => arg 2; whnf
        all_goals (repeat' first
            | infer_instance
            | refine Gd.wchoose fun _ => ?_
            | refine Gd.wget fun _ => ?_
            | refine Gd.wset ?_
            | refine Gd.wnew fun _ => ?_
            | refine Gd.wshape fun _ => ?_
            | refine Gd.wprogram ?_
            | refine Gd.wdec (fun _ => ?_) (fun _ => ?_) _
            | refine Gd.bind ?_ fun _ => ?_
            | refine Gd.sbind ?_ fun _ => ?_
            | refine Gd.map _ ?_
            | intro _
            | split
            | dsimp only [Function.comp])
      all_goals exact gd_dead _
    all_goals exact gd_dead _
  all_goals exact gd_dead _

instance gd_Builtin_copy_ : ∀ x0 x1 x2, Gd P (Go.Builtin.copy_ x0 x1 x2) := by
  intros
  unfold Go.Builtin.copy_
  repeat' first
    | infer_instance
    | refine Gd.bind ?_ fun _ => ?_
    | refine Gd.map _ ?_
    | refine Gd.mapM_arr (fun _ => ?_) _
    | refine Gd.mapM_list (fun _ => ?_) _
    | refine Gd.foldlM_list (fun _ _ => ?_) _ _
    | refine Gd.forIn_arr (fun _ _ => ?_) _ _
    | refine Gd.forIn_range (fun _ _ => ?_) _ _
    | intro _
    | split
    | dsimp only [Function.comp]

instance gd_Builtin_delete_ : ∀ x0 x1 x2, Gd P (Go.Builtin.delete_ x0 x1 x2) := by
  intros
  unfold Go.Builtin.delete_
  repeat' first
    | infer_instance
    | refine Gd.bind ?_ fun _ => ?_
    | refine Gd.map _ ?_
    | refine Gd.mapM_arr (fun _ => ?_) _
    | refine Gd.mapM_list (fun _ => ?_) _
    | refine Gd.foldlM_list (fun _ _ => ?_) _ _
    | refine Gd.forIn_arr (fun _ _ => ?_) _ _
    | refine Gd.forIn_range (fun _ _ => ?_) _ _
    | intro _
    | split
    | dsimp only [Function.comp]

set_option maxHeartbeats 1000000 in
instance gd_Builtin_imag_ : ∀ x0 x1 x2, Gd P (Go.Builtin.imag_ x0 x1 x2) := by
  intro x0 x1 x2
  obtain ⟨l⟩ := x2
  rcases l with _ | ⟨a, _ | ⟨z, l⟩⟩
  case cons.nil =>
    cases a
    case complex a0 a1 a2 =>
      all_goals unfold Go.Builtin.imag_
      all_goals conv => arg 2; whnf
      all_goals (repeat' first
          | infer_instance
          | refine Gd.wchoose fun _ => ?_
          | refine Gd.wget fun _ => ?_
          | refine Gd.wset ?_
          | refine Gd.wnew fun _ => ?_
          | refine Gd.wshape fun _ => ?_
          | refine Gd.wprogram ?_
          | refine Gd.wdec (fun _ => ?_) (fun _ => ?_) _
          | refine Gd.bind ?_ fun _ => ?_
          | refine Gd.sbind ?_ fun _ => ?_
          | refine Gd.map _ ?_
          | intro _
          | split
          | dsimp only [Function.comp])
    all_goals exact gd_dead _
  all_goals exact gd_dead _

instance gd_Builtin_len_ : ∀ x0 x1 x2, Gd P (Go.Builtin.len_ x0 x1 x2) := by
  intros
  unfold Go.Builtin.len_
  repeat' first
    | infer_instance
    | refine Gd.bind ?_ fun _ => ?_
    | refine Gd.map _ ?_
    | refine Gd.mapM_arr (fun _ => ?_) _
    | refine Gd.mapM_list (fun _ => ?_) _
    | refine Gd.foldlM_list (fun _ _ => ?_) _ _
    | refine Gd.forIn_arr (fun _ _ => ?_) _ _
    | refine Gd.forIn_range (fun _ _ => ?_) _ _
    | intro _
    | split
    | dsimp only [Function.comp]

instance gd_Builtin_max2 : ∀ x0 x1, Gd P (Go.Builtin.max2 x0 x1) := by
  intros
  unfold Go.Builtin.max2
  repeat' first
    | infer_instance
    | refine Gd.bind ?_ fun _ => ?_
    | refine Gd.map _ ?_
    | refine Gd.mapM_arr (fun _ => ?_) _
    | refine Gd.mapM_list (fun _ => ?_) _
    | refine Gd.foldlM_list (fun _ _ => ?_) _ _
    | refine Gd.forIn_arr (fun _ _ => ?_) _ _
    | refine Gd.forIn_range (fun _ _ => ?_) _ _
    | intro _
    | split
    | dsimp only [Function.comp]

instance gd_Builtin_max_ : ∀ x0 x1 x2, Gd P (Go.Builtin.max_ x0 x1 x2) := by
  intros
  unfold Go.Builtin.max_
  repeat' first
    | infer_instance
    | refine Gd.bind ?_ fun _ => ?_
    | refine Gd.map _ ?_
    | refine Gd.mapM_arr (fun _ => ?_) _
    | refine Gd.mapM_list (fun _ => ?_) _
    | refine Gd.foldlM_list (fun _ _ => ?_) _ _
    | refine Gd.forIn_arr (fun _ _ => ?_) _ _
    | refine Gd.forIn_range (fun _ _ => ?_) _ _
    | intro _
    | split
    | dsimp only [Function.comp]

instance gd_Builtin_min2 : ∀ x0 x1, Gd P (Go.Builtin.min2 x0 x1) := by
  intros
  unfold Go.Builtin.min2
  repeat' first
    | infer_instance
    | refine Gd.bind ?_ fun _ => ?_
    | refine Gd.map _ ?_
    | refine Gd.mapM_arr (fun _ => ?_) _
    | refine Gd.mapM_list (fun _ => ?_) _
    | refine Gd.foldlM_list (fun _ _ => ?_) _ _
    | refine Gd.forIn_arr (fun _ _ => ?_) _ _
    | refine Gd.forIn_range (fun _ _ => ?_) _ _
    | intro _
    | split
    | dsimp only [Function.comp]

instance gd_Builtin_min_ : ∀ x0 x1 x2, Gd P (Go.Builtin.min_ x0 x1 x2) := by
  intros
  unfold Go.Builtin.min_
  repeat' first
    | infer_instance
    | refine Gd.bind ?_ fun _ => ?_
    | refine Gd.map _ ?_
    | refine Gd.mapM_arr (fun _ => ?_) _
    | refine Gd.mapM_list (fun _ => ?_) _
    | refine Gd.foldlM_list (fun _ _ => ?_) _ _
    | refine Gd.forIn_arr (fun _ _ => ?_) _ _
    | refine Gd.forIn_range (fun _ _ => ?_) _ _
    | intro _
    | split
    | dsimp only [Function.comp]

set_option maxHeartbeats 1000000 in
instance gd_Builtin_real_ : ∀ x0 x1 x2, Gd P (Go.Builtin.real_ x0 x1 x2) := by
  intro x0 x1 x2
  obtain ⟨l⟩ := x2
  rcases l with _ | ⟨a, _ | ⟨z, l⟩⟩
  case cons.nil =>
    cases a
    case complex a0 a1 a2 =>
      all_goals unfold Go.Builtin.real_
      all_goals conv => arg 2; whnf
      all_goals (repeat' first
          | infer_instance
          | refine Gd.wchoose fun _ => ?_
          | refine Gd.wget fun _ => ?_
          | refine Gd.wset ?_
          | refine Gd.wnew fun _ => ?_
          | refine Gd.wshape fun _ => ?_
          | refine Gd.wprogram ?_
          | refine Gd.wdec (fun _ => ?_) (fun _ => ?_) _
          | refine Gd.bind ?_ fun _ => ?_
          | refine Gd.sbind ?_ fun _ => ?_
          | refine Gd.map _ ?_
          | intro _
          | split
          | dsimp only [Function.comp])
    all_goals exact gd_dead _
  all_goals exact gd_dead _

set_option maxHeartbeats 1000000 in
instance gd_Builtin_unsafeAdd_ : ∀ x0 x1 x2, Gd P (Go.Builtin.unsafeAdd_ x0 x1 x2) := by
  intro x0 x1 x2
  obtain ⟨l⟩ := x2
  rcases l with _ | ⟨a, _ | ⟨b, _ | ⟨z, l⟩⟩⟩
  case cons.cons.nil =>
    cases a
    case pointer a0 =>
      all_goals unfold Go.Builtin.unsafeAdd_
      all_goals conv => arg 2; whnf
      all_goals (repeat' first
          | infer_instance
          | refine Gd.wchoose fun _ => ?_
          | refine Gd.wget fun _ => ?_
          | refine Gd.wset ?_
          | refine Gd.wnew fun _ => ?_
          | refine Gd.wshape fun _ => ?_
          | refine Gd.wprogram ?_
          | refine Gd.wdec (fun _ => ?_) (fun _ => ?_) _
          | refine Gd.bind ?_ fun _ => ?_
          | refine Gd.sbind ?_ fun _ => ?_
          | refine Gd.map _ ?_
          | intro _
          | split
          | dsimp only [Function.comp])
    all_goals exact gd_dead _
  all_goals exact gd_dead _

set_option maxHeartbeats 1000000 in
instance gd_Builtin_unsafeSlice_ : ∀ x0 x1 x2, Gd P (Go.Builtin.unsafeSlice_ x0 x1 x2) := by
  intro x0 x1 x2
  obtain ⟨l⟩ := x2
  rcases l with _ | ⟨a, _ | ⟨b, _ | ⟨z, l⟩⟩⟩
  case cons.cons.nil =>
    cases a
    case pointer a0 =>
      all_goals unfold Go.Builtin.unsafeSlice_
      all_goals conv => arg 2; whnf
      all_goals (repeat' first
          | infer_instance
          | refine Gd.wchoose fun _ => ?_
          | refine Gd.wget fun _ => ?_
          | refine Gd.wset ?_
          | refine Gd.wnew fun _ => ?_
          | refine Gd.wshape fun _ => ?_
          | refine Gd.wprogram ?_
          | refine Gd.wdec (fun _ => ?_) (fun _ => ?_) _
          | refine Gd.bind ?_ fun _ => ?_
          | refine Gd.sbind ?_ fun _ => ?_
          | refine Gd.map _ ?_
          | intro _
          | split
          | dsimp only [Function.comp])
    all_goals exact gd_dead _
  all_goals exact gd_dead _

set_option maxHeartbeats 1000000 in
instance gd_Builtin_unsafeSliceData_ : ∀ x0 x1 x2, Gd P (Go.Builtin.unsafeSliceData_ x0 x1 x2) := by
  intro x0 x1 x2
  obtain ⟨l⟩ := x2
  rcases l with _ | ⟨a, _ | ⟨z, l⟩⟩
  case cons.nil =>
    cases a
    case slice a0 a1 a2 =>
      all_goals cases a0
      all_goals unfold Go.Builtin.unsafeSliceData_
      all_goals conv => arg 2; whnf
      all_goals (repeat' first
          | infer_instance
          | refine Gd.wchoose fun _ => ?_
          | refine Gd.wget fun _ => ?_
          | refine Gd.wset ?_
          | refine Gd.wnew fun _ => ?_
          | refine Gd.wshape fun _ => ?_
          | refine Gd.wprogram ?_
          | refine Gd.wdec (fun _ => ?_) (fun _ => ?_) _
          | refine Gd.bind ?_ fun _ => ?_
          | refine Gd.sbind ?_ fun _ => ?_
          | refine Gd.map _ ?_
          | intro _
          | split
          | dsimp only [Function.comp])
    all_goals exact gd_dead _
  all_goals exact gd_dead _

set_option maxHeartbeats 1000000 in
instance gd_Builtin_unsafeString_ : ∀ x0 x1 x2, Gd P (Go.Builtin.unsafeString_ x0 x1 x2) := by
  intro x0 x1 x2
  obtain ⟨l⟩ := x2
  rcases l with _ | ⟨a, _ | ⟨b, _ | ⟨z, l⟩⟩⟩
  case cons.cons.nil =>
    cases a
    case pointer a0 =>
      all_goals unfold Go.Builtin.unsafeString_
      all_goals conv => arg 2; whnf
      all_goals (repeat' first
          | infer_instance
          | refine Gd.wchoose fun _ => ?_
          | refine Gd.wget fun _ => ?_
          | refine Gd.wset ?_
          | refine Gd.wnew fun _ => ?_
          | refine Gd.wshape fun _ => ?_
          | refine Gd.wprogram ?_
          | refine Gd.wdec (fun _ => ?_) (fun _ => ?_) _
          | refine Gd.bind ?_ fun _ => ?_
          | refine Gd.sbind ?_ fun _ => ?_
          | refine Gd.map _ ?_
          | intro _
          | split
          | dsimp only [Function.comp])
    all_goals exact gd_dead _
  all_goals exact gd_dead _

set_option maxHeartbeats 1000000 in
instance gd_Builtin_unsafeStringData_ : ∀ x0 x1 x2, Gd P (Go.Builtin.unsafeStringData_ x0 x1 x2) := by
  intro x0 x1 x2
  obtain ⟨l⟩ := x2
  rcases l with _ | ⟨a, _ | ⟨z, l⟩⟩
  case cons.nil =>
    cases a
    case string a0 =>
      all_goals unfold Go.Builtin.unsafeStringData_
      all_goals conv => arg 2; whnf
      all_goals (repeat' first
          | infer_instance
          | refine Gd.wchoose fun _ => ?_
          | refine Gd.wget fun _ => ?_
          | refine Gd.wset ?_
          | refine Gd.wnew fun _ => ?_
          | refine Gd.wshape fun _ => ?_
          | refine Gd.wprogram ?_
          | refine Gd.wdec (fun _ => ?_) (fun _ => ?_) _
          | refine Gd.bind ?_ fun _ => ?_
          | refine Gd.sbind ?_ fun _ => ?_
          | refine Gd.map _ ?_
          | intro _
          | split
          | dsimp only [Function.comp])
    all_goals exact gd_dead _
  all_goals exact gd_dead _

end Go.Proofs.Ytkhmooemgjichaa
