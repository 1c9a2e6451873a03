/-
  WALKS: a range over a function whose value may have arguments bound, and which may be called by any yield: what a round keeps is said by the types of the cells.
-/
import Derived.RangeFuncBox
import Derived.RangeFuncNested
import Derived.RangeFuncBound
import Derived.RangeFuncCalls
import Derived.RangeFuncLeaves
import Derived.Shelf.Abstract
import Derived.Shelf.RegionOpen
import Derived.WalkKit
import Derived.OwnWalkIn
import Derived.TacticsInMore
import Derived.LoopNIn
import Derived.LoopIn
import Derived.Maps.AppendAt
import Derived.BigQuiet
import Derived.Deep.QuietTactic
import Derived.Lib.Hide
import Derived.Test.YtepdlghobopdbaaGreatDoorRows
import Derived.Test.YtepdlghobopdbaaGreatDoorPa
namespace Go.Proofs.YtepdlghobopdbaaGreatDoor
open Go.RowKit

/-- What no round turns: cells that are neither moves nor a list of moves, and whatever is no cells from n₀ on. -/
def Fast (n₀ k : Nat) : Obj → Prop
  | .cells _ t _ => t ≠ 37 ∧ t ≠ 38
  | _ => n₀ ≤ k
structure Keep (n₀ : Nat) (A B : World) : Prop where
  size : A.heap.size ≤ B.heap.size
  same : ∀ (k : Nat) (o : Obj), A.heap[k]? = some o → Fast n₀ k o → B.heap[k]? = some o
theorem Keep.refl (n₀ : Nat) (A : World) : Keep n₀ A A := ⟨Nat.le_refl _, fun _ _ h _ => h⟩
theorem Keep.trans {n₀ : Nat} {A B C : World} (h : Keep n₀ A B) (k : Keep n₀ B C) : Keep n₀ A C := ⟨Nat.le_trans h.size k.size, fun i o ho hf => k.same i o (h.same i o ho hf) hf⟩
theorem Fast.mono {n₀ n₁ k : Nat} (h : n₀ ≤ n₁) {o : Obj} (hf : Fast n₁ k o) : Fast n₀ k o := by
  cases o <;> first | exact hf | exact Nat.le_trans h hf
theorem Keep.mono {n₀ n₁ : Nat} {A B : World} (h : Keep n₀ A B) (hn : n₀ ≤ n₁) : Keep n₁ A B := ⟨h.size, fun k o ho hf => h.same k o ho (hf.mono hn)⟩
theorem lt_of_heap {W : World} {k : Nat} {o : Obj} (h : W.heap[k]? = some o) : k < W.heap.size := (Array.getElem?_eq_some_iff.1 h).1
theorem Keep.below {n₀ : Nat} {A B : World} (h : Below A.heap.size A B) : Keep n₀ A B := ⟨h.size, fun k _ ho _ => (h.block k (lt_of_heap ho)).trans ho⟩
theorem Keep.put {n₀ : Nat} {A : World} {l : Nat} {o : Obj} (o' : Obj) (hl : l < n₀) (h : A.heap[l]? = some o) (hc : o.isCells = false) : Keep n₀ A (A.putObj l o') := by
  refine ⟨by simp, fun k q hq hf => ?_⟩
  by_cases e : k = l
  · subst e
    rw [h] at hq; cases hq
    cases o <;> first | (exact absurd hf (by unfold Fast; omega)) | cases hc
  · exact (World.putObj_heap_other e).trans hq
theorem Keep.boxed {n₀ : Nat} {A B : World} {b : Nat} {t : TypeId} {v : Value} (h : Boxed A b t v) (k : Keep n₀ A B) (h1 : t ≠ 37) (h2 : t ≠ 38) : Boxed B b t v := k.same _ _ h ⟨h1, h2⟩

/-- What a round keeps that is the last. -/
structure KeepO (n₀ : Nat) (A B : World) : Prop where
  size : A.heap.size ≤ B.heap.size
  same : ∀ (k : Nat) (o : Obj), n₀ ≤ k → A.heap[k]? = some o → o.isCells = false → B.heap[k]? = some o
theorem KeepO.trans {n₀ : Nat} {A B C : World} (h : KeepO n₀ A B) (k : KeepO n₀ B C) : KeepO n₀ A C := ⟨Nat.le_trans h.size k.size, fun i o hi ho hc => k.same i o hi (h.same i o hi ho hc) hc⟩
theorem KeepO.mono {n₀ n₁ : Nat} {A B : World} (h : KeepO n₀ A B) (hn : n₀ ≤ n₁) : KeepO n₁ A B := ⟨h.size, fun k o hk => h.same k o (Nat.le_trans hn hk)⟩
theorem Keep.o {n₀ : Nat} {A B : World} (h : Keep n₀ A B) : KeepO n₀ A B := ⟨h.size, fun k o hk ho hc => h.same k o ho (by cases o <;> first | exact hk | cases hc)⟩
theorem KeepO.refl (n₀ : Nat) (A : World) : KeepO n₀ A A := (Keep.refl n₀ A).o
theorem KeepO.setCell {n₀ : Nat} {A B : World} (h : KeepO n₀ A B) (a : Addr) (v : Value) : KeepO n₀ A (B.setCell a v) := by
  refine ⟨by simpa [World.setCell] using h.size, fun k o hk ho hc => ?_⟩
  have h1 := h.same k o hk ho hc
  show (B.heap.modify a.block _)[k]? = _
  rw [Array.getElem?_modify]
  split
  · rename_i e
    rw [h1]
    cases o <;> first | rfl | cases hc
  · exact h1
theorem KeepO.drew {n₀ : Nat} {A B : World} (h : KeepO n₀ A B) : KeepO n₀ A B.drew := ⟨h.size, h.same⟩

/-- What an iterator does between two rounds: new blocks, draws, turns of what is no cells from n₀ on. -/
structure Ext (n₀ : Nat) (A B : World) : Prop where
  below : Below n₀ A B
  cells : ∀ (k : Nat) (o : Obj), A.heap[k]? = some o → o.isCells = true → B.heap[k]? = some o
theorem Ext.refl (n₀ : Nat) (A : World) : Ext n₀ A A := ⟨Below.refl _ _, fun _ _ h _ => h⟩
theorem Ext.trans {n₀ : Nat} {A B C : World} (h : Ext n₀ A B) (k : Ext n₀ B C) : Ext n₀ A C := ⟨h.below.trans k.below, fun i o ho hc => k.cells i o (h.cells i o ho hc) hc⟩
theorem Ext.mono {n₀ n₁ : Nat} {A B : World} (h : Ext n₀ A B) (hn : n₁ ≤ n₀) : Ext n₁ A B := ⟨h.below.mono hn, h.cells⟩
theorem Ext.of_below {n₀ : Nat} {A B : World} (h : Below A.heap.size A B) (hn : n₀ ≤ A.heap.size) : Ext n₀ A B := ⟨h.mono hn, fun k _ ho _ => (h.block k (lt_of_heap ho)).trans ho⟩
theorem Ext.alloc {n₀ : Nat} {A B : World} (h : Ext n₀ A B) (hn : n₀ ≤ A.heap.size) (o : Obj) : Ext n₀ A (B.alloc o) :=
  h.trans (Ext.of_below ((Below.refl _ _).alloc (Nat.le_refl _) _) (Nat.le_trans hn h.below.size))
theorem below_put {B : Nat} {a w : World} (h : Below B a w) {b : Nat} (hb : B ≤ b) (o : Obj) : Below B a (w.putObj b o) :=
  ⟨h.os, h.tape, h.output, by simpa using h.size, fun k hk => (World.putObj_heap_other (by omega)).trans (h.block k hk)⟩
theorem Ext.put {n₀ : Nat} {A : World} {l : Nat} {o : Obj} (o' : Obj) (hl : n₀ ≤ l) (h : A.heap[l]? = some o) (hc : o.isCells = false) : Ext n₀ A (A.putObj l o') := by
  refine ⟨below_put (Below.refl _ _) hl _, fun k q hq hqc => ?_⟩
  by_cases e : k = l
  · subst e; rw [h] at hq; cases hq; rw [hc] at hqc; cases hqc
  · exact (World.putObj_heap_other e).trans hq
theorem Ext.boxed {n₀ : Nat} {A B : World} {b : Nat} {t : TypeId} {v : Value} (h : Boxed A b t v) (k : Ext n₀ A B) : Boxed B b t v := k.cells _ _ h rfl
theorem Ext.keep {n₀ : Nat} {A B : World} (h : Ext n₀ A B) (hs : ∀ (k : Nat) (o : Obj), n₀ ≤ k → A.heap[k]? = some o → o.isCells = false → B.heap[k]? = some o) : Keep n₀ A B := by
  refine ⟨h.below.size, fun k o ho hf => ?_⟩
  cases hc : o.isCells
  · rcases Nat.lt_or_ge k n₀ with hk | hk
    · exact (h.below.block k hk).trans ho
    · exact hs k o hk ho hc
  · exact h.cells k o ho hc

/-- It abides what an iterator does. -/
def Lasts (n₀ : Nat) (J : World → Prop) : Prop := ∀ A B, Ext n₀ A B → J A → J B
theorem Lasts.mono {n₀ n₁ : Nat} {J : World → Prop} (h : Lasts n₀ J) (hn : n₀ ≤ n₁) : Lasts n₁ J := fun A B e j => h A B (e.mono hn) j
theorem Lasts.and {n₀ : Nat} {J K : World → Prop} (h : Lasts n₀ J) (k : Lasts n₀ K) : Lasts n₀ (fun W => J W ∧ K W) := fun A B e j => ⟨h A B e j.1, k A B e j.2⟩
theorem lasts_boxed (n₀ b : Nat) (t : TypeId) (v : Value) : Lasts n₀ (fun W => Boxed W b t v) := fun _ _ e j => Ext.boxed j e
theorem lasts_below {n₀ m : Nat} (w : World) (h : m ≤ n₀) : Lasts n₀ (fun W => Below m w W) := fun _ _ e j => j.trans (e.below.mono h)
theorem lasts_size {n₀ m : Nat} : Lasts n₀ (fun W => m ≤ W.heap.size) := fun _ _ e j => Nat.le_trans j e.below.size
theorem lasts_pure (n₀ : Nat) (p : Prop) : Lasts n₀ (fun _ => p) := fun _ _ _ j => j

abbrev yieldV (l : Nat) : Value := .func (.yield l) #[] #[]
abbrev growV (B : Nat) : Value := .func (.func 78) #[] #[.pointer (some ⟨B, 0, none⟩)]
/-- A call of what an iterator is handed. -/
def YieldsTo (m : Nat) (y : Value) (args : Array Value) (W : World) (R : Ending → World → Prop) : Prop :=
  (∃ l, y = yieldV l ∧ YieldAt Fence.wide m Tryz.prog l args W R) ∨
  (∃ B, y = growV B ∧ CallsIn Fence.wide m Tryz.prog 78 (args ++ #[.pointer (some ⟨B, 0, none⟩)]) W R)
theorem YieldsTo.yield {m l : Nat} {args : Array Value} {W : World} {R : Ending → World → Prop} (h : YieldsTo m (yieldV l) args W R) : YieldAt Fence.wide m Tryz.prog l args W R := by
  rcases h with ⟨l', e, h⟩ | ⟨B, e, _⟩
  · injection e with e; injection e with e; subst e; exact h
  · injection e with e; cases e
theorem YieldsTo.grow {m B : Nat} {args : Array Value} {W : World} {R : Ending → World → Prop} (h : YieldsTo m (growV B) args W R) : CallsIn Fence.wide m Tryz.prog 78 (args ++ #[.pointer (some ⟨B, 0, none⟩)]) W R := by
  rcases h with ⟨l', e, _⟩ | ⟨B', e, h⟩
  · injection e with e; cases e
  · have : B' = B := by
      have := congrArg (fun v => match v with | .func _ _ c => c | _ => #[]) e
      simpa using this.symm
    subst this; exact h
theorem roundIn_any {m m' : Nat} {P : Program} {l : Nat} {f : FuncId} {tmps : Array Value} {assign body : Code} {w : World} {R : Ending → World → Prop}
    (h : RoundIn Fence.wide m P l f tmps assign body w R) : RoundIn Fence.wide m' P l f tmps assign body w R := ⟨h.1, fun c cs _ => h.2 c cs (room_wide _)⟩
theorem YieldsTo.any {m m' : Nat} {y : Value} {args : Array Value} {W : World} {R : Ending → World → Prop} (h : YieldsTo m y args W R) : YieldsTo m' y args W R := by
  rcases h with ⟨l, e, fn, tmps, assign, body, hy, hR⟩ | ⟨B, e, h⟩
  · exact .inl ⟨l, e, fn, tmps, assign, body, hy, roundIn_any hR⟩
  · exact .inr ⟨B, e, callsIn_wide.2 (callsIn_wide.1 h)⟩
theorem YieldsTo.mono {m : Nat} {y : Value} {args : Array Value} {W : World} {R R' : Ending → World → Prop} (h : YieldsTo m y args W R) (hr : ∀ e w, R e w → R' e w) : YieldsTo m y args W R' := by
  rcases h with ⟨l, e, fn, tmps, assign, body, hy, hR⟩ | ⟨B, e, h⟩
  · exact .inl ⟨l, e, fn, tmps, assign, body, hy, hR.mono hr⟩
  · exact .inr ⟨B, e, h.mono hr⟩
def anyY (y : Value) : Prop := (∃ l, y = yieldV l) ∨ (∃ B, y = growV B)
def loopY (y : Value) : Prop := ∃ l, y = yieldV l

/-- How a round ends. -/
def roundPost {α : Type} (n₀ : Nat) (W1 : World) (J : List α → World → Prop) (Jx : World → Prop) (nx : List α) : Ending → World → Prop :=
  fun e W' => (e = .returned (.bool true) ∧ J nx W' ∧ Keep n₀ W1 W') ∨ (e = .returned (.bool false) ∧ Jx W' ∧ KeepO n₀ W1 W')
def endPost {α : Type} (J : List α → World → Prop) (Jx : World → Prop) (L : List α) : Ending → World → Prop :=
  fun e W' => (∃ v, e = .returned v) ∧ (J L W' ∨ Jx W')

/-- AN ITERATOR's CONTRACT. -/
def Gives {α : Type} (n : Nat) (gf : Nat) (ba lb : Array Value) (enc : α → Array Value) (L : List α) (ok : Value → Prop) (Pre Inv : World → Prop) : Prop :=
  ∀ (y : Value) (J : List α → World → Prop) (Jx : World → Prop) (W : World), ok y → Pre W → (∀ pre W', J pre W' → Inv W') → (∀ pre, Lasts W.heap.size (J pre)) → Lasts W.heap.size Jx →
    (∀ pre x suf W1, L = pre ++ x :: suf → W.heap.size ≤ W1.heap.size → J pre W1 → YieldsTo (n - 1) y (enc x) W1 (roundPost W.heap.size W1 J Jx (pre ++ [x]))) → J [] W →
    CallsIn Fence.wide n Tryz.prog gf (ba ++ #[y] ++ lb) W (endPost J Jx L)

theorem Gives.any {α : Type} {n m : Nat} {gf : Nat} {ba lb : Array Value} {enc : α → Array Value} {L : List α} {ok : Value → Prop} {Pre Inv : World → Prop} (h : Gives n gf ba lb enc L ok Pre Inv) : Gives m gf ba lb enc L ok Pre Inv :=
  fun y J Jx W hy hp hi hJ hJx hY h0 => callsIn_wide.2 (callsIn_wide.1 (h y J Jx W hy hp hi hJ hJx (fun pre x suf W1 hL hs hj => (hY pre x suf W1 hL hs hj).any) h0))
theorem roundPost_mono {α : Type} {n₀ n₁ : Nat} {W1 : World} {J J' : List α → World → Prop} {Jx Jx' : World → Prop} {nx : List α} {nx' : List α} (hn : n₀ ≤ n₁) (h : ∀ W, Keep n₀ W1 W → J nx W → J' nx' W) (hx : ∀ W, KeepO n₀ W1 W → Jx W → Jx' W) (e : Ending) (W : World) (hp : roundPost n₀ W1 J Jx nx e W) : roundPost n₁ W1 J' Jx' nx' e W := by
  rcases hp with ⟨h1, h2, hk⟩ | ⟨h1, h2, hk⟩
  · exact .inl ⟨h1, h W hk h2, hk.mono hn⟩
  · exact .inr ⟨h1, hx W hk h2, hk.mono hn⟩

/-- How the body of a round is left. -/
def leftOwn (N : Nat) (W : World) (I Ix : World → Prop) : Exit → Act → World → Prop
  | .normal, _, W' => Keep N W W' ∧ I W'
  | .ret, _, W' => KeepO N W W' ∧ Ix W'
  | _, _, _ => False

theorem range_own {α : Type} {n : Nat} {g : Operand} {ps : Array Tmp} {assign body : Code} {Q : Exit → Act → World → Prop} {a : Act} {w : World} (h1 : 1 ≤ n) {gf : Nat} {ba lb : Array Value}
    (hg : a.eval g = .func (.func gf) ba lb) (eg : ∀ args w, (callFunc gf args).run Tryz.prog w = .ok (.enter gf args) w) {enc : α → Array Value} {L : List α} {ok : Value → Prop} {Pre Inv : World → Prop} (hps : ∀ x, (enc x).size = ps.size)
    (hseq : Gives (n - 1) gf ba lb enc L ok Pre Inv) (hok : ∀ l, ok (yieldV l)) (hpre : ∀ W1, Ext w.heap.size w W1 → Pre W1)
    (I : List α → World → Prop) (Ix : World → Prop) (hinv : ∀ pre W, I pre W → Inv W) (hI : ∀ pre, Lasts w.heap.size (I pre)) (hIx : Lasts w.heap.size Ix) (h0 : I [] w)
    (Ax : α → Act → World → Prop) (hAx : ∀ x a', Lasts w.heap.size (Ax x a'))
    (hassign : ∀ pre x suf W (K : Act → World → Prop), L = pre ++ x :: suf → I pre W → w.heap.size + 2 ≤ W.heap.size → (∀ a' W', Below W.heap.size W W' → Ax x a' W' → K a' W') →
      assign.wpIn (Fence.wide.inRound (w.heap.size + 1)) (n - 1 - 1) Tryz.prog (Exit.then K (fun _ _ _ => False)) { tmps := (ps.zip (enc x)).foldl (fun t (p, v) => t.setIfInBounds p v) a.tmps, defers := [] } W)
    (hbody : ∀ pre x suf a' W, L = pre ++ x :: suf → I pre W → w.heap.size + 2 ≤ W.heap.size → Ax x a' W → body.wpIn (Fence.wide.inRound (w.heap.size + 1)) (n - 1 - 1) Tryz.prog (leftOwn w.heap.size W (I (pre ++ [x])) Ix) a' W)
    (hdone : ∀ W, I L W → W.heap[w.heap.size]? = some (.deferred (some [])) → Q .normal { a with defers := { target := .collected w.heap.size, args := #[] } :: a.defers } W)
    (hstop : ∀ W, Ix W → W.heap[w.heap.size]? = some (.deferred (some [])) → Code.ret.wpIn Fence.wide n Tryz.prog Q { a with defers := { target := .collected w.heap.size, args := #[] } :: a.defers } W) :
    (Code.rangeFunc g ps assign body).wpIn Fence.wide n Tryz.prog Q a w := by
  refine wpIn_rangeFunc fun fn hfn => ?_
  rw [show Fence.wide.round = none from rfl]
  let rc : LoopState → Option Code → Loop := fun st pe => { state := st, pending := pe, fn := fn, tmps := a.tmps, params := ps, assign := assign, body := body, defers := w.heap.size }
  have hz : ((w.alloc (.deferred (some []))).alloc (.loop (rc .ready none))).heap.size = w.heap.size + 2 := by simp
  have hb : Below w.heap.size w ((w.alloc (.deferred (some []))).alloc (.loop (rc .ready none))) := ((Below.refl _ _).alloc (Nat.le_refl _) _).alloc (by simp) _
  have hl : ((w.alloc (.deferred (some []))).alloc (.loop (rc .ready none))).heap[w.heap.size + 1]? = some (.loop (rc .ready none)) := by
    have := World.alloc_heap_new (w.alloc (.deferred (some []))) (.loop (rc .ready none)); rwa [World.size_alloc] at this
  have hk : ((w.alloc (.deferred (some []))).alloc (.loop (rc .ready none))).heap[w.heap.size]? = some (.deferred (some [])) := (Below.heap_alloc _ _ _ (by simp)).trans (World.alloc_heap_new w _)
  have he := run_enterLoop_outer (P := Tryz.prog) (w := w) fn a.tmps ps assign body
  have hre : ({ state := .ready, pending := none, fn := fn, tmps := a.tmps, params := ps, assign := assign, body := body, defers := w.heap.size } : Loop) = rc .ready none := rfl
  rw [hre] at he
  obtain ⟨W1, hW1⟩ : ∃ W1, (w.alloc (.deferred (some []))).alloc (.loop (rc .ready none)) = W1 := ⟨_, rfl⟩
  rw [hW1] at hz hb hl hk he
  clear hW1
  have hE1 : Ext w.heap.size w W1 := Ext.of_below hb (Nat.le_refl _)
  refine ⟨w.heap.size + 1, _, W1, { target := .fn (.func gf) lb, args := ba ++ #[yieldV (w.heap.size + 1)] }, W1, gf, ba ++ #[yieldV (w.heap.size + 1)] ++ lb, W1, he, ?_, ?_, ?_, fun _ => h1, ?_⟩
  · simp only [resolve, hg]; simp [go_sem]
  · intro f' hf'; trivial
  · simp [invoke, go_sem, eg]
  -- the two blocks of the loop's own last
  have lastsOwn : ∀ (st : LoopState) (pe : Option Code), Lasts W1.heap.size (fun W => W.heap[w.heap.size + 1]? = some (.loop (rc st pe)) ∧ W.heap[w.heap.size]? = some (.deferred (some []))) := fun st pe A B e j =>
    ⟨(e.below.block _ (by omega)).trans j.1, (e.below.block _ (by omega)).trans j.2⟩
  refine (hseq (yieldV (w.heap.size + 1)) (fun pre W => I pre W ∧ W.heap[w.heap.size + 1]? = some (.loop (rc .ready none)) ∧ W.heap[w.heap.size]? = some (.deferred (some [])))
    (fun W => Ix W ∧ W.heap[w.heap.size + 1]? = some (.loop (rc .done (some .ret))) ∧ W.heap[w.heap.size]? = some (.deferred (some []))) W1 (hok _) (hpre _ hE1) (fun pre W' h => hinv pre W' h.1)
    (fun pre => ((hI pre).mono (by omega)).and (lastsOwn _ _)) ((hIx.mono (by omega)).and (lastsOwn _ _)) ?_ ⟨hI [] _ _ hE1 h0, hl, hk⟩).mono ?_
  · -- one round
    rintro pre x suf W hL hszW ⟨hiW, hlW, hkW⟩
    have hN : w.heap.size + 2 ≤ W.heap.size := lt_of_heap hlW
    refine .inl ⟨_, rfl, fn, _, assign, body, run_yield hlW (hps x), roundIn_of_wpIn hfn (hassign pre x suf W _ hL hiW hN fun a' Wa hba hax => ?_)⟩
    have hEa : Ext w.heap.size W Wa := Ext.of_below hba (by omega)
    have hia := hI pre _ _ hEa hiW
    have hlA := (hba.block _ (by omega)).trans hlW
    have hkA := (hba.block _ (by omega)).trans hkW
    have hNA : w.heap.size + 1 < Wa.heap.size := by have := hba.size; omega
    refine ⟨_, run_beginRound hlA rfl, ?_⟩
    have hEp : Ext w.heap.size Wa (Wa.putObj (w.heap.size + 1) (.loop (rc .busy none))) := Ext.put _ (by omega) hlA rfl
    have hl2 : (Wa.putObj (w.heap.size + 1) (.loop (rc .busy none))).heap[w.heap.size + 1]? = some (.loop (rc .busy none)) := World.putObj_heap_same hNA
    have hk2 : (Wa.putObj (w.heap.size + 1) (.loop (rc .busy none))).heap[w.heap.size]? = some (.deferred (some [])) := (World.putObj_heap_other (by omega)).trans hkA
    have hKp : Keep W1.heap.size W (Wa.putObj (w.heap.size + 1) (.loop (rc .busy none))) := (Keep.below hba).trans (Keep.put _ (by omega) hlA rfl)
    refine wpIn_mono (hbody pre x suf a' _ hL (hI pre _ _ hEp hia) (by simp; omega) (hAx x a' _ _ hEp hax)) fun e a3 W3 hp => ?_
    cases e with
    | normal =>
      obtain ⟨hb3, hi3⟩ := hp
      have hl3 := hb3.same _ _ hl2 (by show _ ≤ _; omega)
      have hk3 := hb3.same _ _ hk2 (by show _ ≤ _; omega)
      refine ⟨_, _, run_endRound none hl3, .inl ⟨rfl, ⟨hI _ _ _ (Ext.put _ (by omega) hl3 rfl) hi3, World.putObj_heap_same (lt_of_heap hl3), (World.putObj_heap_other (by omega)).trans hk3⟩, ?_⟩⟩
      exact (hKp.trans (hb3.mono (by omega))).trans (Keep.put _ (by omega) hl3 rfl)
    | ret =>
      obtain ⟨hb3, hi3⟩ := hp
      have hl3 := hb3.same _ _ (by omega) hl2 rfl
      have hk3 := hb3.same _ _ (Nat.le_refl _) hk2 rfl
      refine ⟨_, _, run_endRound (some .ret) hl3, .inr ⟨rfl, ⟨hIx _ _ (Ext.put _ (by omega) hl3 rfl) hi3, World.putObj_heap_same (lt_of_heap hl3), (World.putObj_heap_other (by omega)).trans hk3⟩, ?_⟩⟩
      exact (hKp.o.trans (hb3.mono (by omega))).trans (Keep.put _ (by omega) hl3 rfl).o
    | exit id => exact hp.elim
    | goto t => exact hp.elim
    | panic ch => exact hp.elim
    | outgrown => exact hp.elim
  · -- behind the iterator
    rintro e W2 ⟨⟨v, rfl⟩, (⟨hi2, hl2, hk2⟩ | ⟨hi2, hl2, hk2⟩)⟩
    · exact ⟨none, _, run_endLoop hl2 (by simp [rc]), hdone _ (hI _ _ _ (Ext.put _ (by omega) hl2 rfl) hi2) ((World.putObj_heap_other (by omega)).trans hk2)⟩
    · exact ⟨some .ret, _, run_endLoop hl2 (by simp [rc]), hstop _ (hIx _ _ (Ext.put _ (by omega) hl2 rfl) hi2) ((World.putObj_heap_other (by omega)).trans hk2)⟩
end Go.Proofs.YtepdlghobopdbaaGreatDoor
