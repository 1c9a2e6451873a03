/-
  WALKS, WITHOUT A PROGRAM: a range over a function whose iterator has cells of its own, which it turns between two rounds. (The library's law wants an iterator that turns nothing but walks' objects. Here the iterator may turn the cells of the first block that it lays; in return the loop's rounds must leave all that lay as it lay, but where they return.)
-/
import Derived.RangeFuncCalls
import Derived.RangeFuncNested
import Derived.RangeFuncBox
import Derived.WalkKit
namespace Go.Proofs.YtchkngabppmbkaaDoor
open Go.RowKit

/-- What lay and is cells lies as it lay. -/
def Ks (W W' : World) : Prop := W.heap.size ≤ W'.heap.size ∧ ∀ (b : Nat) (o : Obj), W.heap[b]? = some o → o.isCells = true → W'.heap[b]? = some o
theorem Ks.trans {A B C : World} (h : Ks A B) (k : Ks B C) : Ks A C := ⟨Nat.le_trans h.1 k.1, fun b o ho hc => k.2 b o (h.2 b o ho hc) hc⟩
theorem Ks.below {A B : World} (h : Below A.heap.size A B) : Ks A B := ⟨h.size, fun b _ ho _ => (h.block b (Array.getElem?_eq_some_iff.1 ho).1).trans ho⟩
theorem Ks.put {W : World} {l : Nat} {o : Obj} (o' : Obj) (h : W.heap[l]? = some o) (hc : o.isCells = false) : Ks W (W.putObj l o') := by
  refine ⟨by simp, fun b q hq hqc => ?_⟩
  by_cases e : b = l
  · subst e; rw [h] at hq; cases hq; rw [hc] at hqc; cases hqc
  · exact (World.putObj_heap_other e).trans hq
theorem Ks.boxed {W W' : World} {B : Nat} {t : TypeId} {v : Value} (h : Boxed W B t v) (k : Ks W W') : Boxed W' B t v := k.2 _ _ h rfl
theorem Ks.cell {W W' : World} {a : Addr} {v : Value} (h : W.cell? a = some v) (k : Ks W W') : W'.cell? a = some v := by
  obtain ⟨o, ho, hc⟩ := cells_of_cell h
  rw [World.cell?_of_block ((k.2 _ o ho hc).trans ho.symm)]; exact h

/-- J does not mind new blocks, nor a turn of the cells of block B. -/
structure Stay (B : Nat) (J : Nat → World → Prop) : Prop where
  lay : ∀ k W o, J k W → J k (W.alloc o)
  turn : ∀ k W j v, J k W → J k (W.setCell ⟨B, j, none⟩ v)

/-- How the body of a round is left: it goes on, and what lay lies as it lay; or it returns, and the two blocks of the loop's own lie as they lay. -/
def leftSo (N : Nat) (W : World) (I Ix : World → Prop) : Exit → Act → World → Prop
  | .normal, _, W' => Below W.heap.size W W' ∧ I W'
  | .ret, _, W' => W'.heap[N]? = W.heap[N]? ∧ W'.heap[N + 1]? = W.heap[N + 1]? ∧ Ix W'
  | _, _, _ => False

variable {P : Program} {F : Fence} {n : Nat}
theorem range_cell {g : Operand} {ps : Array Tmp} {assign body : Code} {Q : Exit → Act → World → Prop} {a : Act} {w : World} (hro : F.round = none) (h1 : 1 ≤ n) {gf : Nat} {lb : Array Value}
    (hg : a.eval g = .func (.func gf) #[] lb) (hFg : F.fn gf) (eg : ∀ args w, (callFunc gf args).run P w = .ok (.enter gf args) w) {encs : Nat → Array Value} {M : Nat} (hps : ∀ k, (encs k).size = ps.size)
    (hseq : ∀ (W1 : World) (J Jx : Nat → World → Prop), Below w.heap.size w W1 → W1.heap.size = w.heap.size + 2 → Stay (w.heap.size + 2) J →
      (∀ k W, k ≤ M → J k W → YieldAt F (n - 1 - 1) P (w.heap.size + 1) (encs k) W fun e W' => (e = .returned (.bool true) ∧ J (k + 1) W' ∧ Ks W W') ∨ (e = .returned (.bool false) ∧ Jx k W')) → J 0 W1 →
      CallsIn F (n - 1) P gf (#[.func (.yield (w.heap.size + 1)) #[] #[]] ++ lb) W1 fun e W' => (∃ v, e = .returned v) ∧ (J (M + 1) W' ∨ ∃ k, k ≤ M ∧ Jx k W'))
    (I Ix : Nat → World → Prop) (hI : Stay (w.heap.size + 2) I) (hIp : ∀ k W b o, w.heap.size ≤ b → I k W → I k (W.putObj b o)) (hIxp : ∀ k W b o, w.heap.size ≤ b → Ix k W → Ix k (W.putObj b o)) (h0 : I 0 w)
    (Ax : Nat → Act → World → Prop) (hAx : ∀ k a' W o, Ax k a' W → Ax k a' (W.putObj (w.heap.size + 1) o))
    (hassign : ∀ k W (K : Act → World → Prop), k ≤ M → I k W → w.heap.size + 2 ≤ W.heap.size → (∀ a' W', Below W.heap.size W W' → I k W' → Ax k a' W' → K a' W') →
      assign.wpIn (F.inRound (w.heap.size + 1)) (n - 1 - 1) P (Exit.then K (fun _ _ _ => False)) { tmps := (ps.zip (encs k)).foldl (fun t (p, v) => t.setIfInBounds p v) a.tmps, defers := [] } W)
    (hbody : ∀ k a' W, k ≤ M → I k W → w.heap.size + 2 ≤ W.heap.size → Ax k a' W → body.wpIn (F.inRound (w.heap.size + 1)) (n - 1 - 1) P (leftSo w.heap.size W (I (k + 1)) (Ix k)) a' W)
    (hdone : ∀ W, I (M + 1) W → W.heap[w.heap.size]? = some (.deferred (some [])) → Q .normal { a with defers := { target := .collected w.heap.size, args := #[] } :: a.defers } W)
    (hstop : ∀ k W, k ≤ M → Ix k W → W.heap[w.heap.size]? = some (.deferred (some [])) → Code.ret.wpIn F n P Q { a with defers := { target := .collected w.heap.size, args := #[] } :: a.defers } W) :
    (Code.rangeFunc g ps assign body).wpIn F n P Q a w := by
  refine wpIn_rangeFunc fun fn hfn => ?_
  rw [hro]
  let rc : LoopState → Option Code → Loop := fun st pe => { state := st, pending := pe, fn := fn, tmps := a.tmps, params := ps, assign := assign, body := body, defers := w.heap.size }
  have hz : ((w.alloc (.deferred (some []))).alloc (.loop (rc .ready none))).heap.size = w.heap.size + 2 := by simp
  have hb : Below w.heap.size w ((w.alloc (.deferred (some []))).alloc (.loop (rc .ready none))) := ((Below.refl _ _).alloc (Nat.le_refl _) _).alloc (by simp) _
  have hl : ((w.alloc (.deferred (some []))).alloc (.loop (rc .ready none))).heap[w.heap.size + 1]? = some (.loop (rc .ready none)) := by
    have := World.alloc_heap_new (w.alloc (.deferred (some []))) (.loop (rc .ready none)); rwa [World.size_alloc] at this
  have hk : ((w.alloc (.deferred (some []))).alloc (.loop (rc .ready none))).heap[w.heap.size]? = some (.deferred (some [])) := (Below.heap_alloc _ _ _ (by simp)).trans (World.alloc_heap_new w _)
  have hi : I 0 ((w.alloc (.deferred (some []))).alloc (.loop (rc .ready none))) := hI.lay _ _ _ (hI.lay _ _ _ h0)
  have he := run_enterLoop_outer (P := P) (w := w) fn a.tmps ps assign body
  have hre : ({ state := .ready, pending := none, fn := fn, tmps := a.tmps, params := ps, assign := assign, body := body, defers := w.heap.size } : Loop) = rc .ready none := rfl
  rw [hre] at he
  obtain ⟨W1, hW1⟩ : ∃ W1, (w.alloc (.deferred (some []))).alloc (.loop (rc .ready none)) = W1 := ⟨_, rfl⟩
  rw [hW1] at hz hb hl hk hi he
  clear hW1
  refine ⟨w.heap.size + 1, _, W1, { target := .fn (.func gf) lb, args := #[.func (.yield (w.heap.size + 1)) #[] #[]] }, W1, gf, #[.func (.yield (w.heap.size + 1)) #[] #[]] ++ lb, W1, he, ?_, ?_, ?_, fun _ => h1, ?_⟩
  · simp only [resolve, hg]; simp [go_sem]
  · intro f' hf'; simp [Target.leads] at hf'; subst hf'; exact hFg
  · simp [invoke, go_sem, eg]
  -- the two blocks of the loop's own lie apart from the iterator's
  have stay : ∀ (st : LoopState) (pe : Option Code) (A : World) (j : Nat) (v : Value), A.heap[w.heap.size + 1]? = some (.loop (rc st pe)) → A.heap[w.heap.size]? = some (.deferred (some [])) →
      (A.setCell ⟨w.heap.size + 2, j, none⟩ v).heap[w.heap.size + 1]? = some (.loop (rc st pe)) ∧ (A.setCell ⟨w.heap.size + 2, j, none⟩ v).heap[w.heap.size]? = some (.deferred (some [])) := fun st pe A j v hA hD =>
    ⟨(Below.heap_setCell A ⟨w.heap.size + 2, j, none⟩ v _ (by simp)).trans hA, (Below.heap_setCell A ⟨w.heap.size + 2, j, none⟩ v _ (by simp)).trans hD⟩
  have lays : ∀ (st : LoopState) (pe : Option Code) (A : World) (o : Obj), A.heap[w.heap.size + 1]? = some (.loop (rc st pe)) → A.heap[w.heap.size]? = some (.deferred (some [])) →
      (A.alloc o).heap[w.heap.size + 1]? = some (.loop (rc st pe)) ∧ (A.alloc o).heap[w.heap.size]? = some (.deferred (some [])) := fun st pe A o hA hD =>
    ⟨(Below.heap_alloc A o _ (Array.getElem?_eq_some_iff.1 hA).1).trans hA, (Below.heap_alloc A o _ (Array.getElem?_eq_some_iff.1 hD).1).trans hD⟩
  refine (hseq W1 (fun k W => I k W ∧ W.heap[w.heap.size + 1]? = some (.loop (rc .ready none)) ∧ W.heap[w.heap.size]? = some (.deferred (some [])))
    (fun k W => Ix k W ∧ W.heap[w.heap.size + 1]? = some (.loop (rc .done (some .ret))) ∧ W.heap[w.heap.size]? = some (.deferred (some []))) hb hz
    ⟨fun k W o h => ⟨hI.lay k W o h.1, lays _ _ W o h.2.1 h.2.2⟩, fun k W j v h => ⟨hI.turn k W j v h.1, stay _ _ W j v h.2.1 h.2.2⟩⟩ ?_ ⟨hi, hl, hk⟩).mono ?_
  · -- one round
    rintro k W hkM ⟨hiW, hlW, hkW⟩
    have hN : w.heap.size + 2 ≤ W.heap.size := (Array.getElem?_eq_some_iff.1 hlW).1
    refine ⟨fn, _, assign, body, run_yield hlW (hps k), roundIn_of_wpIn hfn (hassign k W _ hkM hiW hN fun a' Wa hba hia hax => ?_)⟩
    have hlA := (hba.block _ (by omega)).trans hlW
    have hkA := (hba.block _ (by omega)).trans hkW
    have hNA : w.heap.size + 1 < Wa.heap.size := by have := hba.size; omega
    refine ⟨_, run_beginRound hlA rfl, ?_⟩
    have hl2 : (Wa.putObj (w.heap.size + 1) (.loop (rc .busy none))).heap[w.heap.size + 1]? = some (.loop (rc .busy none)) := World.putObj_heap_same hNA
    have hk2 : (Wa.putObj (w.heap.size + 1) (.loop (rc .busy none))).heap[w.heap.size]? = some (.deferred (some [])) := (World.putObj_heap_other (by omega)).trans hkA
    refine wpIn_mono (hbody k a' _ hkM (hIp k Wa _ _ (by omega) hia) (by simp; omega) (hAx k a' Wa _ hax)) fun e a3 W3 hp => ?_
    cases e with
    | normal =>
      obtain ⟨hb3, hi3⟩ := hp
      have hl3 := (hb3.block _ (Array.getElem?_eq_some_iff.1 hl2).1).trans hl2
      have hk3 := (hb3.block _ (Array.getElem?_eq_some_iff.1 hk2).1).trans hk2
      refine ⟨_, _, run_endRound none hl3, .inl ⟨rfl, ⟨hIp _ _ _ _ (by omega) hi3, World.putObj_heap_same (Array.getElem?_eq_some_iff.1 hl3).1, (World.putObj_heap_other (by omega)).trans hk3⟩, ?_⟩⟩
      exact (((Ks.below hba).trans (Ks.put _ hlA rfl)).trans (Ks.below hb3)).trans (Ks.put _ hl3 rfl)
    | ret =>
      obtain ⟨hd3, hb3, hi3⟩ := hp
      have hl3 := hb3.trans hl2
      have hk3 := hd3.trans hk2
      exact ⟨_, _, run_endRound (some .ret) hl3, .inr ⟨rfl, hIxp _ _ _ _ (by omega) hi3, World.putObj_heap_same (Array.getElem?_eq_some_iff.1 hl3).1, (World.putObj_heap_other (by omega)).trans hk3⟩⟩
    | exit id => exact hp.elim
    | goto t => exact hp.elim
    | panic ch => exact hp.elim
    | outgrown => exact hp.elim
  · -- behind the iterator
    rintro e W2 ⟨⟨v, rfl⟩, (⟨hi2, hl2, hk2⟩ | ⟨k, hkM, hi2, hl2, hk2⟩)⟩
    · exact ⟨none, _, run_endLoop hl2 (by simp [rc]), hdone _ (hIp _ _ _ _ (by omega) hi2) ((World.putObj_heap_other (by omega)).trans hk2)⟩
    · exact ⟨some .ret, _, run_endLoop hl2 (by simp [rc]), hstop k _ hkM (hIxp _ _ _ _ (by omega) hi2) ((World.putObj_heap_other (by omega)).trans hk2)⟩
end Go.Proofs.YtchkngabppmbkaaDoor
