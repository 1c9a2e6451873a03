/-
  WALKS, WITHOUT A PROGRAM: a range over a function whose iterator has cells of its own, which it turns between two rounds. (The library's law wants an iterator that turns nothing but walks' objects. Here the iterator may turn the cells of the first block that it lays; in return the loop's rounds must leave all that lay as it lay, but where they return.)
-/
import Derived.RangeFuncBox
import Derived.RangeFuncNested
import Derived.RangeFuncBound
import Derived.RangeFuncCalls
import Derived.RangeFuncLeaves
import Derived.Shelf.Abstract
import Derived.Shelf.RegionOpen
import Derived.WalkKit
import Derived.OwnWalkIn
import Derived.TacticsInMore
import Derived.LoopNIn
import Derived.LoopIn
import Derived.Maps.AppendAt
import Derived.Test.YtchkngabppmbkaaDoorLexH
import Derived.Test.YtchkngabppmbkaaDoorSpecS
import Derived.Test.YtchkngabppmbkaaDoorLexI
import Derived.Test.YtchkngabppmbkaaDoorLexN
namespace Go.Proofs.YtchkngabppmbkaaDoor
open Go.RowKit

/-- What lay and is cells lies as it lay. -/
def Ks (W W' : World) : Prop := W.heap.size ≤ W'.heap.size ∧ ∀ (b : Nat) (o : Obj), W.heap[b]? = some o → o.isCells = true → W'.heap[b]? = some o
theorem Ks.trans {A B C : World} (h : Ks A B) (k : Ks B C) : Ks A C := ⟨Nat.le_trans h.1 k.1, fun b o ho hc => k.2 b o (h.2 b o ho hc) hc⟩
theorem Ks.below {A B : World} (h : Below A.heap.size A B) : Ks A B := ⟨h.size, fun b _ ho _ => (h.block b (Array.getElem?_eq_some_iff.1 ho).1).trans ho⟩
theorem Ks.put {W : World} {l : Nat} {o : Obj} (o' : Obj) (h : W.heap[l]? = some o) (hc : o.isCells = false) : Ks W (W.putObj l o') := by
  refine ⟨by simp, fun b q hq hqc => ?_⟩
  by_cases e : b = l
  · subst e; rw [h] at hq; cases hq; rw [hc] at hqc; cases hqc
  · exact (World.putObj_heap_other e).trans hq
theorem Ks.boxed {W W' : World} {B : Nat} {t : TypeId} {v : Value} (h : Boxed W B t v) (k : Ks W W') : Boxed W' B t v := k.2 _ _ h rfl
theorem Ks.cell {W W' : World} {a : Addr} {v : Value} (h : W.cell? a = some v) (k : Ks W W') : W'.cell? a = some v := by
  obtain ⟨o, ho, hc⟩ := cells_of_cell h
  rw [World.cell?_of_block ((k.2 _ o ho hc).trans ho.symm)]; exact h

/-- J does not mind new blocks, nor a turn of the cells of block B. -/
structure Stay (B : Nat) (J : Nat → World → Prop) : Prop where
  lay : ∀ k W o, J k W → J k (W.alloc o)
  turn : ∀ k W j v, J k W → J k (W.setCell ⟨B, j, none⟩ v)

/-- How the body of a round is left: it goes on, and what lay lies as it lay; or it returns, and the two blocks of the loop's own lie as they lay. -/
def leftSo (N : Nat) (W : World) (I Ix : World → Prop) : Exit → Act → World → Prop
  | .normal, _, W' => Below W.heap.size W W' ∧ I W'
  | .ret, _, W' => W'.heap[N]? = W.heap[N]? ∧ W'.heap[N + 1]? = W.heap[N + 1]? ∧ Ix W'
  | _, _, _ => False

variable {P : Program} {F : Fence} {n : Nat}
theorem range_cell {g : Operand} {ps : Array Tmp} {assign body : Code} {Q : Exit → Act → World → Prop} {a : Act} {w : World} (hro : F.round = none) (h1 : 1 ≤ n) {gf : Nat} {lb : Array Value}
    (hg : a.eval g = .func (.func gf) #[] lb) (hFg : F.fn gf) (eg : ∀ args w, (callFunc gf args).run P w = .ok (.enter gf args) w) {encs : Nat → Array Value} {M : Nat} (hps : ∀ k, (encs k).size = ps.size)
    (hseq : ∀ (W1 : World) (J Jx : Nat → World → Prop), Below w.heap.size w W1 → W1.heap.size = w.heap.size + 2 → Stay (w.heap.size + 2) J →
      (∀ k W, k ≤ M → J k W → YieldAt F (n - 1 - 1) P (w.heap.size + 1) (encs k) W fun e W' => (e = .returned (.bool true) ∧ J (k + 1) W' ∧ Ks W W') ∨ (e = .returned (.bool false) ∧ Jx k W')) → J 0 W1 →
      CallsIn F (n - 1) P gf (#[.func (.yield (w.heap.size + 1)) #[] #[]] ++ lb) W1 fun e W' => (∃ v, e = .returned v) ∧ (J (M + 1) W' ∨ ∃ k, k ≤ M ∧ Jx k W'))
    (I Ix : Nat → World → Prop) (hI : Stay (w.heap.size + 2) I) (hIp : ∀ k W b o, w.heap.size ≤ b → I k W → I k (W.putObj b o)) (hIxp : ∀ k W b o, w.heap.size ≤ b → Ix k W → Ix k (W.putObj b o)) (h0 : I 0 w)
    (Ax : Nat → Act → World → Prop) (hAx : ∀ k a' W o, Ax k a' W → Ax k a' (W.putObj (w.heap.size + 1) o))
    (hassign : ∀ k W (K : Act → World → Prop), k ≤ M → I k W → w.heap.size + 2 ≤ W.heap.size → (∀ a' W', Below W.heap.size W W' → I k W' → Ax k a' W' → K a' W') →
      assign.wpIn (F.inRound (w.heap.size + 1)) (n - 1 - 1) P (Exit.then K (fun _ _ _ => False)) { tmps := (ps.zip (encs k)).foldl (fun t (p, v) => t.setIfInBounds p v) a.tmps, defers := [] } W)
    (hbody : ∀ k a' W, k ≤ M → I k W → w.heap.size + 2 ≤ W.heap.size → Ax k a' W → body.wpIn (F.inRound (w.heap.size + 1)) (n - 1 - 1) P (leftSo w.heap.size W (I (k + 1)) (Ix k)) a' W)
    (hdone : ∀ W, I (M + 1) W → W.heap[w.heap.size]? = some (.deferred (some [])) → Q .normal { a with defers := { target := .collected w.heap.size, args := #[] } :: a.defers } W)
    (hstop : ∀ k W, k ≤ M → Ix k W → W.heap[w.heap.size]? = some (.deferred (some [])) → Code.ret.wpIn F n P Q { a with defers := { target := .collected w.heap.size, args := #[] } :: a.defers } W) :
    (Code.rangeFunc g ps assign body).wpIn F n P Q a w := by
  refine wpIn_rangeFunc fun fn hfn => ?_
  rw [hro]
  let rc : LoopState → Option Code → Loop := fun st pe => { state := st, pending := pe, fn := fn, tmps := a.tmps, params := ps, assign := assign, body := body, defers := w.heap.size }
  have hz : ((w.alloc (.deferred (some []))).alloc (.loop (rc .ready none))).heap.size = w.heap.size + 2 := by simp
  have hb : Below w.heap.size w ((w.alloc (.deferred (some []))).alloc (.loop (rc .ready none))) := ((Below.refl _ _).alloc (Nat.le_refl _) _).alloc (by simp) _
  have hl : ((w.alloc (.deferred (some []))).alloc (.loop (rc .ready none))).heap[w.heap.size + 1]? = some (.loop (rc .ready none)) := by
    have := World.alloc_heap_new (w.alloc (.deferred (some []))) (.loop (rc .ready none)); rwa [World.size_alloc] at this
  have hk : ((w.alloc (.deferred (some []))).alloc (.loop (rc .ready none))).heap[w.heap.size]? = some (.deferred (some [])) := (Below.heap_alloc _ _ _ (by simp)).trans (World.alloc_heap_new w _)
  have hi : I 0 ((w.alloc (.deferred (some []))).alloc (.loop (rc .ready none))) := hI.lay _ _ _ (hI.lay _ _ _ h0)
  have he := run_enterLoop_outer (P := P) (w := w) fn a.tmps ps assign body
  have hre : ({ state := .ready, pending := none, fn := fn, tmps := a.tmps, params := ps, assign := assign, body := body, defers := w.heap.size } : Loop) = rc .ready none := rfl
  rw [hre] at he
  obtain ⟨W1, hW1⟩ : ∃ W1, (w.alloc (.deferred (some []))).alloc (.loop (rc .ready none)) = W1 := ⟨_, rfl⟩
  rw [hW1] at hz hb hl hk hi he
  clear hW1
  refine ⟨w.heap.size + 1, _, W1, { target := .fn (.func gf) lb, args := #[.func (.yield (w.heap.size + 1)) #[] #[]] }, W1, gf, #[.func (.yield (w.heap.size + 1)) #[] #[]] ++ lb, W1, he, ?_, ?_, ?_, fun _ => h1, ?_⟩
  · simp only [resolve, hg]; simp [go_sem]
  · intro f' hf'; simp [Target.leads] at hf'; subst hf'; exact hFg
  · simp [invoke, go_sem, eg]
  -- the two blocks of the loop's own lie apart from the iterator's
  have stay : ∀ (st : LoopState) (pe : Option Code) (A : World) (j : Nat) (v : Value), A.heap[w.heap.size + 1]? = some (.loop (rc st pe)) → A.heap[w.heap.size]? = some (.deferred (some [])) →
      (A.setCell ⟨w.heap.size + 2, j, none⟩ v).heap[w.heap.size + 1]? = some (.loop (rc st pe)) ∧ (A.setCell ⟨w.heap.size + 2, j, none⟩ v).heap[w.heap.size]? = some (.deferred (some [])) := fun st pe A j v hA hD =>
    ⟨(Below.heap_setCell A ⟨w.heap.size + 2, j, none⟩ v _ (by simp)).trans hA, (Below.heap_setCell A ⟨w.heap.size + 2, j, none⟩ v _ (by simp)).trans hD⟩
  have lays : ∀ (st : LoopState) (pe : Option Code) (A : World) (o : Obj), A.heap[w.heap.size + 1]? = some (.loop (rc st pe)) → A.heap[w.heap.size]? = some (.deferred (some [])) →
      (A.alloc o).heap[w.heap.size + 1]? = some (.loop (rc st pe)) ∧ (A.alloc o).heap[w.heap.size]? = some (.deferred (some [])) := fun st pe A o hA hD =>
    ⟨(Below.heap_alloc A o _ (Array.getElem?_eq_some_iff.1 hA).1).trans hA, (Below.heap_alloc A o _ (Array.getElem?_eq_some_iff.1 hD).1).trans hD⟩
  refine (hseq W1 (fun k W => I k W ∧ W.heap[w.heap.size + 1]? = some (.loop (rc .ready none)) ∧ W.heap[w.heap.size]? = some (.deferred (some [])))
    (fun k W => Ix k W ∧ W.heap[w.heap.size + 1]? = some (.loop (rc .done (some .ret))) ∧ W.heap[w.heap.size]? = some (.deferred (some []))) hb hz
    ⟨fun k W o h => ⟨hI.lay k W o h.1, lays _ _ W o h.2.1 h.2.2⟩, fun k W j v h => ⟨hI.turn k W j v h.1, stay _ _ W j v h.2.1 h.2.2⟩⟩ ?_ ⟨hi, hl, hk⟩).mono ?_
  · -- one round
    rintro k W hkM ⟨hiW, hlW, hkW⟩
    have hN : w.heap.size + 2 ≤ W.heap.size := (Array.getElem?_eq_some_iff.1 hlW).1
    refine ⟨fn, _, assign, body, run_yield hlW (hps k), roundIn_of_wpIn hfn (hassign k W _ hkM hiW hN fun a' Wa hba hia hax => ?_)⟩
    have hlA := (hba.block _ (by omega)).trans hlW
    have hkA := (hba.block _ (by omega)).trans hkW
    have hNA : w.heap.size + 1 < Wa.heap.size := by have := hba.size; omega
    refine ⟨_, run_beginRound hlA rfl, ?_⟩
    have hl2 : (Wa.putObj (w.heap.size + 1) (.loop (rc .busy none))).heap[w.heap.size + 1]? = some (.loop (rc .busy none)) := World.putObj_heap_same hNA
    have hk2 : (Wa.putObj (w.heap.size + 1) (.loop (rc .busy none))).heap[w.heap.size]? = some (.deferred (some [])) := (World.putObj_heap_other (by omega)).trans hkA
    refine wpIn_mono (hbody k a' _ hkM (hIp k Wa _ _ (by omega) hia) (by simp; omega) (hAx k a' Wa _ hax)) fun e a3 W3 hp => ?_
    cases e with
    | normal =>
      obtain ⟨hb3, hi3⟩ := hp
      have hl3 := (hb3.block _ (Array.getElem?_eq_some_iff.1 hl2).1).trans hl2
      have hk3 := (hb3.block _ (Array.getElem?_eq_some_iff.1 hk2).1).trans hk2
      refine ⟨_, _, run_endRound none hl3, .inl ⟨rfl, ⟨hIp _ _ _ _ (by omega) hi3, World.putObj_heap_same (Array.getElem?_eq_some_iff.1 hl3).1, (World.putObj_heap_other (by omega)).trans hk3⟩, ?_⟩⟩
      exact (((Ks.below hba).trans (Ks.put _ hlA rfl)).trans (Ks.below hb3)).trans (Ks.put _ hl3 rfl)
    | ret =>
      obtain ⟨hd3, hb3, hi3⟩ := hp
      have hl3 := hb3.trans hl2
      have hk3 := hd3.trans hk2
      exact ⟨_, _, run_endRound (some .ret) hl3, .inr ⟨rfl, hIxp _ _ _ _ (by omega) hi3, World.putObj_heap_same (Array.getElem?_eq_some_iff.1 hl3).1, (World.putObj_heap_other (by omega)).trans hk3⟩⟩
    | exit id => exact hp.elim
    | goto t => exact hp.elim
    | panic ch => exact hp.elim
    | outgrown => exact hp.elim
  · -- behind the iterator
    rintro e W2 ⟨⟨v, rfl⟩, (⟨hi2, hl2, hk2⟩ | ⟨k, hkM, hi2, hl2, hk2⟩)⟩
    · exact ⟨none, _, run_endLoop hl2 (by simp [rc]), hdone _ (hIp _ _ _ _ (by omega) hi2) ((World.putObj_heap_other (by omega)).trans hk2)⟩
    · exact ⟨some .ret, _, run_endLoop hl2 (by simp [rc]), hstop k _ hkM (hIxp _ _ _ _ (by omega) hi2) ((World.putObj_heap_other (by omega)).trans hk2)⟩
end Go.Proofs.YtchkngabppmbkaaDoor

/-
  WALKS: the iterator over places, with their lines and columns.
-/
namespace Go.Proofs.YtchkngabppmbkaaDoor
open Go.RowKit Go.Shelf
attribute [local go_sem] Oper.semAt_some

def spotV (p : Nat × Nat) : Value := .agg #[.int .i64 (p.1 : Int), .int .i64 (p.2 : Int)]
def spotO (p : Nat × Nat) : Obj := .cells #[.int .i64 (p.1 : Int), .int .i64 (p.2 : Int)] 32 (0, 0)
def encSpot (s : ByteArray) (k : Nat) : Array Value := #[.int .i64 (k : Int), .agg #[.int .i64 ((Lx.spotAt s k).1 : Int), .int .i64 ((Lx.spotAt s k).2 : Int)]]
theorem pair_set {W : World} {b j : Nat} {u v x : Value} {t : TypeId} (h : W.heap[b]? = some (.cells #[u, v] t (0, 0))) : (W.setCell ⟨b, j, none⟩ x).heap[b]? = some (.cells (#[u, v].setIfInBounds j x) t (0, 0)) := by
  obtain ⟨hlt, hk⟩ := Array.getElem?_eq_some_iff.1 h
  show (W.heap.modify b _)[b]? = _
  rw [Array.getElem?_eq_getElem (by rw [Array.size_modify]; exact hlt), Array.getElem_modify_self, hk]
  rfl
theorem pair_set0 {W : World} {b : Nat} {u v x : Value} {t : TypeId} (h : W.heap[b]? = some (.cells #[u, v] t (0, 0))) : (W.setCell ⟨b, 0, none⟩ x).heap[b]? = some (.cells #[x, v] t (0, 0)) := pair_set h
theorem pair_set1 {W : World} {b : Nat} {u v x : Value} {t : TypeId} (h : W.heap[b]? = some (.cells #[u, v] t (0, 0))) : (W.setCell ⟨b, 1, none⟩ x).heap[b]? = some (.cells #[u, x] t (0, 0)) := pair_set h

set_option maxRecDepth 100000 in
set_option maxHeartbeats 4000000 in
theorem spots1 (n : Nat) (hn : 1 ≤ n) (l Bs : Nat) (s : ByteArray) (hs : s.size ≤ 281474976710656) (J Jx : Nat → World → Prop) (W : World) (hJ : Stay W.heap.size J)
    (hY : ∀ k W1, k ≤ s.size → J k W1 → YieldAt Fence.wide (n - 1) Tryd.prog l (encSpot s k) W1 fun e W' => (e = .returned (.bool true) ∧ J (k + 1) W' ∧ Ks W1 W') ∨ (e = .returned (.bool false) ∧ Jx k W'))
    (hBs : Boxed W Bs 9 (.string s)) (h0 : J 0 W) :
    CallsIn Fence.wide n Tryd.prog 86 #[.func (.yield l) #[] #[], .pointer (some ⟨Bs, 0, none⟩)] W fun e W' => (∃ v, e = .returned v) ∧ (J (s.size + 1) W' ∨ ∃ k, k ≤ s.size ∧ Jx k W') := by
  refine callsIn_of_wp Tryd.func86 rfl trivial ?_ rfl
  simp only [Tryd.ntmps86, List.size_toArray, List.length_cons, List.length_nil, Nat.reduceAdd, Nat.reduceSub, Array.replicate_succ, Array.replicate_zero, List.push_toArray, List.append_toArray, List.nil_append, List.cons_append]
  have HY := Lib.hid hY; clear hY
  have hlt0 := hBs.lt
  have hb1 : Boxed (W.alloc (.cells #[.int .i64 1, .int .i64 1] 32)) Bs 9 (.string s) := hBs.alloc _
  have hp1 : (W.alloc (.cells #[.int .i64 1, .int .i64 1] 32)).heap[W.heap.size]? = some (spotO (Lx.spotAt s 0)) := World.alloc_heap_new _ _
  have hj1 : J 0 (W.alloc (.cells #[.int .i64 1, .int .i64 1] 32)) := hJ.lay _ _ _ h0
  have HJ := Lib.hid hJ; clear hJ
  have hc1 := hb1.cell
  gi_wp2
  generalize W.alloc (.cells #[.int .i64 1, .int .i64 1] 32) = W1 at *
  have hj1 := Lib.hid hj1
  clear h0 hBs hc1
  gi_loopw [8] (fun i wr => ∃ (k : Nat), k ≤ s.size ∧ i = .int .i64 k ∧ Hid (J k wr) ∧ Hid (Boxed wr Bs 9 (.string s)) ∧ Hid (wr.heap[W.heap.size]? = some (spotO (Lx.spotAt s k)))) (fun i _ => s.size - (intOf i).toNat)
  case atStart => exact ⟨0, Nat.zero_le _, rfl, hj1.out, hb1, hp1⟩
  case round =>
    obtain ⟨k, hk, rfl, hjr, hbr, hpr⟩ := hrel
    clear hj1 hb1 hp1
    have hcs := hbr.out.cell
    have p0 : wr.cell? ⟨W.heap.size, 0, none⟩ = some (.int .i64 ((Lx.spotAt s k).1 : Int)) := by simp [World.cell?, hpr.out, spotO]
    have p1 : wr.cell? ⟨W.heap.size, 1, none⟩ = some (.int .i64 ((Lx.spotAt s k).2 : Int)) := by simp [World.cell?, hpr.out, spotO]
    obtain ⟨fn, tmps, assign, body, hy, hR⟩ := HY.out k wr hk hjr.out
    dsimp only [encSpot] at hy
    have HR := Lib.hid hR; clear hR
    have hle := Lx.spotAt_le s k
    by_cases hlt : k < s.size
    · have hd : decide ((k : Int) < (s.size : Int)) = true := decide_eq_true (by omega)
      have hst : Lx.spotAt s (k + 1) = if Lx.byteAt s k = 10 then ((Lx.spotAt s k).1 + 1, 1) else ((Lx.spotAt s k).1, (Lx.spotAt s k).2 + 1) := rfl
      have HST := Lib.hid hst; clear hst
      have hbyte := Lx.byteAt_eq s k hlt
      have HBY := Lib.hid hbyte; clear hbyte
      generalize hln : (Lx.spotAt s k).1 = ln at *
      generalize hcl : (Lx.spotAt s k).2 = cl at *
      have HPR : Hid (wr.heap[W.heap.size]? = some (.cells #[.int .i64 (ln : Int), .int .i64 (cl : Int)] 32 (0, 0))) := by have := hpr.out; rw [spotO, hln, hcl] at this; exact this
      clear hln hcl hpr
      gi_wp2
      refine HR.out.mono ?_
      rintro e W3 (⟨rfl, hJ3, hk3⟩ | ⟨rfl, hJx3⟩)
      · have b3 := Ks.boxed hbr.out hk3
        have t3 := hk3.2 _ _ HPR.out rfl
        have c3 := b3.cell
        have q0 : W3.cell? ⟨W.heap.size, 0, none⟩ = some (.int .i64 (ln : Int)) := by simp [World.cell?, t3]
        have q1 : W3.cell? ⟨W.heap.size, 1, none⟩ = some (.int .i64 (cl : Int)) := by simp [World.cell?, t3]
        have f0 : W3.frozen? ⟨W.heap.size, 0, none⟩ = false := by simp [World.frozen?, t3]
        have f1 : W3.frozen? ⟨W.heap.size, 1, none⟩ = false := by simp [World.frozen?, t3]
        have hne : Bs ≠ W.heap.size := by omega
        have u1 := pair_set1 (x := .int .i64 ((cl : Int) + 1)) t3
        have B3 := Lib.hid b3; have T3 := Lib.hid t3; have J3 := Lib.hid hJ3; have U1 := Lib.hid u1
        clear hJ3 hk3 t3 b3 u1
        by_cases h10 : Lx.byteAt s k = 10
        · have hbe : (((s[k].toNat : Nat) : Int) == 10) = true := by rw [← HBY.out, h10]; rfl
          have HS2 : Hid (Lx.spotAt s (k + 1) = (ln + 1, 1)) := by rw [Hid, HST.out, if_pos h10]
          clear h10
          have u2 := pair_set0 (x := .int .i64 ((ln : Int) + 1)) U1.out
          have u3 := pair_set1 (x := .int .i64 1) u2
          have U3 := Lib.hid u3
          clear u2 u3
          gi_wp2
          go_roundw
          case rel =>
            exact ⟨k + 1, by omega, by go_num, HJ.out.turn _ _ _ _ (HJ.out.turn _ _ _ _ (HJ.out.turn _ _ _ _ J3.out)), (Below.heap_setCell _ _ _ _ hne).trans ((Below.heap_setCell _ _ _ _ hne).trans ((Below.heap_setCell _ _ _ _ hne).trans B3.out)), by rw [Hid, HS2.out]; exact U3.out⟩
          case measure => simp [intOf]; omega
        · have hbe : (((s[k].toNat : Nat) : Int) == 10) = false := by
            rw [beq_eq_false_iff_ne]
            intro e
            rw [HBY.out] at h10
            exact h10 (UInt8.toNat_inj.1 (by have h : (10 : UInt8).toNat = 10 := rfl; rw [h]; omega))
          have HS2 : Hid (Lx.spotAt s (k + 1) = (ln, cl + 1)) := by rw [Hid, HST.out, if_neg h10]
          clear h10
          gi_wp2
          go_roundw
          case rel =>
            exact ⟨k + 1, by omega, by go_num, HJ.out.turn _ _ _ _ J3.out, (Below.heap_setCell _ _ _ _ hne).trans B3.out, by rw [Hid, HS2.out]; exact U1.out⟩
          case measure => simp [intOf]; omega
      · gi_wp2
        refine bodyPost_ret (results_none rfl _ _ _) rfl ?_
        exact ⟨⟨_, rfl⟩, .inr ⟨k, hk, hJx3⟩⟩
    · obtain rfl : k = s.size := by omega
      have hd : decide ((s.size : Int) < (s.size : Int)) = false := decide_eq_false (by omega)
      gi_wp2
      refine HR.out.mono ?_
      rintro e W3 (⟨rfl, hJ3, hk3⟩ | ⟨rfl, hJx3⟩)
      · gi_wp2
        go_end0
        exact ⟨⟨_, rfl⟩, .inl hJ3⟩
      · gi_wp2
        go_end0
        exact ⟨⟨_, rfl⟩, .inr ⟨_, Nat.le_refl _, hJx3⟩⟩
end Go.Proofs.YtchkngabppmbkaaDoor

/-
  WALKS: lex.Spot.
-/
namespace Go.Proofs.YtchkngabppmbkaaDoor
open Go.RowKit Go.Shelf
attribute [local go_sem] Oper.semAt_some

theorem below_put {B : Nat} {a w : World} (h : Below B a w) {b : Nat} (hb : B ≤ b) (o : Obj) : Below B a (w.putObj b o) :=
  ⟨h.os, h.tape, h.output, by simpa using h.size, fun k hk => (World.putObj_heap_other (by omega)).trans (h.block k hk)⟩

/-- Three blocks of a call's own, behind what lay. -/
def Tri (w : World) (o0 o1 o2 : Obj) (W : World) : Prop := Below w.heap.size w W ∧ W.heap[w.heap.size]? = some o0 ∧ W.heap[w.heap.size + 1]? = some o1 ∧ W.heap[w.heap.size + 1 + 1]? = some o2
theorem Tri.first {w : World} (o0 o1 o2 : Obj) : Tri w o0 o1 o2 (((w.alloc o0).alloc o1).alloc o2) := by
  have h1 := World.alloc_heap_new w o0
  have h2 := World.alloc_heap_new (w.alloc o0) o1
  have h3 := World.alloc_heap_new ((w.alloc o0).alloc o1) o2
  simp only [World.size_alloc] at h2 h3
  exact ⟨(((Below.refl _ _).alloc (Nat.le_refl _) _).alloc (by simp) _).alloc (by simp; omega) _, (Below.heap_alloc _ _ _ (by simp; omega)).trans ((Below.heap_alloc _ _ _ (by simp)).trans h1), (Below.heap_alloc _ _ _ (by simp)).trans h2, h3⟩
theorem Tri.size {w : World} {o0 o1 o2 : Obj} {W : World} (h : Tri w o0 o1 o2 W) : w.heap.size + 3 ≤ W.heap.size := (Array.getElem?_eq_some_iff.1 h.2.2.2).1
theorem Tri.next {w : World} {o0 o1 o2 : Obj} {W W' : World} (h : Tri w o0 o1 o2 W) (hB : Below W.heap.size W W') : Tri w o0 o1 o2 W' := by
  have hz := h.size
  exact ⟨h.1.trans (hB.mono (by omega)), (hB.block _ (by omega)).trans h.2.1, (hB.block _ (by omega)).trans h.2.2.1, (hB.block _ (by omega)).trans h.2.2.2⟩
theorem Tri.lay {w : World} {o0 o1 o2 : Obj} {W : World} (h : Tri w o0 o1 o2 W) (o : Obj) : Tri w o0 o1 o2 (W.alloc o) := h.next ((Below.refl _ _).alloc (Nat.le_refl _) _)
theorem Tri.turn {w : World} {o0 o1 o2 : Obj} {W : World} (h : Tri w o0 o1 o2 W) (B j : Nat) (v : Value) (hB : w.heap.size + 3 ≤ B) : Tri w o0 o1 o2 (W.setCell ⟨B, j, none⟩ v) :=
  ⟨h.1.setCell (p := ⟨B, j, none⟩) (by simp; omega) v, (Below.heap_setCell _ _ _ _ (by simp; omega)).trans h.2.1, (Below.heap_setCell _ _ _ _ (by simp; omega)).trans h.2.2.1, (Below.heap_setCell _ _ _ _ (by simp; omega)).trans h.2.2.2⟩
theorem Tri.put {w : World} {o0 o1 o2 : Obj} {W : World} (h : Tri w o0 o1 o2 W) (b : Nat) (o : Obj) (hb : w.heap.size + 3 ≤ b) : Tri w o0 o1 o2 (W.putObj b o) :=
  ⟨below_put h.1 (by omega) o, (World.putObj_heap_other (by omega)).trans h.2.1, (World.putObj_heap_other (by omega)).trans h.2.2.1, (World.putObj_heap_other (by omega)).trans h.2.2.2⟩
theorem one_set {W : World} {b : Nat} {u x : Value} {t : TypeId} (h : W.heap[b]? = some (.cells #[u] t (0, 0))) : (W.setCell ⟨b, 0, none⟩ x).heap[b]? = some (.cells #[x] t (0, 0)) := by
  obtain ⟨hlt, hk⟩ := Array.getElem?_eq_some_iff.1 h
  show (W.heap.modify b _)[b]? = _
  rw [Array.getElem?_eq_getElem (by rw [Array.size_modify]; exact hlt), Array.getElem_modify_self, hk]
  rfl
/-- The results' cells, turned: a pair and an error. -/
theorem Tri.fin2 {w : World} {o0 : Obj} {x y z : Value} {t t' : TypeId} {W : World} (h : Tri w o0 (.cells #[x, y] t (0, 0)) (.cells #[z] t' (0, 0)) W) (a b c : Value) :
    Tri w o0 (.cells #[a, b] t (0, 0)) (.cells #[c] t' (0, 0)) (((W.setCell ⟨w.heap.size + 1, 0, none⟩ a).setCell ⟨w.heap.size + 1, 1, none⟩ b).setCell ⟨w.heap.size + 1 + 1, 0, none⟩ c) := by
  refine ⟨((h.1.setCell (p := ⟨w.heap.size + 1, 0, none⟩) (by simp) a).setCell (p := ⟨w.heap.size + 1, 1, none⟩) (by simp) b).setCell (p := ⟨w.heap.size + 1 + 1, 0, none⟩) (by simp; omega) c, ?_, ?_, ?_⟩
  · exact (Below.heap_setCell _ _ _ _ (by simp; omega)).trans ((Below.heap_setCell _ _ _ _ (by simp)).trans ((Below.heap_setCell _ _ _ _ (by simp)).trans h.2.1))
  · exact (Below.heap_setCell _ _ _ _ (by simp)).trans (pair_set1 (pair_set0 h.2.2.1))
  · exact one_set ((Below.heap_setCell _ _ _ _ (by simp)).trans ((Below.heap_setCell _ _ _ _ (by simp)).trans h.2.2.2))
/-- The results' cells, turned: a number and an error. -/
theorem Tri.fin1 {w : World} {o0 : Obj} {x z : Value} {t t' : TypeId} {W : World} (h : Tri w o0 (.cells #[x] t (0, 0)) (.cells #[z] t' (0, 0)) W) (a c : Value) :
    Tri w o0 (.cells #[a] t (0, 0)) (.cells #[c] t' (0, 0)) ((W.setCell ⟨w.heap.size + 1, 0, none⟩ a).setCell ⟨w.heap.size + 1 + 1, 0, none⟩ c) := by
  refine ⟨(h.1.setCell (p := ⟨w.heap.size + 1, 0, none⟩) (by simp) a).setCell (p := ⟨w.heap.size + 1 + 1, 0, none⟩) (by simp; omega) c, ?_, ?_, ?_⟩
  · exact (Below.heap_setCell _ _ _ _ (by simp; omega)).trans ((Below.heap_setCell _ _ _ _ (by simp)).trans h.2.1)
  · exact (Below.heap_setCell _ _ _ _ (by simp)).trans (one_set h.2.2.1)
  · exact one_set ((Below.heap_setCell _ _ _ _ (by simp)).trans h.2.2.2)
theorem pair_cells {W : World} {b : Nat} {x y : Value} {t : TypeId} (h : W.heap[b]? = some (.cells #[x, y] t (0, 0))) : W.cell? ⟨b, 0, none⟩ = some x ∧ W.cell? ⟨b, 1, none⟩ = some y ∧ W.frozen? ⟨b, 0, none⟩ = false ∧ W.frozen? ⟨b, 1, none⟩ = false := by
  refine ⟨?_, ?_, ?_, ?_⟩ <;> simp [World.cell?, World.frozen?, h]
theorem one_cells {W : World} {b : Nat} {x : Value} {t : TypeId} (h : W.heap[b]? = some (.cells #[x] t (0, 0))) : W.cell? ⟨b, 0, none⟩ = some x ∧ W.frozen? ⟨b, 0, none⟩ = false := by
  refine ⟨?_, ?_⟩ <;> simp [World.cell?, World.frozen?, h]

set_option maxRecDepth 100000 in
set_option maxHeartbeats 1000000 in
theorem spots_in (n : Nat) (s : ByteArray) (w : World) :
    CallsIn Fence.wide n Tryd.prog 54 #[.string s] w fun e w' => e = .returned (.func (.func 86) #[] #[.pointer (some ⟨w.heap.size, 0, none⟩)]) ∧ w' = w.alloc (.cells #[.string s] 9) := by
  refine callsIn_of_wp Tryd.func54 rfl trivial ?_ rfl
  simp only [Tryd.ntmps54, List.size_toArray, List.length_cons, List.length_nil, Nat.reduceAdd, Nat.reduceSub, Array.replicate_succ, Array.replicate_zero, List.push_toArray, List.append_toArray, List.nil_append, List.cons_append]
  gi_wp2
  go_ret
  exact ⟨rfl, rfl⟩

def spotRes (q : (Nat × Nat) × Nat) : Value := .tuple #[.agg #[.int .i64 (q.1.1 : Int), .int .i64 (q.1.2 : Int)], .int .i64 (q.2 : Int)]

set_option maxRecDepth 100000 in
set_option maxHeartbeats 4000000 in
theorem spot_in (s : ByteArray) (p : Int) (hs : s.size ≤ 281474976710656) (w : World) :
    CallsIn Fence.wide 9 Tryd.prog 24 #[.string s, .int .i64 p] w fun e w' => e = .returned (spotRes (Lx.spotOf s p)) ∧ Below w.heap.size w w' := by
  have HT := Lib.hid (fun W => textError_any s W (by omega))
  refine callsIn_of_wp_marks Tryd.func24 rfl trivial ?_ rfl
  simp only [Tryd.ntmps24, List.size_toArray, List.length_cons, List.length_nil, Nat.reduceAdd, Nat.reduceSub, Array.replicate_succ, Array.replicate_zero, List.push_toArray, List.append_toArray, List.nil_append, List.cons_append]
  have t0 := Tri.first (w := w) (.cells #[.int .i64 p] 3) (.cells #[.int .i64 0, .int .i64 0] 32) (.cells #[.int .i64 0] 24)
  obtain ⟨r, hr⟩ : ∃ r, Lx.spotOf s p = r := ⟨_, rfl⟩
  rw [hr]
  unfold Lx.spotOf at hr
  have HSP := Lib.hid hr; clear hr
  by_cases h0 : (Lx.textErr s).2 ≠ 0
  · have HR : Hid (r = ((0, 0), (Lx.textErr s).2)) := by rw [Hid, ← HSP.out, if_pos h0]
    clear HSP
    generalize (Lx.textErr s).1 = q at *
    generalize (Lx.textErr s).2 = er at *
    have h0' : ((er : Int) != 0) = true := by rw [bne_iff_ne]; omega
    clear h0
    have HT0 := Lib.hid t0; clear t0
    gi_wp2_with (refine ⟨trivial, ?_⟩; gi_at_call 49; refine (callsIn_wide.2 (HT.out _)).mono ?_; rintro e w1 ⟨rfl, hB1⟩; have T1 := HT0.out.next hB1; obtain ⟨c1, c1', f1, f1'⟩ := pair_cells T1.2.2.1; obtain ⟨c2, f2⟩ := one_cells T1.2.2.2; have HT1 := Lib.hid T1; clear T1)
    have T2 := HT1.out.fin2 (.int .i64 0) (.int .i64 0) (.int .i64 (er : Int))
    obtain ⟨x0, x1, _, _⟩ := pair_cells T2.2.2.1
    obtain ⟨x2, _⟩ := one_cells T2.2.2.2
    exact ⟨spotRes r, by rw [HR.out]; simp [spotRes, results, Tryd.results24, go_sem, x0, x1, x2], rfl, T2.1⟩
  · have HS0 : Hid ((if 0 ≤ p ∧ p ≤ s.size then (Lx.spotAt s p.toNat, 0) else ((0, 0), 3)) = r) := by rw [Hid, ← HSP.out, if_neg h0]
    clear HSP
    obtain ⟨q, er, hT⟩ : ∃ q er, Lx.textErr s = (q, er) := ⟨_, _, rfl⟩
    rw [hT] at h0 HT
    obtain rfl : er = 0 := by simpa using h0
    clear h0 hT
    have HT0 := Lib.hid t0; clear t0
    gi_wp2_with (first
      | (refine ⟨trivial, ?_⟩; gi_at_call 49; refine (callsIn_wide.2 (HT.out _)).mono ?_; rintro e w1 ⟨rfl, hB1⟩; have T1 := HT0.out.next hB1)
      | (refine ⟨trivial, ?_⟩; gi_at_call 54; refine (spots_in _ _ _).mono ?_; rintro e w' ⟨rfl, rfl⟩))
    have bs := Boxed.new w1 9 (.string s)
    have T0 := T1.lay (.cells #[.string s] 9)
    have hz := T1.size
    have hz0 : (w1.alloc (.cells #[.string s] 9)).heap.size = w1.heap.size + 1 := by simp
    generalize w1.alloc (.cells #[.string s] 9) = W0 at *
    clear T1 hB1
    refine range_cell (F := Fence.wide) rfl (by omega) (gf := 86) (lb := #[.pointer (some ⟨w1.heap.size, 0, none⟩)]) rfl trivial (enters_of Tryd.func86 (by kernel_rfl) rfl) (encs := encSpot s) (M := s.size) (fun _ => rfl)
      (fun W1 J Jx hb hz1 hJ hY h0 => spots1 (9 - 1) (by omega) _ w1.heap.size s hs J Jx W1 (by rw [hz1]; exact hJ) hY (boxed_below bs hb) h0)
      (fun k W => Tri w (.cells #[.int .i64 p] 3 (0, 0)) (.cells #[.int .i64 0, .int .i64 0] 32 (0, 0)) (.cells #[.int .i64 0] 24 (0, 0)) W ∧ Hid (∀ j : Nat, j < k → (j : Int) ≠ p))
      (fun k W => Tri w (.cells #[.int .i64 p] 3 (0, 0)) (spotO (Lx.spotAt s k)) (.cells #[.int .i64 0] 24 (0, 0)) W ∧ Hid ((k : Int) = p))
      ⟨fun k W o h => ⟨h.1.lay o, h.2⟩, fun k W j v h => ⟨h.1.turn _ j v (by omega), h.2⟩⟩ (fun k W b o hb h => ⟨h.1.put b o (by omega), h.2⟩) (fun k W b o hb h => ⟨h.1.put b o (by omega), h.2⟩) ⟨T0, fun j hj => by omega⟩
      (fun k a' W => ∃ Bx, W0.heap.size + 2 ≤ Bx ∧ W.heap[Bx]? = some (spotO (Lx.spotAt s k)) ∧ a' = Act.mk #[Value.string s, Value.int .i64 p, undef, Value.pointer (some { block := w.heap.size, off := 0 }),
          Value.pointer (some { block := w.heap.size + 1, off := 0 }), Value.pointer (some { block := w.heap.size + 1 + 1, off := 0 }), Value.int IntKind.i64 ↑q, Value.int IntKind.i64 0,
          Value.int IntKind.i64 ↑k, Value.pointer (some { block := Bx, off := 0 }), Value.tuple #[Value.int IntKind.i64 ↑q, Value.int IntKind.i64 0], Value.string s,
          Value.tuple #[Value.int IntKind.i64 ↑q, Value.int IntKind.i64 0], Value.int IntKind.i64 ↑q, Value.int IntKind.i64 0, Value.int IntKind.i64 0, Value.bool false, undef, undef, Value.string s,
          Value.func (Fn.func 86) #[] #[Value.pointer (some { block := w1.heap.size, off := 0 })], Value.int IntKind.i64 ↑k, .agg #[.int .i64 ((Lx.spotAt s k).1 : Int), .int .i64 ((Lx.spotAt s k).2 : Int)],
          undef, undef, undef, undef, undef] [])
      (fun k a' W o h => by
        obtain ⟨Bx, h1, h2, h3⟩ := h
        exact ⟨Bx, h1, (World.putObj_heap_other (by omega)).trans h2, h3⟩) ?assign ?body ?done ?stop
    case assign =>
      rintro k W K hkM ⟨hT, hj⟩ hW hK
      dsimp only [encSpot]
      gi_wp2
      exact hK _ _ ((Below.refl _ _).alloc (Nat.le_refl _) _) ⟨hT.lay _, hj⟩ ⟨W.heap.size, hW, World.alloc_heap_new _ _, rfl⟩
    case body =>
      rintro k a' W hkM ⟨hT, hj⟩ hW ⟨Bx, hBx, hX, rfl⟩
      obtain ⟨c0, f0⟩ := one_cells hT.2.1
      obtain ⟨c1, c1', f1, f1'⟩ := pair_cells hT.2.2.1
      obtain ⟨c2, f2⟩ := one_cells hT.2.2.2
      obtain ⟨x0, x1, _, _⟩ := pair_cells (x := .int .i64 ((Lx.spotAt s k).1 : Int)) (y := .int .i64 ((Lx.spotAt s k).2 : Int)) hX
      have HTT := Lib.hid hT; clear hT
      by_cases hp : (k : Int) = p
      · have hbe : ((k : Int) == p) = true := by rw [beq_iff_eq]; exact hp
        have HP := Lib.hid hp; clear hp
        gi_wp2
        have T2 := HTT.out.fin2 (.int .i64 ((Lx.spotAt s k).1 : Int)) (.int .i64 ((Lx.spotAt s k).2 : Int)) (.int .i64 0)
        exact ⟨by rw [Below.heap_setCell _ _ _ _ (by simp; omega), Below.heap_setCell _ _ _ _ (by simp; omega), Below.heap_setCell _ _ _ _ (by simp; omega)], by rw [Below.heap_setCell _ _ _ _ (by simp; omega), Below.heap_setCell _ _ _ _ (by simp; omega), Below.heap_setCell _ _ _ _ (by simp; omega)], T2, HP.out⟩
      · have hbe : ((k : Int) == p) = false := by rw [beq_eq_false_iff_ne]; exact hp
        have HP := Lib.hid hp; clear hp
        gi_wp2
        exact ⟨Below.refl _ _, HTT.out, fun j hjk => by
          by_cases e : j = k
          · subst e; exact HP.out
          · exact hj.out j (by omega)⟩
    case done =>
      rintro W ⟨hT, hj⟩ hK
      have HR : Hid (r = ((0, 0), 3)) := by
        rw [Hid, ← HS0.out, if_neg]
        rintro ⟨h1, h2⟩
        exact hj.out p.toNat (by omega) (by omega)
      obtain ⟨c1, c1', f1, f1'⟩ := pair_cells hT.2.2.1
      obtain ⟨c2, f2⟩ := one_cells hT.2.2.2
      have HTT := Lib.hid hT; clear hT
      have HK := Lib.hid hK; clear hK
      gi_wp2
      have T2 := HTT.out.fin2 (.int .i64 0) (.int .i64 0) (.int .i64 3)
      have hK2 : (((W.setCell ⟨w.heap.size + 1, 0, none⟩ (.int .i64 0)).setCell ⟨w.heap.size + 1, 1, none⟩ (.int .i64 0)).setCell ⟨w.heap.size + 1 + 1, 0, none⟩ (.int .i64 3)).heap[W0.heap.size]? = some (.deferred (some [])) := by
        rw [Below.heap_setCell _ _ _ _ (by simp; omega), Below.heap_setCell _ _ _ _ (by simp; omega), Below.heap_setCell _ _ _ _ (by simp; omega)]; exact HK.out
      refine ⟨by simp, .inl ⟨_, _, rfl, run_takeDeferred hK2, ?_⟩⟩
      have T3 := T2.put W0.heap.size (.deferred none) (by omega)
      obtain ⟨x0, x1, _, _⟩ := pair_cells T3.2.2.1
      obtain ⟨x2, _⟩ := one_cells T3.2.2.2
      generalize World.putObj _ W0.heap.size (.deferred none) = WF at *
      exact ⟨spotRes r, by rw [HR.out]; simp [spotRes, results, Tryd.results24, go_sem, x0, x1, x2], rfl, T3.1⟩
    case stop =>
      rintro k W hkM ⟨hT, hp⟩ hK
      have HR : Hid (r = (Lx.spotAt s k, 0)) := by
        have := hp.out
        rw [Hid, ← HS0.out, if_pos (by omega)]
        rw [show p.toNat = k by omega]
      have HTT := Lib.hid hT; clear hT
      have HK := Lib.hid hK; clear hK
      gi_wp2
      refine ⟨by simp, .inl ⟨_, _, rfl, run_takeDeferred HK.out, ?_⟩⟩
      have T3 := HTT.out.put W0.heap.size (.deferred none) (by omega)
      obtain ⟨x0, x1, _, _⟩ := pair_cells (x := .int .i64 ((Lx.spotAt s k).1 : Int)) (y := .int .i64 ((Lx.spotAt s k).2 : Int)) T3.2.2.1
      obtain ⟨x2, _⟩ := one_cells T3.2.2.2
      generalize World.putObj _ W0.heap.size (.deferred none) = WF at *
      exact ⟨spotRes r, by rw [HR.out]; simp [spotRes, results, Tryd.results24, go_sem, x0, x1, x2], rfl, T3.1⟩

theorem spot_any (s : ByteArray) (p : Int) (hs : s.size ≤ 281474976710656) (w : World) :
    Calls Tryd.prog 24 #[.string s, .int .i64 p] w fun e w' => e = .returned (spotRes (Lx.spotOf s p)) ∧ Below w.heap.size w w' := callsIn_wide.1 (spot_in s p hs w)
end Go.Proofs.YtchkngabppmbkaaDoor

/-
  WALKS: lex.At; two spots compared.
-/
namespace Go.Proofs.YtchkngabppmbkaaDoor
open Go.RowKit Go.Shelf

def spEq (a b l c : Int) : Bool := decide (a = l ∧ b = c)
theorem spot_equal (w : World) (a b l c : Int) : (Op.equalIn 10000 32 (.agg #[.int .i64 a, .int .i64 b]) (.agg #[.int .i64 l, .int .i64 c])).run Tryd.prog w = .ok (spEq a b l c) w := by
  rw [run_equalIn_struct w 9999 32 _ _ (by kernel_rfl) (by kernel_rfl)]
  simp only [Program.fieldsOf, Tryd.underlying32]
  go_simp
  unfold spEq
  by_cases h1 : a = l
  · by_cases h2 : b = c <;> simp [h1, h2]
  · simp [h1]
theorem run_eql_sp (w : World) (a b l c : Int) : (binOp .eql 32 (.agg #[.int .i64 a, .int .i64 b]) (.agg #[.int .i64 l, .int .i64 c])).run Tryd.prog w = .ok (.bool (spEq a b l c)) w := by
  rw [run_eql_struct, spot_equal]; rfl
theorem run_neq_sp (w : World) (a b l c : Int) : (binOp .neq 32 (.agg #[.int .i64 a, .int .i64 b]) (.agg #[.int .i64 l, .int .i64 c])).run Tryd.prog w = .ok (.bool (!spEq a b l c)) w := by
  rw [run_neq_struct, spot_equal]; rfl
theorem spEq_is (s : ByteArray) (l c : Int) (k : Nat) : spEq (Lx.spotAt s k).1 (Lx.spotAt s k).2 l c = Lx.isSpot s l c k := rfl

def atRes (q : Nat × Nat) : Value := .tuple #[.int .i64 (q.1 : Int), .int .i64 (q.2 : Int)]

attribute [local go_sem] Oper.semAt_some
set_option maxRecDepth 100000 in
set_option maxHeartbeats 4000000 in
theorem at_in (s : ByteArray) (l c : Int) (hs : s.size ≤ 281474976710656) (w : World) :
    CallsIn Fence.wide 9 Tryd.prog 26 #[.string s, .agg #[.int .i64 l, .int .i64 c]] w fun e w' => e = .returned (atRes (Lx.atOf s l c)) ∧ Below w.heap.size w w' := by
  have HT := Lib.hid (fun W => textError_any s W (by omega))
  refine callsIn_of_wp_marks Tryd.func26 rfl trivial ?_ rfl
  simp only [Tryd.ntmps26, List.size_toArray, List.length_cons, List.length_nil, Nat.reduceAdd, Nat.reduceSub, Array.replicate_succ, Array.replicate_zero, List.push_toArray, List.append_toArray, List.nil_append, List.cons_append]
  have t0 := Tri.first (w := w) (.cells #[.int .i64 l, .int .i64 c] 32) (.cells #[.int .i64 0] 3) (.cells #[.int .i64 0] 24)
  obtain ⟨r, hr⟩ : ∃ r, Lx.atOf s l c = r := ⟨_, rfl⟩
  rw [hr]
  unfold Lx.atOf at hr
  have HSP := Lib.hid hr; clear hr
  by_cases h0 : (Lx.textErr s).2 ≠ 0
  · have HR : Hid (r = (0, (Lx.textErr s).2)) := by rw [Hid, ← HSP.out, if_pos h0]
    clear HSP
    generalize (Lx.textErr s).1 = q at *
    generalize (Lx.textErr s).2 = er at *
    have h0' : ((er : Int) != 0) = true := by rw [bne_iff_ne]; omega
    clear h0
    have HT0 := Lib.hid t0; clear t0
    gi_wp2_with (refine ⟨trivial, ?_⟩; gi_at_call 49; refine (callsIn_wide.2 (HT.out _)).mono ?_; rintro e w1 ⟨rfl, hB1⟩; have T1 := HT0.out.next hB1; obtain ⟨c1, f1⟩ := one_cells T1.2.2.1; obtain ⟨c2, f2⟩ := one_cells T1.2.2.2; have HT1 := Lib.hid T1; clear T1)
    have T2 := HT1.out.fin1 (.int .i64 0) (.int .i64 (er : Int))
    obtain ⟨x1, _⟩ := one_cells T2.2.2.1
    obtain ⟨x2, _⟩ := one_cells T2.2.2.2
    exact ⟨atRes r, by rw [HR.out]; simp [atRes, results, Tryd.results26, go_sem, x1, x2], rfl, T2.1⟩
  · have HS0 : Hid (Lx.atFrom s l c (s.size + 1) 0 = r) := by rw [Hid, ← HSP.out, if_neg h0]
    clear HSP
    obtain ⟨q, er, hT⟩ : ∃ q er, Lx.textErr s = (q, er) := ⟨_, _, rfl⟩
    rw [hT] at h0 HT
    obtain rfl : er = 0 := by simpa using h0
    clear h0 hT
    have HT0 := Lib.hid t0; clear t0
    gi_wp2_with (first
      | (refine ⟨trivial, ?_⟩; gi_at_call 49; refine (callsIn_wide.2 (HT.out _)).mono ?_; rintro e w1 ⟨rfl, hB1⟩; have T1 := HT0.out.next hB1)
      | (refine ⟨trivial, ?_⟩; gi_at_call 54; refine (spots_in _ _ _).mono ?_; rintro e w' ⟨rfl, rfl⟩))
    have bs := Boxed.new w1 9 (.string s)
    have T0 := T1.lay (.cells #[.string s] 9)
    have hz := T1.size
    have hz0 : (w1.alloc (.cells #[.string s] 9)).heap.size = w1.heap.size + 1 := by simp
    generalize w1.alloc (.cells #[.string s] 9) = W0 at *
    clear T1 hB1
    refine range_cell (F := Fence.wide) rfl (by omega) (gf := 86) (lb := #[.pointer (some ⟨w1.heap.size, 0, none⟩)]) rfl trivial (enters_of Tryd.func86 (by kernel_rfl) rfl) (encs := encSpot s) (M := s.size) (fun _ => rfl)
      (fun W1 J Jx hb hz1 hJ hY h0 => spots1 (9 - 1) (by omega) _ w1.heap.size s hs J Jx W1 (by rw [hz1]; exact hJ) hY (boxed_below bs hb) h0)
      (fun k W => Tri w (.cells #[.int .i64 l, .int .i64 c] 32 (0, 0)) (.cells #[.int .i64 0] 3 (0, 0)) (.cells #[.int .i64 0] 24 (0, 0)) W ∧ Hid (Lx.atFrom s l c (s.size + 1 - k) k = r))
      (fun k W => Tri w (.cells #[.int .i64 l, .int .i64 c] 32 (0, 0)) (.cells #[.int .i64 (k : Int)] 3 (0, 0)) (.cells #[.int .i64 0] 24 (0, 0)) W ∧ Hid ((k, 0) = r))
      ⟨fun k W o h => ⟨h.1.lay o, h.2⟩, fun k W j v h => ⟨h.1.turn _ j v (by omega), h.2⟩⟩ (fun k W b o hb h => ⟨h.1.put b o (by omega), h.2⟩) (fun k W b o hb h => ⟨h.1.put b o (by omega), h.2⟩) ⟨T0, HS0⟩
      (fun k a' W => ∃ Bx, W0.heap.size + 2 ≤ Bx ∧ W.heap[Bx]? = some (spotO (Lx.spotAt s k)) ∧ a' = Act.mk #[Value.string s, .agg #[.int .i64 l, .int .i64 c], undef, Value.pointer (some { block := w.heap.size, off := 0 }),
          Value.pointer (some { block := w.heap.size + 1, off := 0 }), Value.pointer (some { block := w.heap.size + 1 + 1, off := 0 }), Value.int IntKind.i64 ↑q, Value.int IntKind.i64 0,
          Value.int IntKind.i64 ↑k, Value.pointer (some { block := Bx, off := 0 }), Value.tuple #[Value.int IntKind.i64 ↑q, Value.int IntKind.i64 0], Value.string s,
          Value.tuple #[Value.int IntKind.i64 ↑q, Value.int IntKind.i64 0], Value.int IntKind.i64 ↑q, Value.int IntKind.i64 0, Value.int IntKind.i64 0, Value.bool false, undef, Value.string s,
          Value.func (Fn.func 86) #[] #[Value.pointer (some { block := w1.heap.size, off := 0 })], Value.int IntKind.i64 ↑k, .agg #[.int .i64 ((Lx.spotAt s k).1 : Int), .int .i64 ((Lx.spotAt s k).2 : Int)],
          undef, undef, undef, undef] [])
      (fun k a' W o h => by
        obtain ⟨Bx, h1, h2, h3⟩ := h
        exact ⟨Bx, h1, (World.putObj_heap_other (by omega)).trans h2, h3⟩) ?assign ?body ?done ?stop
    case assign =>
      rintro k W K hkM ⟨hT, hj⟩ hW hK
      dsimp only [encSpot]
      gi_wp2
      exact hK _ _ ((Below.refl _ _).alloc (Nat.le_refl _) _) ⟨hT.lay _, hj⟩ ⟨W.heap.size, hW, World.alloc_heap_new _ _, rfl⟩
    case body =>
      rintro k a' W hkM ⟨hT, hj⟩ hW ⟨Bx, hBx, hX, rfl⟩
      obtain ⟨c0, c0', f0, f0'⟩ := pair_cells hT.2.1
      obtain ⟨c1, f1⟩ := one_cells hT.2.2.1
      obtain ⟨c2, f2⟩ := one_cells hT.2.2.2
      obtain ⟨x0, x1, _, _⟩ := pair_cells (x := .int .i64 ((Lx.spotAt s k).1 : Int)) (y := .int .i64 ((Lx.spotAt s k).2 : Int)) hX
      have HTT := Lib.hid hT; clear hT
      have qe := run_eql_sp
      have qg : ∀ (x y : Operand) (xs ys : Array Value) (w : World), (eqGuard .eql 32 x y (.agg xs) (.agg ys)).run Tryd.prog w = .ok () w := fun x y xs ys w => run_eqGuard_agg w _ _ x y xs ys (by kernel_rfl)
      cases hq : spEq (Lx.spotAt s k).1 (Lx.spotAt s k).2 l c
      · gi_wp2
        have hq' : Lx.isSpot s l c k = false := hq
        have hjo := hj.out
        rw [show s.size + 1 - k = (s.size + 1 - (k + 1)) + 1 by omega, Lx.atFrom_miss _ hq'] at hjo
        exact ⟨Below.refl _ _, HTT.out, hjo⟩
      · gi_wp2
        have hq' : Lx.isSpot s l c k = true := hq
        have hjo := hj.out
        rw [show s.size + 1 - k = (s.size + 1 - (k + 1)) + 1 by omega, Lx.atFrom_hit _ hq'] at hjo
        have T2 := HTT.out.fin1 (.int .i64 (k : Int)) (.int .i64 0)
        exact ⟨by rw [Below.heap_setCell _ _ _ _ (by simp; omega), Below.heap_setCell _ _ _ _ (by simp; omega)], by rw [Below.heap_setCell _ _ _ _ (by simp; omega), Below.heap_setCell _ _ _ _ (by simp; omega)], T2, hjo⟩
    case done =>
      rintro W ⟨hT, hj⟩ hK
      have HR : Hid (r = (0, 7)) := by
        have := hj.out
        rw [Nat.sub_self] at this
        exact this.symm
      obtain ⟨c1, f1⟩ := one_cells hT.2.2.1
      obtain ⟨c2, f2⟩ := one_cells hT.2.2.2
      have HTT := Lib.hid hT; clear hT
      have HK := Lib.hid hK; clear hK
      gi_wp2
      have T2 := HTT.out.fin1 (.int .i64 0) (.int .i64 7)
      have hK2 : ((W.setCell ⟨w.heap.size + 1, 0, none⟩ (.int .i64 0)).setCell ⟨w.heap.size + 1 + 1, 0, none⟩ (.int .i64 7)).heap[W0.heap.size]? = some (.deferred (some [])) := by
        rw [Below.heap_setCell _ _ _ _ (by simp; omega), Below.heap_setCell _ _ _ _ (by simp; omega)]; exact HK.out
      refine ⟨by simp, .inl ⟨_, _, rfl, run_takeDeferred hK2, ?_⟩⟩
      have T3 := T2.put W0.heap.size (.deferred none) (by omega)
      obtain ⟨x1, _⟩ := one_cells T3.2.2.1
      obtain ⟨x2, _⟩ := one_cells T3.2.2.2
      generalize World.putObj _ W0.heap.size (.deferred none) = WF at *
      exact ⟨atRes r, by rw [HR.out]; simp [atRes, results, Tryd.results26, go_sem, x1, x2], rfl, T3.1⟩
    case stop =>
      rintro k W hkM ⟨hT, hp⟩ hK
      have HTT := Lib.hid hT; clear hT
      have HK := Lib.hid hK; clear hK
      gi_wp2
      refine ⟨by simp, .inl ⟨_, _, rfl, run_takeDeferred HK.out, ?_⟩⟩
      have T3 := HTT.out.put W0.heap.size (.deferred none) (by omega)
      obtain ⟨x1, _⟩ := one_cells T3.2.2.1
      obtain ⟨x2, _⟩ := one_cells T3.2.2.2
      generalize World.putObj _ W0.heap.size (.deferred none) = WF at *
      exact ⟨atRes r, by rw [← hp.out]; simp [atRes, results, Tryd.results26, go_sem, x1, x2], rfl, T3.1⟩

theorem at_any (s : ByteArray) (l c : Int) (hs : s.size ≤ 281474976710656) (w : World) :
    Calls Tryd.prog 26 #[.string s, .agg #[.int .i64 l, .int .i64 c]] w fun e w' => e = .returned (atRes (Lx.atOf s l c)) ∧ Below w.heap.size w w' := callsIn_wide.1 (at_in s l c hs w)
end Go.Proofs.YtchkngabppmbkaaDoor
