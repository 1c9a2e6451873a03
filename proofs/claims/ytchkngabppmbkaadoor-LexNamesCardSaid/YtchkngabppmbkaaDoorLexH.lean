/-
  WALKS: the iterator over comments and tokens.
-/
import Derived.RangeFuncNested
import Derived.RangeFuncBound
import Derived.RangeFuncCalls
import Derived.RangeFuncLeaves
import Derived.Shelf.Abstract
import Derived.Shelf.RegionOpen
import Derived.WalkKit
import Derived.OwnWalkIn
import Derived.TacticsInMore
import Derived.LoopNIn
import Derived.LoopIn
import Derived.Maps.AppendAt
import Derived.Test.YtchkngabppmbkaaDoorLexG
namespace Go.Proofs.YtchkngabppmbkaaDoor
open Go.RowKit Go.Shelf
attribute [local go_sem] Oper.semAt_some

/-- The blocks that a loop body may write: the box of the slice that it collects in, and that slice's row. -/
def Mod (Bl : Nat) (W : World) (k : Nat) : Prop := k = Bl ∨ ∃ a n c, W.cell? ⟨Bl, 0, none⟩ = some (.slice (some a) n c) ∧ k = a.block
def Inv (n₀ Bs Bl : Nat) (W : World) : Prop := Bl < W.heap.size ∧ ∀ k, Mod Bl W k → k ≠ Bs ∧ n₀ ≤ k ∧ ∃ cs t f, W.heap[k]? = some (.cells cs t f)
/-- What a round keeps. -/
structure Kp (n₀ Bs Bl : Nat) (W W' : World) : Prop where
  size : W.heap.size ≤ W'.heap.size
  same : ∀ k o, W.heap[k]? = some o → (o.isCells = true ∨ o.isWalk = true) → ¬ Mod Bl W k → W'.heap[k]? = some o
  mods : ∀ k, Mod Bl W' k → Mod Bl W k ∨ W.heap.size ≤ k
  inv : Inv n₀ Bs Bl W → Inv n₀ Bs Bl W'

theorem lt_of_heap {W : World} {k : Nat} {o : Obj} (h : W.heap[k]? = some o) : k < W.heap.size := (Array.getElem?_eq_some_iff.1 h).1
theorem Kp.trans_ {n₀ Bs Bl : Nat} {A B C : World} (h : Kp n₀ Bs Bl A B) (k : Kp n₀ Bs Bl B C) : Kp n₀ Bs Bl A C :=
  ⟨Nat.le_trans h.size k.size, fun i o ho hc hm => k.same i o (h.same i o ho hc hm) hc (fun hB => by
      rcases h.mods i hB with h1 | h1
      · exact hm h1
      · have := lt_of_heap ho; omega),
    fun i hi => by
      rcases k.mods i hi with h1 | h1
      · exact h.mods i h1
      · exact .inr (Nat.le_trans h.size h1),
    fun hi => k.inv (h.inv hi)⟩
theorem Mod.of_same {Bl : Nat} {W W' : World} (h : W'.heap[Bl]? = W.heap[Bl]?) {k : Nat} (hm : Mod Bl W' k) : Mod Bl W k := by
  rcases hm with hm | ⟨a, n, c, h1, h2⟩
  · exact .inl hm
  · exact .inr ⟨a, n, c, (World.cell?_of_block (a := ⟨Bl, 0, none⟩) h).symm.trans h1, h2⟩
theorem Kp.put {n₀ Bs Bl : Nat} {w : World} (hBl : Bl < w.heap.size) (W : World) (l : Nat) (o o' : Obj) (hl : w.heap.size ≤ l) (h : W.heap[l]? = some o) (hc : o.isCells = false) (hw : o.isWalk = false) : Kp n₀ Bs Bl W (W.putObj l o') := by
  have hb : (W.putObj l o').heap[Bl]? = W.heap[Bl]? := World.putObj_heap_other (by omega)
  have hs : ∀ k (q : Obj), W.heap[k]? = some q → (q.isCells = true ∨ q.isWalk = true) → (W.putObj l o').heap[k]? = some q := fun k (q : Obj) hk hq => by
    refine (World.putObj_heap_other (fun e => ?_)).trans hk
    subst e; rw [h] at hk; cases hk
    rcases hq with hq | hq
    · rw [hc] at hq; cases hq
    · rw [hw] at hq; cases hq
  refine ⟨by simp, fun k q hk hq _ => hs k q hk hq, fun k hm => .inl (hm.of_same hb), fun hi => ⟨by simpa using hi.1, fun k hm => ?_⟩⟩
  obtain ⟨h1, h2, cs, t, f, h3⟩ := hi.2 k (hm.of_same hb)
  exact ⟨h1, h2, cs, t, f, hs k _ h3 (.inl rfl)⟩
theorem Mod.below {Bl : Nat} {A B : World} (hb : Bl < A.heap.size) (h : Below A.heap.size A B) {k : Nat} (hm : Mod Bl B k) : Mod Bl A k := hm.of_same (h.block Bl hb)
theorem Inv.below {n₀ Bs Bl : Nat} {A B : World} (hi : Inv n₀ Bs Bl A) (h : Below A.heap.size A B) : Inv n₀ Bs Bl B :=
  ⟨Nat.lt_of_lt_of_le hi.1 h.size, fun k hm => by
    obtain ⟨h1, h2, cs, t, f, h3⟩ := hi.2 k (hm.below hi.1 h)
    exact ⟨h1, h2, cs, t, f, (h.block k (lt_of_heap h3)).trans h3⟩⟩
/-- What the iterator leans on: it lies as it lay behind a round. -/
theorem Kp.keeps {n₀ Bs Bl : Nat} {W W' : World} (h : Kp n₀ Bs Bl W W') {k : Nat} {o : Obj} (ho : W.heap[k]? = some o) (hc : o.isCells = true ∨ o.isWalk = true) (hm : ¬ Mod Bl W k) : W'.heap[k]? = some o := h.same k o ho hc hm
theorem heap_of_cell {W : World} {p : Addr} {v : Value} (h : W.cell? p = some v) : ∃ cs t f, W.heap[p.block]? = some (.cells cs t f) := by
  unfold World.cell? at h
  cases hh : W.heap[p.block]? with
  | none => rw [hh] at h; cases h
  | some o => cases o <;> simp_all
theorem GV.kp {n₀ Bs Bl : Nat} {W W' : World} (hg : GV W) (hn : 2 < n₀) (hi : Inv n₀ Bs Bl W) (h : Kp n₀ Bs Bl W W') : GV W' := by
  obtain ⟨h1, ev, h2, h3⟩ := hg
  obtain ⟨cs, t, f, h4⟩ := heap_of_cell h2
  have h5 := h.same _ _ h4 (.inl rfl) (fun hm => by have := (hi.2 _ hm).2.1; simp at this; omega)
  exact ⟨Nat.lt_of_lt_of_le h1 h.size, ev, (World.cell?_of_block (h5.trans h4.symm)).trans h2, h3⟩

def encItem (x : Lx.Item) : Array Value := #[tokV x.kind x.text x.pos, .int .i64 (x.err : Int)]

theorem grown_of_below {A B : World} (h : Below A.heap.size A B) (row : Option Nat) : A.grownBy B row := ⟨h.os, h.tape, h.output, h.size, fun i hi _ => h.block i hi⟩

set_option maxRecDepth 100000 in
set_option maxHeartbeats 4000000 in
theorem pieces1 (n : Nat) (hn : 1 ≤ n) (l Bs Bl n₀ : Nat) (s : ByteArray) (hs : s.size ≤ 281474976710656) (hn₀ : 2 < n₀) (J Jx : List Lx.Item → World → Prop) (W : World) (hJ : AbidesFrom W.heap.size J)
    (hY : ∀ pre x W1, J pre W1 → pre.length < (Lx.pieces s).length → YieldAt Fence.wide (n - 1) Tryd.prog l (encItem x) W1 fun e W' =>
      (e = .returned (.bool true) ∧ J (pre ++ [x]) W' ∧ Kp n₀ Bs Bl W1 W') ∨ (e = .returned (.bool false) ∧ Jx (pre ++ [x]) W'))
    (hBs : Boxed W Bs 9 (.string s)) (hI : Inv n₀ Bs Bl W) (hG : GV W) (h0 : J [] W) :
    CallsIn Fence.wide n Tryd.prog 80 #[.func (.yield l) #[] #[], .pointer (some ⟨Bs, 0, none⟩)] W fun e W' => (∃ v, e = .returned v) ∧
      ((∃ ys, ys = Lx.pieces s ∧ J ys W') ∨ (∃ pre, pre <+: Lx.pieces s ∧ Jx pre W')) := by
  obtain ⟨Ps, hPs⟩ : ∃ Ps, Lx.pieces s = Ps := ⟨_, rfl⟩
  rw [hPs] at hY ⊢
  refine callsIn_of_wp Tryd.func80 rfl trivial ?_ rfl
  simp only [Tryd.ntmps80, List.size_toArray, List.length_cons, List.length_nil, Nat.reduceAdd, Nat.reduceSub, Array.replicate_succ, Array.replicate_zero, List.push_toArray, List.append_toArray, List.nil_append, List.cons_append]
  have HPs := Lib.hid hPs; clear hPs
  have HY := Lib.hid hY; clear hY
  have HJ := Lib.hid hJ; clear hJ
  have hB0 : Below W.heap.size W (W.alloc kwObj) := (Below.refl _ _).alloc (Nat.le_refl _) _
  have hbs1 := hBs.alloc kwObj
  have hkw1 : (W.alloc kwObj).heap[W.heap.size]? = some kwObj := World.alloc_heap_new W kwObj
  have hi1 := hI.below hB0
  have hg1 := hG.below hB0
  have hj1 : J [] (W.alloc kwObj) := HJ.out [] W _ none h0 (grown_of_below hB0 none) (fun r e => by cases e)
  clear h0 hG hI hBs hB0
  gi_wp2_with (refine ⟨trivial, ?_⟩; gi_at_call 81; refine (callsIn_wide.2 (keywords_any _)).mono ?_; rintro e w' ⟨rfl, rfl⟩)
  generalize W.alloc kwObj = W1 at *
  gi_loopw [4] (fun i wr => ∃ (k : Nat) (pre : List Lx.Item), k ≤ s.size ∧ i = .int .i64 k ∧ Hid (Ps = pre ++ Lx.piecesAt s k) ∧ Hid (J pre wr) ∧ Hid (Boxed wr Bs 9 (.string s)) ∧ Hid (wr.heap[W.heap.size]? = some kwObj) ∧ Hid (Inv n₀ Bs Bl wr) ∧ Hid (GV wr) ∧ W.heap.size ≤ wr.heap.size) (fun i _ => s.size - (intOf i).toNat)
  case atStart => exact ⟨0, [], Nat.zero_le _, rfl, HPs.out.symm, hj1, hbs1, hkw1, hi1, hg1, by have := lt_of_heap hkw1; omega⟩
  case round =>
    obtain ⟨k, pre, hk, rfl, hps, hJr, hbr, hkr, hir, hgr, hszr⟩ := hrel
    clear hj1 hbs1 hkw1 hi1 hg1
    by_cases hlt : k < s.size
    · have hcs := hbr.out.cell
      have HI := Lib.hid (is_any s[k] [1] wr.heap.size 0 1 (wr.alloc (.cells #[.int .u8 1] 112)) (by simp) (by simp) (U8s.one wr _ 1))
      cases hbl : Lx.isBlank s[k]
      · have HP := Lib.hid (Lx.piecesAt_item hlt hbl)
        unfold Lx.isBlank at hbl
        rw [hbl] at HI; clear hbl
        have hBA : Below wr.heap.size wr (wr.alloc (.cells #[.int .u8 1] 112)) := (Below.refl _ _).alloc (Nat.le_refl _) _
        have hkA : (wr.alloc (.cells #[.int .u8 1] 112)).heap[W.heap.size]? = some kwObj := (hBA.block _ (lt_of_heap hkr.out)).trans hkr.out
        have hpc := piece_any s k W.heap.size (wr.alloc (.cells #[.int .u8 1] 112)) hs hlt hkA (hgr.out.below hBA)
        have haf := Lx.after_gt hlt
        have hps' : Ps = (pre ++ [Lx.itemAt s k]) ++ Lx.piecesAt s (Lx.after (Lx.itemAt s k)) := by rw [hps.out, HP.out]; simp
        have hlen : pre.length < Ps.length := by rw [hps']; simp
        have HPS := Lib.hid hps'; clear hps' hps HP
        have hit : encItem (Lx.itemAt s k) = #[tokV (Lx.piece s k).1 (Lx.piece s k).2.1 k, .int .i64 ((Lx.piece s k).2.2 : Int)] := rfl
        have haft : Lx.after (Lx.itemAt s k) = k + (Lx.piece s k).2.1.size + (if (Lx.piece s k).1 = 5 then 1 else 0) := rfl
        generalize hx : Lx.itemAt s k = x at *
        clear hx
        generalize hA : Lx.after x = A at *
        have HA := Lib.hid hA; clear hA
        generalize (Lx.piece s k).1 = kd at *
        generalize (Lx.piece s k).2.1 = tx at *
        generalize (Lx.piece s k).2.2 = er at *
        unfold tokV at hpc
        have HPC := Lib.hid hpc; clear hpc
        have hltB := hbr.out.lt
        have hcsA : (wr.alloc (.cells #[.int .u8 1] 112)).cell? ⟨Bs, 0, none⟩ = some (.string s) := (hBA.cell (p := ⟨Bs, 0, none⟩) hltB).trans hcs
        have HAF := Lib.hid haft; clear haft
        gi_wp2_with (refine ⟨trivial, ?_⟩; gi_at_call 82; refine (callsIn_wide.2 HI.out).mono ?_; rintro e w' ⟨rfl, rfl⟩)
        refine ⟨trivial, ?_⟩
        refine (callsIn_wide.2 HPC.out).mono ?_
        rintro e w2 ⟨rfl, hB2⟩
        have hB2' : Below wr.heap.size wr w2 := hBA.trans (hB2.mono hBA.size)
        have hj2 := HJ.out _ _ (w2.alloc (.cells #[.int .u8 (kd : Int), .string tx, .int .i64 (k : Int)] 63)) none hJr (grown_of_below (hB2'.alloc hB2'.size _) none) (fun r e => by cases e)
        obtain ⟨fn, tmps, assign, body, hy, hR⟩ := HY.out pre x _ hj2 hlen
        rw [hit] at hy
        dsimp only [tokV] at hy
        have HR := Lib.hid hR; clear hR
        have hcs2 : w2.cell? ⟨Bs, 0, none⟩ = some (.string s) := (hB2'.cell (p := ⟨Bs, 0, none⟩) hbr.out.lt).trans hcs
        have hBT : Below w2.heap.size w2 (w2.alloc (.cells #[.int .u8 (kd : Int), .string tx, .int .i64 (k : Int)] 63)) := (Below.refl _ _).alloc (Nat.le_refl _) _
        have hiw2 := hir.out.below hB2'
        have HIT := Lib.hid (hiw2.below hBT)
        have hnm : ¬ Mod Bl (w2.alloc (.cells #[.int .u8 (kd : Int), .string tx, .int .i64 (k : Int)] 63)) w2.heap.size := fun hm => by
          obtain ⟨_, _, cs, t, f, hh⟩ := hiw2.2 _ (hm.below hiw2.1 hBT)
          have := lt_of_heap hh; omega
        have HNM := Lib.hid hnm; clear hnm
        have hnb : Hid (¬ Mod Bl (w2.alloc (.cells #[.int .u8 (kd : Int), .string tx, .int .i64 (k : Int)] 63)) Bs) := fun hm => (HIT.out.2 _ hm).1 rfl
        have hkT : Hid ((w2.alloc (.cells #[.int .u8 (kd : Int), .string tx, .int .i64 (k : Int)] 63)).heap[W.heap.size]? = some kwObj) :=
          (hBT.block _ (Nat.lt_of_lt_of_le (lt_of_heap hkr.out) hB2'.size)).trans ((hB2'.block _ (lt_of_heap hkr.out)).trans hkr.out)
        have hnk : Hid (¬ Mod Bl (w2.alloc (.cells #[.int .u8 (kd : Int), .string tx, .int .i64 (k : Int)] 63)) W.heap.size) := fun hm => by
          obtain ⟨_, _, cs, t, f, hh⟩ := HIT.out.2 _ hm
          rw [hkT.out] at hh; cases hh
        have hbT : Hid (Boxed (w2.alloc (.cells #[.int .u8 (kd : Int), .string tx, .int .i64 (k : Int)] 63)) Bs 9 (.string s)) :=
          (hBT.block _ (Nat.lt_of_lt_of_le hltB hB2'.size)).trans ((hB2'.block _ hltB).trans hbr.out)
        have hgT : Hid (GV (w2.alloc (.cells #[.int .u8 (kd : Int), .string tx, .int .i64 (k : Int)] 63))) := (hgr.out.below hB2').below hBT
        have htT : Hid ((w2.alloc (.cells #[.int .u8 (kd : Int), .string tx, .int .i64 (k : Int)] 63)).heap[w2.heap.size]? = some (.cells #[.int .u8 (kd : Int), .string tx, .int .i64 (k : Int)] 63 (0, 0))) := World.alloc_heap_new _ _
        have hszT : W.heap.size ≤ (w2.alloc (.cells #[.int .u8 (kd : Int), .string tx, .int .i64 (k : Int)] 63)).heap.size := Nat.le_trans hszr (Nat.le_trans hB2'.size hBT.size)
        gi_wp2
        refine HR.out.mono ?_
        generalize w2.alloc (.cells #[.int .u8 (kd : Int), .string tx, .int .i64 (k : Int)] 63) = WT at *
        rintro e W3 (⟨rfl, hJ3, hk3⟩ | ⟨rfl, hJx3⟩)
        · have b3 := Lib.hid (hk3.same _ _ hbT.out (.inl rfl) hnb.out)
          have t3 := hk3.same _ _ htT.out (.inl rfl) HNM.out
          have k3 := Lib.hid (hk3.same _ _ hkT.out (.inr rfl) hnk.out)
          have i3 := Lib.hid (hk3.inv HIT.out)
          have g3 := Lib.hid (hgT.out.kp hn₀ HIT.out hk3)
          have s3 : W.heap.size ≤ W3.heap.size := Nat.le_trans hszT hk3.size
          have J3 := Lib.hid hJ3
          have ct0 : W3.cell? ⟨w2.heap.size, 0, none⟩ = some (.int .u8 (kd : Int)) := by simp [World.cell?, t3]
          have ct1 : W3.cell? ⟨w2.heap.size, 1, none⟩ = some (.string tx) := by simp [World.cell?, t3]
          clear hJ3 hk3 t3 hJr hj2 hy hcs2 hBT hiw2 HIT HNM hnb hkT hnk hbT hgT htT hszT HR
          have haf1 := haf.1
          have haf2 := haf.2
          have hb : (k : Int) + tx.size ≤ s.size := by
            have := HAF.out
            split at this <;> omega
          clear haf
          by_cases h5 : kd = 5
          · subst h5
            have HA5 : Hid (A = k + tx.size + 1) := by rw [Hid, HAF.out, if_pos rfl]
            gi_wp2
            go_roundw
            case rel => exact ⟨A, pre ++ [x], haf2, by rw [HA5.out]; go_num, HPS.out, J3.out, b3.out, k3.out, i3.out, g3.out, s3⟩
            case measure => have := HA5.out; simp [intOf]; omega
          · have HA5 : Hid (A = k + tx.size) := by rw [Hid, HAF.out, if_neg h5]; rfl
            have h5' : ((kd : Int) == 5) = false := by rw [beq_eq_false_iff_ne]; omega
            clear h5
            gi_wp2
            go_roundw
            case rel => exact ⟨A, pre ++ [x], haf2, by rw [HA5.out]; go_num, HPS.out, J3.out, b3.out, k3.out, i3.out, g3.out, s3⟩
            case measure => have := HA5.out; simp [intOf]; omega
        · gi_wp2
          refine bodyPost_ret (results_none rfl _ _ _) rfl ?_
          exact ⟨⟨_, rfl⟩, .inr ⟨pre ++ [x], ⟨_, HPS.out.symm⟩, hJx3⟩⟩
      · have HP := Lib.hid (Lx.piecesAt_blank hlt hbl)
        unfold Lx.isBlank at hbl
        rw [hbl] at HI; clear hbl
        gi_wp2_with (refine ⟨trivial, ?_⟩; gi_at_call 82; refine (callsIn_wide.2 HI.out).mono ?_; rintro e w' ⟨rfl, rfl⟩)
        go_roundw
        case rel =>
          have hB : Below wr.heap.size wr (wr.alloc (.cells #[.int .u8 1] 112)) := (Below.refl _ _).alloc (Nat.le_refl _) _
          exact ⟨k + 1, pre, by omega, by go_num, by rw [Hid, ← HP.out]; exact hps.out, HJ.out _ _ _ none hJr (grown_of_below hB none) (fun r e => by cases e), hbr.out.alloc _, (hB.block _ (lt_of_heap hkr.out)).trans hkr.out, hir.out.below hB, hgr.out.below hB, by simp; omega⟩
        case measure => simp [intOf]; omega
    · obtain rfl : k = s.size := by omega
      have hcs := hbr.out.cell
      gi_wp2
      go_end0
      exact ⟨⟨_, rfl⟩, .inl ⟨pre, by rw [hps.out, Lx.piecesAt_end (Nat.le_refl _)]; simp, hJr.out⟩⟩
end Go.Proofs.YtchkngabppmbkaaDoor
