/-
  WALKS: arenas in memory; the places of an arena.
-/
import Derived.Test.YtepdlghobopdbaaGreatDoorAk
namespace Go.Proofs.YtepdlghobopdbaaGreatDoor
open Go.RowKit Go.Shelf
attribute [local go_sem] Oper.semAt_some

/-- A slice of base types below block B. -/
def Bas (W : World) (B : Nat) (A : Option Addr) (l : List Ar.Bs) : Prop := l ≠ [] → ∃ b off, A = some ⟨b, off, none⟩ ∧ b < B ∧ ∀ i x, l[i]? = some x → W.cell? ⟨b, off + i * 2, none⟩ = some (.bool x.cell) ∧ W.cell? ⟨b, off + i * 2 + 1, none⟩ = some (.int .i64 x.n)
/-- A slice of types below block B; P says where their params lie. -/
def Tys (W : World) (B : Nat) (A : Option Addr) (P : Nat → Option Addr × Nat) (l : List Ar.Ty) : Prop := l ≠ [] → ∃ b off, A = some ⟨b, off, none⟩ ∧ b < B ∧ ∀ i t, l[i]? = some t →
  W.cell? ⟨b, off + i * 3, none⟩ = some (.slice (P i).1 t.params.length (P i).2) ∧ W.cell? ⟨b, off + i * 3 + 1, none⟩ = some (.bool t.result.cell) ∧ W.cell? ⟨b, off + i * 3 + 2, none⟩ = some (.int .i64 t.result.n) ∧ Bas W B (P i).1 t.params
theorem Bas.below {W W' : World} {B : Nat} {A : Option Addr} {l : List Ar.Bs} (h : Bas W B A l) (hb : Below B W W') : Bas W' B A l := fun hne => by
  obtain ⟨b, off, hA, hB, hc⟩ := h hne
  exact ⟨b, off, hA, hB, fun i x hx => ⟨(hb.cell (p := ⟨b, _, none⟩) hB).trans (hc i x hx).1, (hb.cell (p := ⟨b, _, none⟩) hB).trans (hc i x hx).2⟩⟩
theorem Tys.below {W W' : World} {B : Nat} {A : Option Addr} {P : Nat → Option Addr × Nat} {l : List Ar.Ty} (h : Tys W B A P l) (hb : Below B W W') : Tys W' B A P l := fun hne => by
  obtain ⟨b, off, hA, hB, hc⟩ := h hne
  refine ⟨b, off, hA, hB, fun i t ht => ?_⟩
  obtain ⟨h1, h3, h4, h2⟩ := hc i t ht
  exact ⟨(hb.cell (p := ⟨b, _, none⟩) hB).trans h1, (hb.cell (p := ⟨b, _, none⟩) hB).trans h3, (hb.cell (p := ⟨b, _, none⟩) hB).trans h4, h2.below hb⟩
theorem Bas.mono {W : World} {B B' : Nat} {A : Option Addr} {l : List Ar.Bs} (h : Bas W B A l) (hB : B ≤ B') : Bas W B' A l := fun hne => by
  obtain ⟨b, off, hA, hb, hc⟩ := h hne; exact ⟨b, off, hA, by omega, hc⟩
theorem Tys.mono {W : World} {B B' : Nat} {A : Option Addr} {P : Nat → Option Addr × Nat} {l : List Ar.Ty} (h : Tys W B A P l) (hB : B ≤ B') : Tys W B' A P l := fun hne => by
  obtain ⟨b, off, hA, hb, hc⟩ := h hne
  refine ⟨b, off, hA, by omega, fun i t ht => ?_⟩
  obtain ⟨h1, h3, h4, h2⟩ := hc i t ht
  exact ⟨h1, h3, h4, h2.mono hB⟩

def arV (A : Option Addr) (c : Nat) (a : Ar.Are) : Value := .agg #[.slice A a.ids.length c, .bool a.root.cell, .int .i64 a.root.n, .bool a.jumps]
def rtO (A : Option Addr) (c : Nat) (a : Ar.Are) : Obj := .cells #[.slice A a.ids.length c, .bool a.root.cell, .int .i64 a.root.n, .bool a.jumps] 66 (0, 0)
theorem rtO_cells {W : World} {b : Nat} {A : Option Addr} {c : Nat} {a : Ar.Are} (h : W.heap[b]? = some (rtO A c a)) :
    W.cell? ⟨b, 0, none⟩ = some (.slice A a.ids.length c) ∧ W.cell? ⟨b, 1, none⟩ = some (.bool a.root.cell) ∧ W.cell? ⟨b, 2, none⟩ = some (.int .i64 a.root.n) ∧ W.cell? ⟨b, 3, none⟩ = some (.bool a.jumps) := by
  unfold rtO at h
  exact ⟨by simp [World.cell?, h], by simp [World.cell?, h], by simp [World.cell?, h], by simp [World.cell?, h]⟩
def tyO (PA : Option Addr) (pc : Nat) (t : Ar.Ty) : Obj := .cells #[.slice PA t.params.length pc, .bool t.result.cell, .int .i64 t.result.n] 53 (0, 0)
theorem tyO_cells {W : World} {b : Nat} {A : Option Addr} {c : Nat} {t : Ar.Ty} (h : W.heap[b]? = some (tyO A c t)) :
    W.cell? ⟨b, 0, none⟩ = some (.slice A t.params.length c) ∧ W.cell? ⟨b, 1, none⟩ = some (.bool t.result.cell) ∧ W.cell? ⟨b, 2, none⟩ = some (.int .i64 t.result.n) := by
  unfold tyO at h
  exact ⟨by simp [World.cell?, h], by simp [World.cell?, h], by simp [World.cell?, h]⟩
theorem encPl_size (x : Ar.Pl) : (encPl x).size = 1 := rfl

theorem types_cons (j : Bool) (i : Nat) {l : List Ar.Ty} {k : Nat} {t : Ar.Ty} (h : l[k]? = some t) (hi : i = k) : Ar.typesFrom j i (l.drop k) = ⟨t.result, (k : Int) + 1, 0, j || decide (0 < t.params.length)⟩ :: (Ar.paramsFrom k 0 t.params ++ Ar.typesFrom j (k + 1) (l.drop (k + 1))) := by
  subst hi; rw [Ar.drop_of_get h]; rfl
theorem params_cons (i : Nat) {l : List Ar.Bs} {k : Nat} {b : Ar.Bs} (h : l[k]? = some b) : Ar.paramsFrom i k (l.drop k) = ⟨b, (i : Int) + 1, (k : Int) + 1, true⟩ :: Ar.paramsFrom i (k + 1) (l.drop (k + 1)) := by
  rw [Ar.drop_of_get h]; rfl

theorem block_of_cell {W : World} {a : Addr} {v : Value} (h : W.cell? a = some v) : a.block < W.heap.size := by
  unfold World.cell? at h
  rcases Nat.lt_or_ge a.block W.heap.size with h1 | h1
  · exact h1
  · rw [Array.getElem?_eq_none h1] at h; cases h

set_option maxRecDepth 100000 in
set_option maxHeartbeats 8000000 in
theorem places_gives (n : Nat) (hn : 1 ≤ n) (a : Ar.Are) (A : Option Addr) (c B : Nat) (P : Nat → Option Addr × Nat) (hi8 : a.ids.length ≤ 1000) (hp5 : ∀ t ∈ a.ids, t.params.length ≤ 1000) :
    Gives n 63 #[arV A c a] #[] encPl (Ar.placesOf a) loopY (fun _ => True) (fun W => Tys W B A P a.ids) := by
  intro y J Jx W hy _ hinv hJ hJx hY h0
  refine callsIn_of_wp Tryz.func63 rfl trivial ?_ rfl
  simp only [Tryz.ntmps63, List.size_toArray, List.length_cons, List.length_nil, Nat.reduceAdd, Nat.reduceSub, Array.replicate_succ, Array.replicate_zero, List.push_toArray, List.append_toArray, List.nil_append, List.cons_append]
  obtain ⟨l, rfl⟩ := hy
  obtain ⟨Ls, hLs⟩ : ∃ Ls, Ar.placesOf a = Ls := ⟨_, rfl⟩
  rw [hLs] at hY ⊢
  have HLs := Lib.hid hLs; clear hLs
  have HY := Lib.hid hY; clear hY
  have HJ := Lib.hid hJ; clear hJ
  have HJx := Lib.hid hJx; clear hJx
  have HI := Lib.hid hinv; clear hinv
  have HP5 := Lib.hid hp5; clear hp5
  have hE0 : Ext W.heap.size W (W.alloc (rtO A c a)) := (Ext.refl _ _).alloc (Nat.le_refl _) _
  have hj0 := HJ.out [] _ _ hE0 h0
  have hb0 := Lib.hid (World.alloc_heap_new W (rtO A c a))
  have hs0 : W.heap.size ≤ (W.alloc (rtO A c a)).heap.size := by simp
  clear h0 hE0
  have hav : arV A c a = .agg #[.slice A a.ids.length c, .bool a.root.cell, .int .i64 a.root.n, .bool a.jumps] := rfl
  rw [hav]; clear hav
  obtain ⟨fn, tmps, assign, body, hy, hR⟩ := (HY.out [] ⟨a.root, 0, 0, a.jumps⟩ (Ar.typesFrom a.jumps 0 a.ids) _ HLs.out.symm hs0 hj0).yield
  unfold encPl plV at hy
  have HR := Lib.hid hR; clear hR
  obtain ⟨c0, c1, c2, c3⟩ := rtO_cells hb0.out
  unfold rtO at hy c0 c1 c2 c3 HR hs0
  gi_wp2
  refine HR.out.mono ?_
  rintro e W3 (⟨rfl, hJ3, hK3⟩ | ⟨rfl, hJx3, hK3⟩)
  · have b3 := hK3.same _ _ hb0.out ⟨by decide, by decide⟩
    have B3 := Lib.hid b3; have J3 := Lib.hid hJ3
    have s3 : W.heap.size + 1 ≤ W3.heap.size := lt_of_heap b3
    clear c0 c1 c2 c3 hJ3 hK3 hy HR hb0 hj0 hs0
    obtain ⟨c0, c1, c2, c3⟩ := rtO_cells b3
    clear b3
    gi_wp2
    gi_loopw [22] (fun i wr => ∃ (k : Nat) (pre : List Ar.Pl), k ≤ a.ids.length ∧ i = .int .i64 k ∧ Hid (Ls = pre ++ Ar.typesFrom a.jumps k (a.ids.drop k)) ∧ Hid (J pre wr) ∧ Hid (wr.heap[W.heap.size]? = some (rtO A c a))) (fun i _ => a.ids.length - (intOf i).toNat)
    case atStart => exact ⟨0, [⟨a.root, 0, 0, a.jumps⟩], Nat.zero_le _, rfl, HLs.out.symm, J3.out, B3.out⟩
    case round =>
      obtain ⟨k, pre, hk, rfl, hpl, hjr, hbr⟩ := hrel
      clear c0 c1 c2 c3 J3 B3
      have hsr : W.heap.size + 1 ≤ wr.heap.size := lt_of_heap hbr.out
      by_cases hlt : k < a.ids.length
      · obtain ⟨t, ht⟩ : ∃ t, a.ids[k]? = some t := ⟨_, List.getElem?_eq_getElem hlt⟩
        have hT := HI.out pre wr hjr.out
        obtain ⟨b, off, hA, hbB, hc⟩ := hT (by intro e; rw [e] at hlt; simp at hlt)
        obtain ⟨t0, t1, t2, -⟩ := hc k t ht
        generalize hPA : (P k).1 = PA at *
        generalize hpc : (P k).2 = pc at *
        have HPA := Lib.hid hPA; clear hPA hpc
        have HT := Lib.hid ht
        have ht5 : t.params.length ≤ 1000 := HP5.out t (List.mem_of_getElem? ht)
        have hlt2 := block_of_cell t0
        clear hT hc ht
        subst hA
        have hrb := hbr.out
        have hE := (Ext.refl W.heap.size wr).alloc (by omega) (tyO PA pc t)
        have hj2 := HJ.out _ _ _ hE hjr.out
        have hb2 := Lib.hid (hE.cells _ _ hbr.out rfl)
        have ht2 := Lib.hid (World.alloc_heap_new wr (tyO PA pc t))
        have hs2 : W.heap.size ≤ (wr.alloc (tyO PA pc t)).heap.size := by simp; omega
        obtain ⟨fn, tmps, assign, body, hy, hR⟩ := (HY.out pre ⟨t.result, (k : Int) + 1, 0, a.jumps || decide (0 < t.params.length)⟩ _ _ (by rw [hpl.out, types_cons _ _ HT.out rfl]) hs2 hj2).yield
        unfold encPl plV at hy
        have HR := Lib.hid hR; clear hR
        obtain ⟨c0, c1, c2, c3⟩ := rtO_cells hb2.out
        obtain ⟨e0, e1, e2⟩ := tyO_cells ht2.out
        unfold tyO at hy c0 c1 c2 c3 e0 e1 e2 HR hs2
        clear hrb hE hj2
        cases hjm : a.jumps
        all_goals
          rw [hjm] at hy c3
          simp only [Bool.false_or, Bool.true_or] at hy
          have HJM := Lib.hid hjm; clear hjm
          gi_wp2
          refine HR.out.mono ?_
          rintro e W5 (⟨rfl, hJ5, hK5⟩ | ⟨rfl, hJx5, hK5⟩)
          · have b5 := hK5.same _ _ hb2.out ⟨by decide, by decide⟩
            have t5 := hK5.same _ _ ht2.out ⟨by decide, by decide⟩
            have J5 := Lib.hid hJ5; have B5 := Lib.hid b5; have T5 := Lib.hid t5
            have s5 : W.heap.size + 1 ≤ W5.heap.size := lt_of_heap b5
            clear hK5 hJ5 HR hy c0 c1 c2 c3 e0 e1 e2 b5 hb2 ht2 hs2 t0 t1 t2 hjr hbr
            obtain ⟨e0, e1, e2⟩ := tyO_cells t5
            clear t5
            gi_wp2
            gi_loopw [47] (fun i w5 => ∃ (j : Nat) (pre2 : List Ar.Pl), j ≤ t.params.length ∧ i = .int .i64 j ∧ Hid (Ls = pre2 ++ (Ar.paramsFrom k j (t.params.drop j) ++ Ar.typesFrom a.jumps (k + 1) (a.ids.drop (k + 1)))) ∧ Hid (J pre2 w5) ∧ Hid (w5.heap[W.heap.size]? = some (rtO (some ⟨b, off, none⟩) c a)) ∧ Hid (w5.heap[wr.heap.size]? = some (tyO PA pc t))) (fun i _ => t.params.length - (intOf i).toNat)
            case atStart => exact ⟨0, _, Nat.zero_le _, rfl, by rw [hpl.out, types_cons _ _ HT.out rfl, List.append_assoc]; rfl, J5.out, B5.out, T5.out⟩
            case round =>
              obtain ⟨j, pre2, hj, rfl, hpl2, hjr, hbr, htr⟩ := hrel
              clear e0 e1 e2 J5 B5 T5
              by_cases hjlt : j < t.params.length
              · obtain ⟨q, hq⟩ : ∃ q, t.params[j]? = some q := ⟨_, List.getElem?_eq_getElem hjlt⟩
                have hT2 := HI.out pre2 wr hjr.out
                obtain ⟨b', off', hA', hbB', hc'⟩ := hT2 (by intro e; rw [e] at hlt; simp at hlt)
                obtain ⟨-, -, -, hbas⟩ := hc' k t HT.out
                rw [HPA.out] at hbas
                obtain ⟨pb, poff, hpa, hpB, hcell⟩ := hbas (by intro e; rw [e] at hjlt; simp at hjlt)
                obtain ⟨q0, q1⟩ := hcell j q hq
                have HQ := Lib.hid hq
                have hqlt := block_of_cell q0
                clear hT2 hc' hcell hq hA' hbB' hpB HPA
                subst hpa
                have hE := (Ext.refl W.heap.size wr).alloc (by have := lt_of_heap hbr.out; omega) (.cells #[.bool q.cell, .int .i64 q.n] 25)
                have hj2 := HJ.out _ _ _ hE hjr.out
                have hb2 := Lib.hid (hE.cells _ _ hbr.out rfl)
                have ht2 := Lib.hid (hE.cells _ _ htr.out rfl)
                have hs2 := hE.below.size
                have hs2' : W.heap.size ≤ (wr.alloc (.cells #[.bool q.cell, .int .i64 q.n] 25)).heap.size := Nat.le_trans (by have := lt_of_heap hbr.out; omega) hs2
                obtain ⟨fn, tmps, assign, body, hy, hR⟩ := (HY.out pre2 ⟨q, (k : Int) + 1, (j : Int) + 1, true⟩ _ _ (by rw [hpl2.out, params_cons _ HQ.out]; rfl) hs2' hj2).yield
                unfold encPl plV at hy
                have HR := Lib.hid hR; clear hR
                obtain ⟨e0, e1, e2⟩ := tyO_cells htr.out
                clear hE hj2 hs2 hs2'
                gi_wp2
                refine HR.out.mono ?_
                rintro e W6 (⟨rfl, hJ6, hK6⟩ | ⟨rfl, hJx6, hK6⟩)
                · have b6 := Lib.hid (hK6.same _ _ hb2.out ⟨by decide, by decide⟩)
                  have t6 := Lib.hid (hK6.same _ _ ht2.out ⟨by decide, by decide⟩)
                  have J6 := Lib.hid hJ6
                  clear hK6 hJ6 HR hy e0 e1 e2 hb2 ht2 q0 q1 hjr hbr htr
                  gi_wp2
                  go_roundw
                  case rel => exact ⟨j + 1, pre2 ++ [(⟨q, (k : Int) + 1, (j : Int) + 1, true⟩ : Ar.Pl)], by omega, by go_num, by rw [Hid, hpl2.out, params_cons _ HQ.out]; simp, J6.out, b6.out, t6.out⟩
                  case measure => simp [intOf]; omega
                · gi_wp2
                  refine bodyPost_ret (results_none rfl _ _ _) rfl ?_
                  exact ⟨⟨_, rfl⟩, .inr hJx6⟩
              · obtain rfl : j = t.params.length := by omega
                gi_wp2
                go_roundw
                case rel => exact ⟨k + 1, pre2, by omega, by go_num, by have h := hpl2.out; rw [HJM.out, List.drop_length] at h; exact h, hjr.out, hbr.out⟩
                case measure => simp [intOf]; omega
          · gi_wp2
            refine bodyPost_ret (results_none rfl _ _ _) rfl ?_
            exact ⟨⟨_, rfl⟩, .inr hJx5⟩
      · obtain rfl : k = a.ids.length := by omega
        gi_wp2
        go_end0
        exact ⟨⟨_, rfl⟩, .inl (by rw [hpl.out, List.drop_length, Ar.typesFrom, List.append_nil]; exact hjr.out)⟩
  · gi_wp2
    refine bodyPost_ret (results_none rfl _ _ _) rfl ?_
    exact ⟨⟨_, rfl⟩, .inr hJx3⟩
end Go.Proofs.YtepdlghobopdbaaGreatDoor
