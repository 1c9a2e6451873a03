/-
  WALKS: the reference: Read.
-/
import Derived.Test.YtepdlghobopdbaaGreatDoorHj
import Derived.Test.YtepdlghobopdbaaGreatDoorFr
namespace Go.Proofs.YtepdlghobopdbaaGreatDoor
open Go.RowKit Go.MapKept Go.Shelf
namespace Ar
theorem tail_jumps {l : List ByteArray} {k : Nat} (hk : l[k]? = some jumpsB) (hl : k + 1 = l.length) : l.getLast? = some jumpsB ∧ (refTail l).length = k := by
  have h1 : l.getLast? = some jumpsB := by rw [List.getLast?_eq_getElem?, ← hl, Nat.add_sub_cancel]; exact hk
  refine ⟨h1, ?_⟩
  unfold refTail
  rw [if_pos h1, List.length_dropLast]
  omega
theorem tail_other {l : List ByteArray} {k : Nat} {x : ByteArray} (hk : l[k]? = some x) (h : ¬ (k + 1 = l.length ∧ x = jumpsB)) : (refTail l)[k]? = some x ∧ (decide (l.getLast? = some jumpsB) && decide (k + 1 = l.length)) = false := by
  have hlt := (List.getElem?_eq_some_iff.1 hk).1
  have hlast : l.getLast? = some jumpsB → k + 1 ≠ l.length := fun h1 h2 => by
    rw [List.getLast?_eq_getElem?, ← h2, Nat.add_sub_cancel, hk] at h1
    exact h ⟨h2, Option.some.inj h1⟩
  constructor
  · unfold refTail
    split
    · rename_i h1
      have := hlast h1
      rw [List.getElem?_dropLast, if_pos (by omega)]
      exact hk
    · exact hk
  · by_cases h1 : l.getLast? = some jumpsB
    · rw [decide_eq_false (hlast h1), Bool.and_false]
    · rw [decide_eq_false h1, Bool.false_and]
theorem tail_le (l : List ByteArray) : (refTail l).length ≤ l.length := by
  unfold refTail
  split
  · rw [List.length_dropLast]; omega
  · exact Nat.le_refl _
theorem tail_mem {l : List ByteArray} {x : ByteArray} (h : x ∈ refTail l) : x ∈ l := by
  unfold refTail at h
  split at h
  · exact (List.dropLast_sublist l).subset h
  · exact h
end Ar

theorem pt_len (L : List Pt) : (L.flatMap ptCells).length = L.length * 3 := by
  induction L with
  | nil => rfl
  | cons x L ih => rw [List.flatMap_cons, List.length_append, ih, List.length_cons, ptCells_len]; omega
theorem refTy_len (s : ByteArray) : (Ar.refTy s).params.length ≤ s.size + 1 := by
  unfold Ar.refTy
  show (ite _ _ _ : List Ar.Bs).length ≤ _
  split
  · rw [List.length_map]
    obtain ⟨x, l, hx⟩ := Ar.splitBs_ne s ⟨#[41, 32, 45, 62, 32]⟩
    have h1 := Ar.splitBs_len (s := ((Ar.splitBs s ⟨#[41, 32, 45, 62, 32]⟩).headD ⟨#[]⟩).extract 1 ((Ar.splitBs s ⟨#[41, 32, 45, 62, 32]⟩).headD ⟨#[]⟩).size) (sep := ⟨#[44, 32]⟩) (by decide)
    have h2 : ((Ar.splitBs s ⟨#[41, 32, 45, 62, 32]⟩).headD ⟨#[]⟩).size ≤ s.size := by
      rw [hx]
      exact Ar.splitBs_size (by rw [hx]; simp)
    rw [ByteArray.size_extract] at h1
    omega
  · exact Nat.zero_le _

/-- What lies in the blocks of Read, while types are read. -/
structure RG (w : World) (b g : Nat) (PL : List ByteArray) (A : Option Addr) (m c : Nat) (y : Ar.Bs) (jf : Bool) (W : World) : Prop where
  below : Below w.heap.size w W
  res : W.heap[w.heap.size]? = some (.cells #[.slice none 0 0, .bool false, .int .i64 0, .bool false] 27 (0, 0))
  ar : W.heap[b]? = some (.cells #[.slice A m c, .bool y.cell, .int .i64 y.n, .bool jf] 27 (0, 0))
  par : StrB W g PL
theorem RG.next {w W W' : World} {b g : Nat} {PL : List ByteArray} {A : Option Addr} {m c : Nat} {y : Ar.Bs} {jf : Bool} (h : RG w b g PL A m c y jf W) (hB : Below W.heap.size W W') : RG w b g PL A m c y jf W' :=
  ⟨h.below.trans (hB.mono h.below.size), (hB.block _ (lt_of_heap h.res)).trans h.res, (hB.block _ (lt_of_heap h.ar)).trans h.ar, h.par.next hB⟩

set_option maxRecDepth 100000 in
set_option maxHeartbeats 16000000 in
theorem refRead_any (s : ByteArray) (hs : s.size ≤ 900000) (w : World) :
    Calls Tryz.prog 8 #[.string s] w fun e w' => ∃ (A' : Option Addr) (c' : Nat) (P' : Nat → Option Addr × Nat), e = .returned (.tuple #[.agg #[.slice A' (Ar.readRes s).1.ids.length c', .bool (Ar.readRes s).1.root.cell, .int .i64 (Ar.readRes s).1.root.n, .bool (Ar.readRes s).1.jumps], .int .i64 ((Ar.readRes s).2 : Int)]) ∧ ArM w' A' P' (Ar.readRes s).1 ∧ Below w.heap.size w w' := by
  rw [← Ar.fits_both]
  have hB0 : Below w.heap.size w (w.alloc (.cells #[.slice none 0 0, .bool false, .int .i64 0, .bool false] 27 (0, 0))) := (Below.refl _ _).alloc (Nat.le_refl _) _
  have j0 := Lib.hid (World.alloc_heap_new w (.cells #[.slice none 0 0, .bool false, .int .i64 0, .bool false] 27 (0, 0)))
  obtain ⟨x0, l, hL⟩ := Ar.splitBs_ne s ⟨#[59, 32]⟩
  obtain ⟨m1, hm1⟩ : ∃ m1, l.length = m1 := ⟨_, rfl⟩
  have hall : ∀ x ∈ x0 :: l, x.size ≤ 900000 := fun x hx => by
    rw [← hL] at hx
    have := Ar.splitBs_size hx
    omega
  have hmle : m1 ≤ 1000000 := by
    have := Ar.splitBs_len (s := s) (sep := ⟨#[59, 32]⟩) (by decide)
    rw [hL, List.length_cons] at this
    omega
  have hra : Ar.refAr s = ⟨(Ar.refTail l).map Ar.refTy, Ar.refBs x0, decide (l.getLast? = some Ar.jumpsB)⟩ := by
    unfold Ar.refAr Ar.refTails
    rw [hL]
    rfl
  rw [hra]
  have HS := Lib.hid (fun W => (refSplit_strs s ⟨#[59, 32]⟩ (by omega) (by decide) (by decide) W).mono fun (e : Ending) (w' : World) h => (show ∃ g c', e = .returned (.slice (some ⟨g, 0, none⟩) (m1 + 1) c') ∧ W.heap.size ≤ g ∧ StrB w' g (x0 :: l) ∧ Below W.heap.size W w' from by rw [hL, List.length_cons, hm1] at h; exact h))
  have HR := Lib.hid (fun W => refBase_any x0 (by have := hall x0 (by simp); omega) W)
  have HRT := Lib.hid (fun (x : ByteArray) (hx : x ∈ x0 :: l) W => refType_any x (hall x hx) W)
  have hT1 : ∀ t ∈ (Ar.refTail l).map Ar.refTy, t.params.length ≤ 1000000 := fun t ht => by
    obtain ⟨x, hx, rfl⟩ := List.mem_map.1 ht
    have h1 := hall x (List.mem_cons_of_mem _ (Ar.tail_mem hx))
    have h2 := refTy_len x
    omega
  have hT2 : ((Ar.refTail l).map Ar.refTy).length ≤ 1000000 := by
    have := Ar.tail_le l
    rw [List.length_map]; omega
  have HSH := Lib.hid (fun A' c' P' W (hA : ArM W A' P' ⟨(Ar.refTail l).map Ar.refTy, Ar.refBs x0, decide (l.getLast? = some Ar.jumpsB)⟩) => refShow_any ⟨(Ar.refTail l).map Ar.refTy, Ar.refBs x0, decide (l.getLast? = some Ar.jumpsB)⟩ A' c' P' W hA)
  have HQ2 : Hid (wrap64 (((m1 + 1 : Nat) : Int) - 1) = (m1 : Int)) := by rw [Hid]; unfold wrap64; omega
  have HQ3 : Hid (IntKind.i64.wrap (((m1 + 1 : Nat) : Int) - 1) = (m1 : Int)) := by rw [Hid, IntWalk.i64_left]; exact HQ2.out
  have hnle : m1 + 1 ≤ 1000001 := by omega
  have hq4 : (0 : Int) < ((m1 + 1 : Nat) : Int) := by omega
  have HM1 := Lib.hid hm1
  have HMLE := Lib.hid hmle
  have HT1 := Lib.hid hT1
  have HT2 := Lib.hid hT2
  have hjm0 : Hid ((decide (l.getLast? = some Ar.jumpsB) && decide (1 = m1 + 1)) = false) := by
    rw [Hid, ← hm1]
    cases l with
    | nil => rfl
    | cons z l => simp
  generalize hn : m1 + 1 = n at *
  have HN := Lib.hid hn
  generalize Ar.refBs x0 = y at *
  generalize hjm : decide (l.getLast? = some Ar.jumpsB) = jm at *
  have HJM := Lib.hid hjm
  generalize hTT : (Ar.refTail l).map Ar.refTy = T at *
  have HTT := Lib.hid hTT
  obtain ⟨i0, hi, hz0, hz1, hz2⟩ := info_parts infoTy
  clear hra hL hall hs hmle hm1 hT1 hT2 hn hjm hTT
  go_enter Tryz.func8, Tryz.ntmps8
  go_wp2_with (first
    | (go_at_call 29; refine (HR.out _).mono ?_; rintro e w2 ⟨rfl, hB2⟩; have hBw2 := hBw1.trans (hB2.mono hBw1.size); have j2 := (hB2.block _ (lt_of_heap j1)).trans j1; have hAl := (Below.refl w2.heap.size w2).alloc (Nat.le_refl _) (.cells #[.slice none 0 0, .bool y.cell, .int .i64 y.n, .bool false] 27 (0, 0)); have i3 := World.alloc_heap_new w2 (.cells #[.slice none 0 0, .bool y.cell, .int .i64 y.n, .bool false] 27 (0, 0)); have hRG : RG w w2.heap.size g (x0 :: l) none 0 0 y false (w2.alloc (.cells #[.slice none 0 0, .bool y.cell, .int .i64 y.n, .bool false] 27 (0, 0))) := ⟨hBw2.trans (hAl.mono hBw2.size), (hAl.block _ (lt_of_heap j2)).trans j2, i3, (hst.next hB2).next hAl⟩)
    | (go_at_call 28; refine (HS.out _).mono ?_; rintro e w1 ⟨g, c', rfl, hg, hst, hB1⟩; have hBw1 := hB0.trans (hB1.mono hB0.size); have j1 := (hB1.block _ (lt_of_heap j0.out)).trans j0.out; have cl := hst.cell (i := 0) (x := x0) rfl))
  have hlt1 : w.heap.size < w2.heap.size := lt_of_heap j2
  have hng : w2.heap.size ≠ g := by
    obtain ⟨cs, hcs, -⟩ := hst.next hB2
    exact Nat.ne_of_gt (lt_of_heap hcs)
  have HSZ2 : Hid (w2.heap.size + 1 ≤ (w2.alloc (.cells #[.slice none 0 0, .bool y.cell, .int .i64 y.n, .bool false] 27 (0, 0))).heap.size) := by rw [Hid, size_alloc]; exact Nat.le_refl _
  have HLT1 := Lib.hid hlt1
  have HNG := Lib.hid hng
  have HRG := Lib.hid hRG
  generalize w2.alloc (.cells #[.slice none 0 0, .bool y.cell, .int .i64 y.n, .bool false] 27 (0, 0)) = w5 at *
  generalize hbb : w2.heap.size = b at *
  clear i3 hAl hRG hst hbb hng hlt1 j2 hBw2 hB2 j1 cl hBw1 hB1 hg
  go_loopw [6] (fun v wr => ∃ (i m : Nat) (A9 : Option Addr) (c9 : Nat) (Lp : List Pt), v = .int .i64 (i : Int) ∧ i ≤ n ∧ m + 1 ≤ i ∧ Hid (Lp.map Prod.fst = ((Ar.refTail l).take (i - 1)).map Ar.refTy) ∧ Hid (RowT wr (b + 1) A9 c9 m Lp) ∧ Hid (RG w b g (x0 :: l) A9 m c9 y (jm && decide (i = n)) wr) ∧ Hid (b + 1 ≤ wr.heap.size)) (fun v _ => n - (intOf v).toNat)
  case atStart => exact ⟨1, 0, none, 0, [], rfl, by have := HN.out; omega, Nat.le_refl _, rfl, ⟨World.ownsRow_nil _ _ _ _, fun x hx => by cases hx⟩, by rw [Hid, hjm0.out]; exact HRG.out, HSZ2.out⟩
  case round =>
    obtain ⟨i, m, A9, c9, Lp, rfl, hin, hmi, hLp, hrow, hrg, hsz⟩ := hrel
    obtain ⟨k, hik⟩ : ∃ k, i = k + 1 := ⟨i - 1, by omega⟩
    have HIK := Lib.hid hik
    have hi0 : (0 : Int) ≤ (i : Int) := by omega
    by_cases hlt : i < n
    · have hi1 : (i : Int) < (n : Int) := by omega
      have hkl : Hid (k < l.length) := by have := HM1.out; have := HN.out; rw [Hid]; omega
      obtain ⟨x, hx⟩ : ∃ x, l[k]? = some x := ⟨_, List.getElem?_eq_getElem hkl.out⟩
      have hxi : (x0 :: l)[i]? = some x := by rw [hik]; exact hx
      have c0 := hrg.out.par.cell hxi
      have HXM : Hid (x ∈ x0 :: l) := List.mem_of_getElem? hxi
      have HX := Lib.hid hx
      have hjf : (jm && decide (i = n)) = false := by rw [decide_eq_false (by omega), Bool.and_false]
      rw [hjf] at hrg
      have HA1 : Hid (m + 1 ≤ maxLen) := by rw [Hid]; have := HMLE.out; have := HN.out; unfold maxLen; omega
      have HA2 : Hid ((m + 1) * 40 ≤ 140737488355328) := by rw [Hid]; have := HMLE.out; have := HN.out; omega
      have HI1 : Hid (i + 1 ≤ n) := hlt
      have HMI : Hid (m + 2 ≤ i + 1) := by rw [Hid]; omega
      obtain ⟨d0, d1, d2, d3, hf0, hf1, hf2, hf3⟩ := cells4 hrg.out.ar
      have hI2 : Hid ((k + 1 = l.length) ↔ i = m1) := by have := HM1.out; rw [Hid]; omega
      clear hx hxi hjf hik hmi
      by_cases hj : i = m1 ∧ x = Ar.jumpsB
      · obtain ⟨hj1, hj2⟩ := hj
        have hc1 : ((i : Int) == (m1 : Int)) = true := by rw [beq_iff_eq, hj1]
        have hc2 : (x.toList == [106, 117, 109, 112, 115]) = true := by rw [hj2, ByteArray.toList_eq]; rfl
        have HTJ := Lib.hid (Ar.tail_jumps (by have := HX.out; rw [hj2] at this; exact this) (hI2.out.2 hj1))
        have HJ1 := Lib.hid hj1
        clear hj1 hj2
        have hq2 := HQ2.out
        have hq3 := HQ3.out
        go_wp2
        clear hq2 hq3
        go_roundw
        case rel =>
          have n2 : b < b + 1 := Nat.lt_succ_self b
          have n4 : w.heap.size ≠ b := Nat.ne_of_lt HLT1.out
          refine ⟨i + 1, m, A9, c9, Lp, by go_num, HI1.out, by have := HMI.out; omega, ?_, hrow.out.set n2, ⟨?_, ?_, ?_, ?_⟩, ?_⟩
          · have h1 := hLp.out
            have h2 := HIK.out
            have h3 := HTJ.out.2
            rw [h2, Nat.add_sub_cancel, List.take_of_length_le (by omega)] at h1
            rw [Hid, h1, List.take_of_length_le (by omega)]
          · exact hrg.out.below.setCell (p := ⟨b, 3, none⟩) (Nat.le_of_lt HLT1.out) _
          · exact (Below.heap_setCell _ _ _ _ n4).trans hrg.out.res
          · have h1 : (jm && decide (i + 1 = n)) = true := by
              have h2 := HJM.out
              rw [decide_eq_true HTJ.out.1] at h2
              have h3 := HJ1.out
              have h4 := HN.out
              rw [← h2, decide_eq_true (by omega)]
              rfl
            rw [h1]
            exact set_block hrg.out.ar
          · exact hrg.out.par.set (fun e => HNG.out e.symm)
          · rw [Hid, World.size_setCell]; exact hsz.out
        case measure => simp [intOf]; omega
      · have HTO := Lib.hid (Ar.tail_other HX.out (fun h => hj ⟨hI2.out.1 h.1, h.2⟩))
        have HC := Lib.hid (HRT.out x HXM.out)
        unfold tyV at HC
        generalize hy : Ar.refTy x = z at *
        have HY := Lib.hid hy
        clear hy
        by_cases hj1 : i = m1
        · have hj2 : x ≠ Ar.jumpsB := fun e => hj ⟨hj1, e⟩
          have hc1 : ((i : Int) == (m1 : Int)) = true := by rw [beq_iff_eq, hj1]
          have hc2 : (x.toList == [106, 117, 109, 112, 115]) = false := by
            rw [beq_eq_false_iff_ne, ByteArray.toList_eq]
            exact fun e => hj2 (Ar.bytes_inj e)
          clear hj hj1 hj2
          have hq2 := HQ2.out
          have hq3 := HQ3.out
          go_wp2
          clear hq2 hq3
          go_region_law (first
            | (go_simp; go_at_call 30; refine (HC.out _).mono ?_; rintro e w6 ⟨A', c', rfl, hbo, hnl, hB6⟩; have hrow6 := Lib.hid ((hrow.out.next ((Below.refl _ _).drew)).next hB6); have hrg6 := Lib.hid ((hrg.out.next ((Below.refl _ _).drew)).next hB6); have HBO := Lib.hid hbo; have HNL := Lib.hid hnl; clear hbo hnl; obtain ⟨x0', x1', x2', x3', xf, -, -, -⟩ := cells4 hrg6.out.ar; have hal6 := (Below.refl w6.heap.size w6).alloc (Nat.le_refl _) (.cells #[.slice A' z.params.length c', .bool z.result.cell, .int .i64 z.result.n] 53 (0, 0)); have hrg7 := Lib.hid (hrg6.out.next hal6); have hrow7 := Lib.hid (hrow6.out.next hal6); clear hal6; obtain ⟨v0, v1, v2, v3, vf, -, -, -⟩ := cells4 hrg7.out.ar)
            | (refine step_append_any _ (by rfl) _ _ _ (by rfl) (b + 1) 53 i0 _ 3 40 Tryz.underlying23 hi hz0 hz1 hz2 rfl (by omega) (.slice A9 m c9) m (Lp.flatMap ptCells) (by rfl) hrow7.out.row (some ⟨w6.heap.size, 0, none⟩) 1 1 (m + 1) rfl (ptCells (z, (A', c'))) (by rfl) (fun h => by cases h) rfl (fun ad had j u hu => by cases had; exact World.news_of_block (cs := (ptCells (z, (A', c'))).toArray) (t := 53) (fr := (0, 0)) (World.alloc_heap_new w6 _) j u hu) (ptCells_one _) HA1.out HA2.out (Nat.le_trans hsz.out (Nat.le_trans hB6.size (by rw [size_alloc]; exact Nat.le_succ _))) ?_; intro A8 c8 w9 hown9 hgrow; have hk9 := Lib.hid (grown_far hrow7.out.row hgrow hrg7.out.ar (Nat.lt_succ_self b)); obtain ⟨z0, z1, z2, z3, zf, -, -, -⟩ := cells4 hk9.out))
          all_goals go_wp2
          all_goals
            clear z0 z1 z2 z3 zf x0' x1' x2' x3' xf v0 v1 v2 v3 vf d0 d1 d2 d3 hf0 hf1 hf2 hf3 c0
            go_roundw
            case rel =>
              have n2 : b < b + 1 := Nat.lt_succ_self b
              have n3 : w.heap.size < b + 1 := Nat.lt_succ_of_lt HLT1.out
              have n4 : w.heap.size ≠ b := Nat.ne_of_lt HLT1.out
              have n6 : w.heap.size ≤ b := Nat.le_of_lt HLT1.out
              have kb1 : KB (b + 1) w6 (w9.setCell ⟨b, 0, none⟩ (.slice A8 (m + 1) c8)) := ((KB.below ((Below.refl _ _).alloc (Nat.le_refl _) _)).trans (KB.grown hrow7.out.row hgrow (by decide))).trans (KB.set _ n2)
              have kb7 : KB (b + 1) (w6.alloc (.cells #[.slice A' z.params.length c', .bool z.result.cell, .int .i64 z.result.n] 53 (0, 0))) (w9.setCell ⟨b, 0, none⟩ (.slice A8 (m + 1) c8)) := (KB.grown hrow7.out.row hgrow (by decide)).trans (KB.set _ n2)
              have hjf : (jm && decide (i + 1 = n)) = false := by
                have h1 := HTO.out.2
                have h2 := HJM.out
                have h3 := HIK.out
                have h4 := HM1.out
                have h5 := HN.out
                rw [h2] at h1
                rw [show decide (i + 1 = n) = decide (k + 1 = l.length) by rw [decide_eq_decide]; omega]
                exact h1
              refine ⟨i + 1, m + 1, A8, c8, Lp ++ [(z, (A', c'))], by go_num, HI1.out, HMI.out, ?_, ⟨?_, ?_⟩, ⟨?_, ?_, ?_, ?_⟩, ?_⟩
              · have h1 := hLp.out
                have h2 := HIK.out
                have h3 := HTO.out.1
                have h4 := HY.out
                have h5 := (List.getElem?_eq_some_iff.1 h3).1
                rw [h2, Nat.add_sub_cancel] at h1
                rw [Hid, h2, Nat.add_sub_cancel, List.map_append, h1, List.take_add_one, h3, List.map_append]
                simp [h4]
              · rw [List.flatMap_append, List.flatMap_singleton]
                exact own_set hown9 n2
              · intro q hq
                rcases List.mem_append.1 hq with hq | hq
                · exact (hrow7.out.pts q hq).keep kb7
                · obtain rfl := List.mem_singleton.1 hq
                  exact ⟨(HBO.out.mono hsz.out).keep kb1, HNL.out⟩
              · exact (hrg7.out.below.grown hgrow hrg7.out.below.size (fun j e => by have := own_low hrow7.out.row e; omega)).setCell (p := ⟨b, 0, none⟩) n6 _
              · exact (Below.heap_setCell _ _ _ _ n4).trans (grown_far hrow7.out.row hgrow hrg7.out.res n3)
              · rw [hjf]; exact set_block hk9.out
              · exact (hrg7.out.par.grown hrow7.out.row hgrow (by decide)).set (fun e => HNG.out e.symm)
              · rw [Hid, World.size_setCell]
                exact Nat.le_trans hsz.out (Nat.le_trans hB6.size (Nat.le_trans (by rw [size_alloc]; exact Nat.le_succ _) hgrow.size))
            case measure => simp [intOf]; omega
        · have hc1 : ((i : Int) == (m1 : Int)) = false := by rw [beq_eq_false_iff_ne]; omega
          clear hj hj1
          have hq2 := HQ2.out
          have hq3 := HQ3.out
          go_wp2
          clear hq2 hq3
          go_region_law (first
            | (go_simp; go_at_call 30; refine (HC.out _).mono ?_; rintro e w6 ⟨A', c', rfl, hbo, hnl, hB6⟩; have hrow6 := Lib.hid ((hrow.out.next ((Below.refl _ _).drew)).next hB6); have hrg6 := Lib.hid ((hrg.out.next ((Below.refl _ _).drew)).next hB6); have HBO := Lib.hid hbo; have HNL := Lib.hid hnl; clear hbo hnl; obtain ⟨x0', x1', x2', x3', xf, -, -, -⟩ := cells4 hrg6.out.ar; have hal6 := (Below.refl w6.heap.size w6).alloc (Nat.le_refl _) (.cells #[.slice A' z.params.length c', .bool z.result.cell, .int .i64 z.result.n] 53 (0, 0)); have hrg7 := Lib.hid (hrg6.out.next hal6); have hrow7 := Lib.hid (hrow6.out.next hal6); clear hal6; obtain ⟨v0, v1, v2, v3, vf, -, -, -⟩ := cells4 hrg7.out.ar)
            | (refine step_append_any _ (by rfl) _ _ _ (by rfl) (b + 1) 53 i0 _ 3 40 Tryz.underlying23 hi hz0 hz1 hz2 rfl (by omega) (.slice A9 m c9) m (Lp.flatMap ptCells) (by rfl) hrow7.out.row (some ⟨w6.heap.size, 0, none⟩) 1 1 (m + 1) rfl (ptCells (z, (A', c'))) (by rfl) (fun h => by cases h) rfl (fun ad had j u hu => by cases had; exact World.news_of_block (cs := (ptCells (z, (A', c'))).toArray) (t := 53) (fr := (0, 0)) (World.alloc_heap_new w6 _) j u hu) (ptCells_one _) HA1.out HA2.out (Nat.le_trans hsz.out (Nat.le_trans hB6.size (by rw [size_alloc]; exact Nat.le_succ _))) ?_; intro A8 c8 w9 hown9 hgrow; have hk9 := Lib.hid (grown_far hrow7.out.row hgrow hrg7.out.ar (Nat.lt_succ_self b)); obtain ⟨z0, z1, z2, z3, zf, -, -, -⟩ := cells4 hk9.out))
          all_goals go_wp2
          all_goals
            clear z0 z1 z2 z3 zf x0' x1' x2' x3' xf v0 v1 v2 v3 vf d0 d1 d2 d3 hf0 hf1 hf2 hf3 c0
            go_roundw
            case rel =>
              have n2 : b < b + 1 := Nat.lt_succ_self b
              have n3 : w.heap.size < b + 1 := Nat.lt_succ_of_lt HLT1.out
              have n4 : w.heap.size ≠ b := Nat.ne_of_lt HLT1.out
              have n6 : w.heap.size ≤ b := Nat.le_of_lt HLT1.out
              have kb1 : KB (b + 1) w6 (w9.setCell ⟨b, 0, none⟩ (.slice A8 (m + 1) c8)) := ((KB.below ((Below.refl _ _).alloc (Nat.le_refl _) _)).trans (KB.grown hrow7.out.row hgrow (by decide))).trans (KB.set _ n2)
              have kb7 : KB (b + 1) (w6.alloc (.cells #[.slice A' z.params.length c', .bool z.result.cell, .int .i64 z.result.n] 53 (0, 0))) (w9.setCell ⟨b, 0, none⟩ (.slice A8 (m + 1) c8)) := (KB.grown hrow7.out.row hgrow (by decide)).trans (KB.set _ n2)
              have hjf : (jm && decide (i + 1 = n)) = false := by
                have h1 := HTO.out.2
                have h2 := HJM.out
                have h3 := HIK.out
                have h4 := HM1.out
                have h5 := HN.out
                rw [h2] at h1
                rw [show decide (i + 1 = n) = decide (k + 1 = l.length) by rw [decide_eq_decide]; omega]
                exact h1
              refine ⟨i + 1, m + 1, A8, c8, Lp ++ [(z, (A', c'))], by go_num, HI1.out, HMI.out, ?_, ⟨?_, ?_⟩, ⟨?_, ?_, ?_, ?_⟩, ?_⟩
              · have h1 := hLp.out
                have h2 := HIK.out
                have h3 := HTO.out.1
                have h4 := HY.out
                have h5 := (List.getElem?_eq_some_iff.1 h3).1
                rw [h2, Nat.add_sub_cancel] at h1
                rw [Hid, h2, Nat.add_sub_cancel, List.map_append, h1, List.take_add_one, h3, List.map_append]
                simp [h4]
              · rw [List.flatMap_append, List.flatMap_singleton]
                exact own_set hown9 n2
              · intro q hq
                rcases List.mem_append.1 hq with hq | hq
                · exact (hrow7.out.pts q hq).keep kb7
                · obtain rfl := List.mem_singleton.1 hq
                  exact ⟨(HBO.out.mono hsz.out).keep kb1, HNL.out⟩
              · exact (hrg7.out.below.grown hgrow hrg7.out.below.size (fun j e => by have := own_low hrow7.out.row e; omega)).setCell (p := ⟨b, 0, none⟩) n6 _
              · exact (Below.heap_setCell _ _ _ _ n4).trans (grown_far hrow7.out.row hgrow hrg7.out.res n3)
              · rw [hjf]; exact set_block hk9.out
              · exact (hrg7.out.par.grown hrow7.out.row hgrow (by decide)).set (fun e => HNG.out e.symm)
              · rw [Hid, World.size_setCell]
                exact Nat.le_trans hsz.out (Nat.le_trans hB6.size (Nat.le_trans (by rw [size_alloc]; exact Nat.le_succ _) hgrow.size))
            case measure => simp [intOf]; omega
    · obtain rfl : i = n := by omega
      have hi1 : ¬ ((i : Int) < (i : Int)) := by omega
      have hjf : (jm && decide (i = i)) = jm := by simp
      rw [hjf] at hrg
      obtain ⟨d0, d1, d2, d3, hf0, hf1, hf2, hf3⟩ := cells4 hrg.out.ar
      have hLL : Hid (Lp.map Prod.fst = T) := by
        have h1 := hLp.out
        have h2 := HIK.out
        have h3 := Ar.tail_le l
        have h4 := HM1.out
        have h5 := HN.out
        rw [List.take_of_length_le (by omega), HTT.out] at h1
        exact h1
      have hml : m = T.length := by
        have h1 := congrArg List.length hLL.out
        have h2 := hrow.out.row.1
        rw [List.length_map] at h1
        have h3 : (Lp.flatMap ptCells).length = Lp.length * 3 := pt_len Lp
        omega
      subst hml
      have hAM := Lib.hid (row_arM (a := ⟨T, y, jm⟩) hrow.out hLL.out HT2.out HT1.out)
      clear hLp hjf HQ2 HQ3
      have HSHH := Lib.hid (HSH.out A9 c9 (ptP Lp) _ hAM.out)
      clear HSH
      have n3 : w.heap.size < b + 1 := Nat.lt_succ_of_lt HLT1.out
      by_cases hf : Ar.showRes ⟨T, y, jm⟩ = (s, 0)
      · have HRR : Hid (Ar.fitsA s ⟨T, y, jm⟩ = (⟨T, y, jm⟩, 0)) := by unfold Ar.fitsA; rw [Hid, if_pos hf]
        rw [hf] at HSHH
        clear hf
        go_wp2_with (go_at_call 31; refine HSHH.out.mono ?_; rintro e w8 ⟨rfl, hB8⟩; have hrg8 := hrg.out.next hB8; have hrow8 := Lib.hid (hrow.out.next hB8); clear d0 d1 d2 d3 hf0 hf1 hf2 hf3; obtain ⟨d0, d1, d2, d3, hf0, hf1, hf2, hf3⟩ := cells4 hrg8.ar; obtain ⟨r0, r1, r2, r3, f0, f1, f2, f3⟩ := cells4 hrg8.res)
        have hbel := hrg8.below
        refine bodyPost_ret (v := .tuple #[.agg #[.slice A9 T.length c9, .bool y.cell, .int .i64 y.n, .bool jm], .int .i64 0]) (by simp [results, Tryz.results8, go_sem, World.cell?_setCell_same', r0, r1, r2, r3]) rfl ⟨A9, c9, ptP Lp, by rw [HRR.out]; rfl, ?_, ?_⟩
        · rw [HRR.out]
          exact row_arM (a := ⟨T, y, jm⟩) ((((hrow8.out.set (j := 0) n3).set (j := 1) n3).set (j := 2) n3).set (j := 3) n3) hLL.out HT2.out HT1.out
        · iterate 4 (refine Below.setCell ?_ (by simp) _)
          exact hbel
      · have HRR : Hid (Ar.fitsA s ⟨T, y, jm⟩ = (Ar.noAre, 4)) := by unfold Ar.fitsA; rw [Hid, if_neg hf]
        have hne : (Ar.showRes ⟨T, y, jm⟩).1 ≠ s ∨ (Ar.showRes ⟨T, y, jm⟩).2 ≠ 0 := by
          by_cases h1 : (Ar.showRes ⟨T, y, jm⟩).1 = s
          · exact .inr (fun h2 => hf (Prod.ext h1 h2))
          · exact .inl h1
        clear hf
        generalize (Ar.showRes ⟨T, y, jm⟩).1 = S1 at *
        generalize (Ar.showRes ⟨T, y, jm⟩).2 = S2 at *
        by_cases h2 : S2 = 0
        · subst h2
          have hs1 : (S1.toList == s.toList) = false := by
            rw [beq_eq_false_iff_ne, ByteArray.toList_eq, ByteArray.toList_eq]
            exact fun e => hne.elim (fun h => h (Ar.bytes_inj e)) (fun h => h rfl)
          clear hne
          go_wp2_with (go_at_call 31; refine HSHH.out.mono ?_; rintro e w8 ⟨rfl, hB8⟩; have hrg8 := hrg.out.next hB8; have hrow8 := Lib.hid (hrow.out.next hB8); clear d0 d1 d2 d3 hf0 hf1 hf2 hf3; obtain ⟨d0, d1, d2, d3, hf0, hf1, hf2, hf3⟩ := cells4 hrg8.ar; obtain ⟨r0, r1, r2, r3, f0, f1, f2, f3⟩ := cells4 hrg8.res)
          have hbel := hrg8.below
          refine bodyPost_ret (v := .tuple #[.agg #[.slice none 0 0, .bool false, .int .i64 0, .bool false], .int .i64 4]) (by simp [results, Tryz.results8, go_sem, World.cell?_setCell_same', r0, r1, r2, r3]) rfl ⟨none, 0, fun _ => (none, 0), by rw [HRR.out]; rfl, by rw [HRR.out]; exact noAre_m _, ?_⟩
          iterate 4 (refine Below.setCell ?_ (by simp) _)
          exact hbel
        · have hs2 : (((S2 : Nat) : Int) != 0) = true := by rw [bne_iff_ne]; omega
          clear hne h2
          go_wp2_with (go_at_call 31; refine HSHH.out.mono ?_; rintro e w8 ⟨rfl, hB8⟩; have hrg8 := hrg.out.next hB8; have hrow8 := Lib.hid (hrow.out.next hB8); clear d0 d1 d2 d3 hf0 hf1 hf2 hf3; obtain ⟨d0, d1, d2, d3, hf0, hf1, hf2, hf3⟩ := cells4 hrg8.ar; obtain ⟨r0, r1, r2, r3, f0, f1, f2, f3⟩ := cells4 hrg8.res)
          have hbel := hrg8.below
          refine bodyPost_ret (v := .tuple #[.agg #[.slice none 0 0, .bool false, .int .i64 0, .bool false], .int .i64 4]) (by simp [results, Tryz.results8, go_sem, World.cell?_setCell_same', r0, r1, r2, r3]) rfl ⟨none, 0, fun _ => (none, 0), by rw [HRR.out]; rfl, by rw [HRR.out]; exact noAre_m _, ?_⟩
          iterate 4 (refine Below.setCell ?_ (by simp) _)
          exact hbel
end Go.Proofs.YtepdlghobopdbaaGreatDoor
