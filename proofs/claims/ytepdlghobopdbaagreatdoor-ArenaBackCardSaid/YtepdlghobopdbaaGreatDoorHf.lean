/-
  PLAIN: what is told of the texts of moves and arenas, without their last byte.
  WALKS: ArenaBack.
-/
import Derived.Test.YtepdlghobopdbaaGreatDoorHc
import Derived.Test.YtepdlghobopdbaaGreatDoorHd
import Derived.Test.YtepdlghobopdbaaGreatDoorDk
import Derived.Test.YtepdlghobopdbaaGreatDoorFv
import Derived.Test.YtepdlghobopdbaaGreatDoorAt
import Derived.Test.YtepdlghobopdbaaGreatDoorBs
namespace Go.Proofs.YtepdlghobopdbaaGreatDoor
open Go.RowKit Go.MapKept Go.Shelf
namespace Ar
theorem textRes_ok {m : Mv} {s : ByteArray} (h : textRes m = (s, 0)) : hasText m = true ∧ textOf m = s := by
  unfold textRes at h
  split at h
  · rename_i hk
    exact ⟨hk, congrArg Prod.fst h⟩
  · exact absurd (show (4 : Nat) = 0 from congrArg Prod.snd h) (by omega)
theorem parse_text {m : Mv} {s : ByteArray} (h : textRes m = (s, 0)) (hm : MvOk m) : parseRes s = (m, 0) := by
  obtain ⟨h1, h2⟩ := textRes_ok h
  have hb := ref_back h1 hm
  rw [h2] at hb
  unfold parseRes
  rw [hb]
  simp only
  rw [if_pos h]
theorem parse_ok {s : ByteArray} (h : (parseRes s).2 = 0) : textRes (parseRes s).1 = (s, 0) := by
  unfold parseRes at h ⊢
  split at h
  · cases h
  · split at h
    · rename_i m hm h1
      rw [if_pos h1]
      exact h1
    · cases h
theorem parse_short {m : Mv} {s t : ByteArray} (h : textRes m = (s, 0)) (hs : t.size ≠ s.size) (h0 : (parseRes t).2 = 0) : (parseRes t).1 ≠ m := fun e => by
  have h1 := parse_ok h0
  rw [e, h] at h1
  exact hs (by rw [show s = t from congrArg Prod.fst h1])
theorem text_pos {m : Mv} {s : ByteArray} (h : textRes m = (s, 0)) : 0 < s.size := by
  obtain ⟨h1, h2⟩ := textRes_ok h
  have hk := (hasText_parts h1).2.2.1
  rw [← h2]
  show 0 < (textOf m).data.toList.length
  rw [text_list hk, List.length_append, List.length_cons]
  omega
theorem base_pos (b : Bs) : 0 < (baseB b).size := by
  show 0 < (baseB b).data.toList.length
  rw [base_list, List.length_append, List.length_append, List.length_cons]
  omega
theorem show_pos (a : Are) : 0 < (showB a).size := by
  have h := base_pos a.root
  show 0 < (showB a).data.toList.length
  have h' : 0 < (baseB a.root).data.toList.length := h
  unfold showB partsB
  rw [joinB_list, List.append_assoc, List.map_append, List.map_singleton, List.singleton_append, Lib.join_cons, List.length_append]
  omega
theorem read_short {a : Are} {t : ByteArray} (hs : t.size ≠ (showB a).size) (h0 : (readRes t).2 = 0) : a ≠ (readRes t).1 := fun e => by
  have h1 := readRes_ok h0
  rw [← e] at h1
  exact hs (by rw [h1])
end Ar
theorem typeB_small {t : Ar.Ty} (h : TyOk t) (h5 : t.params.length ≤ 5) : (Ar.typeB t).size ≤ 700 := by
  have hb := baseB_size t.result h.2.1
  unfold Ar.typeB
  split
  · omega
  · have h2 := joinB_size (t.params.map Ar.baseB) ⟨#[44, 32]⟩ 105 (fun x hx => by obtain ⟨y, hy, rfl⟩ := List.mem_map.1 hx; exact baseB_size y (h.1 y hy))
    rw [List.length_map] at h2
    have h3 : t.params.length * (105 + (⟨#[44, 32]⟩ : ByteArray).size) ≤ 5 * 107 := Nat.mul_le_mul h5 (Nat.le_refl _)
    rw [ByteArray.size_append, ByteArray.size_append, ByteArray.size_append]
    have e1 : (⟨#[40]⟩ : ByteArray).size = 1 := rfl
    have e2 : (⟨#[41, 32, 45, 62, 32]⟩ : ByteArray).size = 5 := rfl
    omega
theorem showB_small {a : Ar.Are} (h : Ar.Right a) : (Ar.showB a).size ≤ 7100 := by
  obtain ⟨ok1, ok2⟩ := right_ok h
  have h2 := joinB_size (Ar.partsB a) ⟨#[59, 32]⟩ 700 (fun x hx => by
    unfold Ar.partsB at hx
    rcases List.mem_append.1 hx with hx | hx
    · rcases List.mem_append.1 hx with hx | hx
      · obtain rfl := List.mem_singleton.1 hx
        have := baseB_size a.root ok1; omega
      · obtain ⟨t, ht, rfl⟩ := List.mem_map.1 hx
        exact typeB_small (ok2 t ht) (h.long t ht)
    · split at hx
      · obtain rfl := List.mem_singleton.1 hx
        show 5 ≤ 700; omega
      · cases hx)
  have hl : (Ar.partsB a).length ≤ 10 := by
    unfold Ar.partsB
    have h8 := h.ids
    rw [List.length_append, List.length_append, List.length_map, List.length_singleton]
    split <;> simp <;> omega
  have h3 : (Ar.partsB a).length * (700 + (⟨#[59, 32]⟩ : ByteArray).size) ≤ 10 * 702 := Nat.mul_le_mul hl (Nat.le_refl _)
  unfold Ar.showB
  omega
theorem textOf_size {m : Ar.Mv} (h : Ar.hasText m = true) (hm : MvOk m) : (Ar.textOf m).size ≤ 1000 := by
  obtain ⟨p1, p2, _, _⟩ := hasText_parts h
  have h1 := itoaB_size m.id p1 hm.2.1
  have h2 := itoaB_size m.arg p2 hm.2.2.2.1
  have h3 := signT_size m
  have h4 := valueT_size m h hm
  have e1 : (⟨#[46]⟩ : ByteArray).size = 1 := rfl
  unfold Ar.textOf Ar.placeT
  rw [ByteArray.size_append, ByteArray.size_append]
  split
  · rw [ByteArray.size_append, ByteArray.size_append]; omega
  · omega
theorem mv_neqS (w : World) (m : Ar.Mv) : (binOp .neq 37 (.agg #[.int .i64 m.id, .int .i64 m.arg, .int .u8 m.kind, .int .i64 m.n]) (.agg #[.int .i64 m.id, .int .i64 m.arg, .int .u8 m.kind, .int .i64 m.n])).run Tryz.prog w = .ok (.bool false) w := by
  have h := mv_equal w m m
  unfold mvV at h
  rw [run_neq_struct, h, show mvEq m m = true by rw [mvEq_iff]; exact decide_eq_true rfl]
  rfl
theorem mv_eqlN (w : World) {m n : Ar.Mv} (h : n ≠ m) : (binOp .eql 37 (.agg #[.int .i64 n.id, .int .i64 n.arg, .int .u8 n.kind, .int .i64 n.n]) (.agg #[.int .i64 m.id, .int .i64 m.arg, .int .u8 m.kind, .int .i64 m.n])).run Tryz.prog w = .ok (.bool false) w := by
  rw [run_eql_mv, show mvEq n m = false by rw [mvEq_iff]; exact decide_eq_false h]
theorem empty_not {r : ByteArray} (h : 0 < r.size) : r.toList.isEmpty = false := by
  rw [ByteArray.toList_eq]
  cases e : r.data.toList with
  | nil => exact absurd (show r.data.toList.length = 0 by rw [e]; rfl) (Nat.ne_of_gt h)
  | cons _ _ => rfl
theorem ext_size (s : ByteArray) {k : Nat} (h : k ≤ s.size) : (s.extract 0 k).size = k := by rw [ByteArray.size_extract]; omega
theorem wrap_less {n k : Nat} (h : n = k + 1) (hk : k ≤ 281474976710656) : wrap64 ((n : Int) - 1) = (k : Int) := by unfold wrap64; omega

/-- What lies in the call's first blocks: an arena, a move. -/
structure BK (w : World) (A : Option Addr) (c : Nat) (a : Ar.Are) (m : Ar.Mv) (W : World) : Prop where
  below : Below w.heap.size w W
  ar : W.heap[w.heap.size]? = some (.cells #[.slice A a.ids.length c, .bool a.root.cell, .int .i64 a.root.n, .bool a.jumps] 27 (0, 0))
  mv : W.heap[w.heap.size + 1]? = some (.cells #[.int .i64 m.id, .int .i64 m.arg, .int .u8 m.kind, .int .i64 m.n] 37 (0, 0))
theorem BK.next {w : World} {A : Option Addr} {c : Nat} {a : Ar.Are} {m : Ar.Mv} {W W' : World} (h : BK w A c a m W) (hB : Below W.heap.size W W') : BK w A c a m W' :=
  ⟨h.below.trans (hB.mono h.below.size), (hB.block _ (lt_of_heap h.ar)).trans h.ar, (hB.block _ (lt_of_heap h.mv)).trans h.mv⟩
theorem BK.first (w : World) (A : Option Addr) (c : Nat) (a : Ar.Are) (m : Ar.Mv) : BK w A c a m ((w.alloc (.cells #[.slice A a.ids.length c, .bool a.root.cell, .int .i64 a.root.n, .bool a.jumps] 27 (0, 0))).alloc (.cells #[.int .i64 m.id, .int .i64 m.arg, .int .u8 m.kind, .int .i64 m.n] 37 (0, 0))) :=
  ⟨below_two _ _, two_new1 _ _ _, two_new2 _ _ _⟩
/-- An arena in a block of the call's own. -/
def AB (b : Nat) (A : Option Addr) (c : Nat) (a : Ar.Are) (W : World) : Prop := W.heap[b]? = some (.cells #[.slice A a.ids.length c, .bool a.root.cell, .int .i64 a.root.n, .bool a.jumps] 27 (0, 0))
theorem AB.next {b : Nat} {A : Option Addr} {c : Nat} {a : Ar.Are} {W W' : World} (h : AB b A c a W) (hB : Below W.heap.size W W') : AB b A c a W' := (hB.block _ (lt_of_heap h)).trans h
theorem AB.first (W : World) (A : Option Addr) (c : Nat) (a : Ar.Are) : AB W.heap.size A c a (W.alloc (.cells #[.slice A a.ids.length c, .bool a.root.cell, .int .i64 a.root.n, .bool a.jumps] 27 (0, 0))) := World.alloc_heap_new W _

set_option maxRecDepth 100000 in
set_option maxHeartbeats 16000000 in
theorem law_back (a : Ar.Are) (A : Option Addr) (c : Nat) (P : Nat → Option Addr × Nat) (m : Ar.Mv) (hm : MvOk m) (w : World) (hM : AreM w A c P a) (hV : GV w) (hG : GT w) (hX : GM w) :
    Calls Tryz.prog 5 #[arV A c a, .agg #[.int .i64 m.id, .int .i64 m.arg, .int .u8 m.kind, .int .i64 m.n]] w fun e w' => e = .returned (.bool true) ∧ Below w.heap.size w w' := by
  have hav : arV A c a = .agg #[.slice A a.ids.length c, .bool a.root.cell, .int .i64 a.root.n, .bool a.jumps] := rfl
  rw [hav]; clear hav
  have hF := BK.first w A c a m
  obtain ⟨e0, e1, e2, e3, -, -, -, -⟩ := cells4 hF.ar
  obtain ⟨g0, g1, g2, g3, -, -, -, -⟩ := cells4 hF.mv
  have HA := Lib.hid (fun W (hB : Below w.heap.size w W) => awake_any W (hV.below hB) (hG.below hB))
  have HT := Lib.hid (fun W (hB : Below w.heap.size w W) => show Calls Tryz.prog 20 #[.agg #[.int .i64 m.id, .int .i64 m.arg, .int .u8 m.kind, .int .i64 m.n]] W fun e w' => e = .returned (.tuple #[.string (Ar.textRes m).1, .int .i64 ((Ar.textRes m).2 : Int)]) ∧ Below W.heap.size W w' from text_any m W (hG.below hB) hm)
  have HPA := Lib.hid (fun (s : ByteArray) (hs : s.size ≤ 281474976710656) W (hB : Below w.heap.size w W) => (parse_any s hs W (hV.below hB) (hG.below hB)).mono fun (e : Ending) (w' : World) h12 => (show e = .returned (.tuple #[.agg #[.int .i64 (Ar.parseRes s).1.id, .int .i64 (Ar.parseRes s).1.arg, .int .u8 (Ar.parseRes s).1.kind, .int .i64 (Ar.parseRes s).1.n], .int .i64 ((Ar.parseRes s).2 : Int)]) ∧ Below W.heap.size W w' from ⟨parse_res h12.1, h12.2⟩))
  have HTH := Lib.hid (fun W (hB : Below w.heap.size w W) => thinL (hM.below hB))
  have HRD := Lib.hid (fun (s : ByteArray) (hs : s.size ≤ 900000) W (hB : Below w.heap.size w W) => read_any s hs W (hV.below hB) (hG.below hB) (hX.below hB))
  have qg : ∀ (x y : Operand) (xs ys : Array Value) (w : World), (eqGuard .neq 37 x y (.agg xs) (.agg ys)).run Tryz.prog w = .ok () w := fun x y xs ys w => run_eqGuard_agg w _ _ x y xs ys (by kernel_rfl)
  have qh : ∀ (x y : Operand) (xs ys : Array Value) (w : World), (eqGuard .eql 37 x y (.agg xs) (.agg ys)).run Tryz.prog w = .ok () w := fun x y xs ys w => run_eqGuard_agg w _ _ x y xs ys (by kernel_rfl)
  have qn := fun W => mv_neqS W m
  have hGH := Lib.hid hG
  have HMM := Lib.hid hM
  have HMO := Lib.hid hm
  clear hV hG hX hM hm
  by_cases ht : (Ar.textRes m).2 = 0
  · obtain ⟨s, hs⟩ : ∃ s, (Ar.textRes m).1 = s := ⟨_, rfl⟩
    have ht1 : Ar.textRes m = (s, 0) := Prod.ext hs ht
    have hpos := Ar.text_pos ht1
    rw [ht1] at HT
    have htl : s.size ≤ 1000 := by
      obtain ⟨k1, k2⟩ := Ar.textRes_ok ht1
      have := textOf_size k1 HMO.out
      rw [k2] at this
      omega
    have HP1 := Lib.hid (HPA.out s (by omega))
    rw [Ar.parse_text ht1 HMO.out] at HP1
    obtain ⟨k, hk⟩ : ∃ k, s.size = k + 1 := ⟨s.size - 1, by omega⟩
    have HP2 := Lib.hid (HPA.out (s.extract 0 k) (by rw [ext_size _ (by omega)]; omega))
    have hshrt : (Ar.parseRes (s.extract 0 k)).2 = 0 → (Ar.parseRes (s.extract 0 k)).1 ≠ m := Ar.parse_short ht1 (by rw [ext_size _ (by omega)]; omega)
    have ha0 := empty_not hpos
    have ha1 : (0 : Int) ≤ (k : Int) := by omega
    have ha2 : (k : Int) ≤ (s.size : Int) := by omega
    have ha3 := wrap_less hk (by omega)
    have ha4 : IntKind.i64.wrap ((s.size : Int) - 1) = (k : Int) := by rw [IntWalk.i64_left]; exact ha3
    clear hpos htl ht1 hs ht hk
    generalize hsk : s.extract 0 k = sk at *
    generalize (Ar.parseRes sk).1 = M at *
    generalize (Ar.parseRes sk).2 = E at *
    clear HPA HMO
    by_cases hE : E = 0
    · subst hE
      have qe := fun W => mv_eqlN W (hshrt rfl)
      clear hshrt
      cases hth : Ar.thinOf a with
      | false =>
        rw [hth] at HTH
        clear hth HMM HRD hGH
        go_enter Tryz.func5, Tryz.ntmps5
        go_wp2_with (first
          | (go_at_call 6; refine (HA.out _ hF.below).mono ?_; rintro e wz ⟨rfl, hBz⟩; have hF := hF.next hBz)
          | (go_at_call 22; refine (HTH.out _ hF.below).mono ?_; rintro e w5 ⟨rfl, hB5⟩; have hF := hF.next hB5; clear e0 e1 e2 e3; obtain ⟨e0, e1, e2, e3, -, -, -, -⟩ := cells4 hF.ar)
          | (go_at_call 19; have _t := hB3; refine (HP2.out _ hF.below).mono ?_; rintro e w4 ⟨rfl, hB4⟩; have hF := (hF.next hB4).next (below_mv w4 M); have hm3 := (hm3.next hB4).next (below_mv w4 M); have hm4 := MB.first w4 M; clear e0 e1 e2 e3 g0 g1 g2 g3; obtain ⟨e0, e1, e2, e3, -, -, -, -⟩ := cells4 hF.ar; obtain ⟨g0, g1, g2, g3, -, -, -, -⟩ := cells4 hF.mv; obtain ⟨k0, k1, k2, k3, -, -, -, -⟩ := cells4 hm3; obtain ⟨l0, l1, l2, l3, -, -, -, -⟩ := cells4 hm4)
          | (go_at_call 19; have _t := hB2; refine (HP1.out _ hF.below).mono ?_; rintro e w3 ⟨rfl, hB3⟩; have hF := (hF.next hB3).next (below_mv w3 m); have hm3 := MB.first w3 m; clear e0 e1 e2 e3 g0 g1 g2 g3; obtain ⟨e0, e1, e2, e3, -, -, -, -⟩ := cells4 hF.ar; obtain ⟨g0, g1, g2, g3, -, -, -, -⟩ := cells4 hF.mv)
          | (go_at_call 20; refine (HT.out _ hF.below).mono ?_; rintro e w2 ⟨rfl, hB2⟩; have hF := hF.next hB2; clear e0 e1 e2 e3 g0 g1 g2 g3; obtain ⟨e0, e1, e2, e3, -, -, -, -⟩ := cells4 hF.ar; obtain ⟨g0, g1, g2, g3, -, -, -, -⟩ := cells4 hF.mv))
        go_ret
        exact ⟨rfl, hF.below⟩
      | true =>
        by_cases hck : Ar.checkOf a = 0
        · by_cases hz : (Ar.readRes ((Ar.showB a).extract 0 ((Ar.showB a).size - 1))).2 = 0
          · rw [hth] at HTH
            have HCK := Lib.hid (fun W (hB : Below w.heap.size w W) => show Calls Tryz.prog 23 #[.agg #[.slice A a.ids.length c, .bool a.root.cell, .int .i64 a.root.n, .bool a.jumps]] W fun e w' => e = .returned (.int .i64 (Ar.checkOf a : Int)) ∧ Below W.heap.size W w' from refCheck_any a A c P W ((HMM.out.below hB).m hth))
            rw [hck] at HCK
            have HCP := Lib.hid (fun W (hB : Below w.heap.size w W) => copyL (HMM.out.below hB) hth)
            have HSH := Lib.hid (fun A' c' P' W (hB : Below w.heap.size w W) (hA : ArM W A' P' a) => show Calls Tryz.prog 24 #[.agg #[.slice A' a.ids.length c', .bool a.root.cell, .int .i64 a.root.n, .bool a.jumps]] W fun e w' => e = .returned (.tuple #[.string (Ar.showRes a).1, .int .i64 ((Ar.showRes a).2 : Int)]) ∧ Below W.heap.size W w' from show_any a A' c' P' W hA (hGH.out.below hB))
            rw [show Ar.showRes a = (Ar.showB a, 0) by unfold Ar.showRes; rw [if_pos hck]] at HSH
            have hss := showB_small (Ar.right_of_check hck)
            have hsp := Ar.show_pos a
            have HR1 := Lib.hid (HRD.out (Ar.showB a) (by omega))
            rw [Ar.readRes_show hck] at HR1
            obtain ⟨q, hq⟩ : ∃ q, (Ar.showB a).size = q + 1 := ⟨(Ar.showB a).size - 1, by omega⟩
            rw [show (Ar.showB a).size - 1 = q by omega] at hz
            have HR2 := Lib.hid (HRD.out ((Ar.showB a).extract 0 q) (by rw [ext_size _ (by omega)]; omega))
            have hshort : (Ar.readRes ((Ar.showB a).extract 0 q)).2 = 0 → a ≠ (Ar.readRes ((Ar.showB a).extract 0 q)).1 := Ar.read_short (by rw [ext_size _ (by omega)]; omega)
            have HSM := Lib.hid (fun A' c' P' W (hB : Below w.heap.size w W) (hA : ArM W A' P' a) => show Calls Tryz.prog 9 #[.agg #[.slice A a.ids.length c, .bool a.root.cell, .int .i64 a.root.n, .bool a.jumps], .agg #[.slice A' a.ids.length c', .bool a.root.cell, .int .i64 a.root.n, .bool a.jumps]] W fun e w' => e = .returned (.bool true) ∧ Below W.heap.size W w' from same_any a A A' c c' P P' W ((HMM.out.below hB).m hth) hA)
            have HSN := Lib.hid (fun (y : Ar.Are) A' c' P' W (hB : Below w.heap.size w W) (hA : ArM W A' P' y) => show Calls Tryz.prog 9 #[.agg #[.slice A a.ids.length c, .bool a.root.cell, .int .i64 a.root.n, .bool a.jumps], .agg #[.slice A' y.ids.length c', .bool y.root.cell, .int .i64 y.root.n, .bool y.jumps]] W fun e w' => e = .returned (.bool (decide (a = y))) ∧ Below W.heap.size W w' from sameD_any a y A A' c c' P P' W ((HMM.out.below hB).m hth) hA)
            have hb0 := empty_not hsp
            have hr0 : (0 : Int) ≤ (q : Int) := by omega
            have hr1 : (q : Int) ≤ ((Ar.showB a).size : Int) := by omega
            have hr2 := wrap_less hq (by omega)
            have hr3 : IntKind.i64.wrap (((Ar.showB a).size : Int) - 1) = (q : Int) := by rw [IntWalk.i64_left]; exact hr2
            generalize hsq : (Ar.showB a).extract 0 q = sq at *
            generalize Ar.showB a = sa at *
            generalize (Ar.readRes sq).1 = z at *
            generalize (Ar.readRes sq).2 = F at *
            have HSN := Lib.hid (HSN.out z)
            clear hss hsp hq HRD HMM hck hth hGH
            subst hz
            rw [decide_eq_false (hshort rfl)] at HSN
            clear hshort
            go_enter Tryz.func5, Tryz.ntmps5
            go_wp2_with (first
              | (go_at_call 6; refine (HA.out _ hF.below).mono ?_; rintro e wz ⟨rfl, hBz⟩; have hF := hF.next hBz)
              | (go_at_call 9; have _t := hBv; refine (HSN.out Az cz Pz _ hF.below hAz).mono ?_; rintro e wu ⟨rfl, hBu⟩; have hF := hF.next hBu)
              | (go_at_call 9; have _t := hBy; refine (HSM.out A9 c9 P9 _ hF.below hA9).mono ?_; rintro e wv ⟨rfl, hBv⟩; have hF := hF.next hBv; have hAz := hAz.below hBv; have hbz := hbz.next hBv; clear e0 e1 e2 e3; obtain ⟨e0, e1, e2, e3, -, -, -, -⟩ := cells4 hF.ar; clear n0 n1 n2 n3 o0 o1 o2 o3; obtain ⟨o0, o1, o2, o3, -, -, -, -⟩ := cells4 hbz)
              | (go_at_call 7; have _t := hB9; refine (HR2.out _ hF.below).mono ?_; rintro e wy ⟨Az, cz, Pz, rfl, hAz, hBy⟩; have hF := (hF.next hBy).next (below_al wy (.cells #[.slice Az z.ids.length cz, .bool z.root.cell, .int .i64 z.root.n, .bool z.jumps] 27 (0, 0))); have hA9 := (hA9.below hBy).below (below_al wy (.cells #[.slice Az z.ids.length cz, .bool z.root.cell, .int .i64 z.root.n, .bool z.jumps] 27 (0, 0))); have hb9 := (hb9.next hBy).next (below_al wy (.cells #[.slice Az z.ids.length cz, .bool z.root.cell, .int .i64 z.root.n, .bool z.jumps] 27 (0, 0))); have hAz := hAz.below (below_al wy (.cells #[.slice Az z.ids.length cz, .bool z.root.cell, .int .i64 z.root.n, .bool z.jumps] 27 (0, 0))); have hbz := AB.first wy Az cz z; clear e0 e1 e2 e3; obtain ⟨e0, e1, e2, e3, -, -, -, -⟩ := cells4 hF.ar; obtain ⟨n0, n1, n2, n3, -, -, -, -⟩ := cells4 hb9; obtain ⟨o0, o1, o2, o3, -, -, -, -⟩ := cells4 hbz)
              | (go_at_call 7; have _t := hB8; refine (HR1.out _ hF.below).mono ?_; rintro e w9 ⟨A9, c9, P9, rfl, hA9, hB9⟩; have hF := (hF.next hB9).next (below_al w9 (.cells #[.slice A9 a.ids.length c9, .bool a.root.cell, .int .i64 a.root.n, .bool a.jumps] 27 (0, 0))); have hA9 := hA9.below (below_al w9 (.cells #[.slice A9 a.ids.length c9, .bool a.root.cell, .int .i64 a.root.n, .bool a.jumps] 27 (0, 0))); have hb9 := AB.first w9 A9 c9 a; clear e0 e1 e2 e3; obtain ⟨e0, e1, e2, e3, -, -, -, -⟩ := cells4 hF.ar)
              | (go_at_call 24; refine (HSH.out A7 c7 P7 _ hF.below hA7).mono ?_; rintro e w8 ⟨rfl, hB8⟩; have hF := hF.next hB8; clear e0 e1 e2 e3; obtain ⟨e0, e1, e2, e3, -, -, -, -⟩ := cells4 hF.ar)
              | (go_at_call 25; refine (HCP.out _ hF.below).mono ?_; rintro e w7 ⟨A7, c7, P7, rfl, hA7, hB7⟩; have hF := hF.next hB7; clear e0 e1 e2 e3; obtain ⟨e0, e1, e2, e3, -, -, -, -⟩ := cells4 hF.ar)
              | (go_at_call 23; refine (HCK.out _ hF.below).mono ?_; rintro e w6 ⟨rfl, hB6⟩; have hF := hF.next hB6; clear e0 e1 e2 e3; obtain ⟨e0, e1, e2, e3, -, -, -, -⟩ := cells4 hF.ar)
              | (go_at_call 22; refine (HTH.out _ hF.below).mono ?_; rintro e w5 ⟨rfl, hB5⟩; have hF := hF.next hB5; clear e0 e1 e2 e3; obtain ⟨e0, e1, e2, e3, -, -, -, -⟩ := cells4 hF.ar)
              | (go_at_call 19; have _t := hB3; refine (HP2.out _ hF.below).mono ?_; rintro e w4 ⟨rfl, hB4⟩; have hF := (hF.next hB4).next (below_mv w4 M); have hm3 := (hm3.next hB4).next (below_mv w4 M); have hm4 := MB.first w4 M; clear e0 e1 e2 e3 g0 g1 g2 g3; obtain ⟨e0, e1, e2, e3, -, -, -, -⟩ := cells4 hF.ar; obtain ⟨g0, g1, g2, g3, -, -, -, -⟩ := cells4 hF.mv; obtain ⟨k0, k1, k2, k3, -, -, -, -⟩ := cells4 hm3; obtain ⟨l0, l1, l2, l3, -, -, -, -⟩ := cells4 hm4)
              | (go_at_call 19; have _t := hB2; refine (HP1.out _ hF.below).mono ?_; rintro e w3 ⟨rfl, hB3⟩; have hF := (hF.next hB3).next (below_mv w3 m); have hm3 := MB.first w3 m; clear e0 e1 e2 e3 g0 g1 g2 g3; obtain ⟨e0, e1, e2, e3, -, -, -, -⟩ := cells4 hF.ar; obtain ⟨g0, g1, g2, g3, -, -, -, -⟩ := cells4 hF.mv)
              | (go_at_call 20; refine (HT.out _ hF.below).mono ?_; rintro e w2 ⟨rfl, hB2⟩; have hF := hF.next hB2; clear e0 e1 e2 e3 g0 g1 g2 g3; obtain ⟨e0, e1, e2, e3, -, -, -, -⟩ := cells4 hF.ar; obtain ⟨g0, g1, g2, g3, -, -, -, -⟩ := cells4 hF.mv))
            go_ret
            exact ⟨rfl, hF.below⟩
          · rw [hth] at HTH
            have HCK := Lib.hid (fun W (hB : Below w.heap.size w W) => show Calls Tryz.prog 23 #[.agg #[.slice A a.ids.length c, .bool a.root.cell, .int .i64 a.root.n, .bool a.jumps]] W fun e w' => e = .returned (.int .i64 (Ar.checkOf a : Int)) ∧ Below W.heap.size W w' from refCheck_any a A c P W ((HMM.out.below hB).m hth))
            rw [hck] at HCK
            have HCP := Lib.hid (fun W (hB : Below w.heap.size w W) => copyL (HMM.out.below hB) hth)
            have HSH := Lib.hid (fun A' c' P' W (hB : Below w.heap.size w W) (hA : ArM W A' P' a) => show Calls Tryz.prog 24 #[.agg #[.slice A' a.ids.length c', .bool a.root.cell, .int .i64 a.root.n, .bool a.jumps]] W fun e w' => e = .returned (.tuple #[.string (Ar.showRes a).1, .int .i64 ((Ar.showRes a).2 : Int)]) ∧ Below W.heap.size W w' from show_any a A' c' P' W hA (hGH.out.below hB))
            rw [show Ar.showRes a = (Ar.showB a, 0) by unfold Ar.showRes; rw [if_pos hck]] at HSH
            have hss := showB_small (Ar.right_of_check hck)
            have hsp := Ar.show_pos a
            have HR1 := Lib.hid (HRD.out (Ar.showB a) (by omega))
            rw [Ar.readRes_show hck] at HR1
            obtain ⟨q, hq⟩ : ∃ q, (Ar.showB a).size = q + 1 := ⟨(Ar.showB a).size - 1, by omega⟩
            rw [show (Ar.showB a).size - 1 = q by omega] at hz
            have HR2 := Lib.hid (HRD.out ((Ar.showB a).extract 0 q) (by rw [ext_size _ (by omega)]; omega))
            have hshort : (Ar.readRes ((Ar.showB a).extract 0 q)).2 = 0 → a ≠ (Ar.readRes ((Ar.showB a).extract 0 q)).1 := Ar.read_short (by rw [ext_size _ (by omega)]; omega)
            have HSM := Lib.hid (fun A' c' P' W (hB : Below w.heap.size w W) (hA : ArM W A' P' a) => show Calls Tryz.prog 9 #[.agg #[.slice A a.ids.length c, .bool a.root.cell, .int .i64 a.root.n, .bool a.jumps], .agg #[.slice A' a.ids.length c', .bool a.root.cell, .int .i64 a.root.n, .bool a.jumps]] W fun e w' => e = .returned (.bool true) ∧ Below W.heap.size W w' from same_any a A A' c c' P P' W ((HMM.out.below hB).m hth) hA)
            have HSN := Lib.hid (fun (y : Ar.Are) A' c' P' W (hB : Below w.heap.size w W) (hA : ArM W A' P' y) => show Calls Tryz.prog 9 #[.agg #[.slice A a.ids.length c, .bool a.root.cell, .int .i64 a.root.n, .bool a.jumps], .agg #[.slice A' y.ids.length c', .bool y.root.cell, .int .i64 y.root.n, .bool y.jumps]] W fun e w' => e = .returned (.bool (decide (a = y))) ∧ Below W.heap.size W w' from sameD_any a y A A' c c' P P' W ((HMM.out.below hB).m hth) hA)
            have hb0 := empty_not hsp
            have hr0 : (0 : Int) ≤ (q : Int) := by omega
            have hr1 : (q : Int) ≤ ((Ar.showB a).size : Int) := by omega
            have hr2 := wrap_less hq (by omega)
            have hr3 : IntKind.i64.wrap (((Ar.showB a).size : Int) - 1) = (q : Int) := by rw [IntWalk.i64_left]; exact hr2
            generalize hsq : (Ar.showB a).extract 0 q = sq at *
            generalize Ar.showB a = sa at *
            generalize (Ar.readRes sq).1 = z at *
            generalize (Ar.readRes sq).2 = F at *
            have HSN := Lib.hid (HSN.out z)
            clear hss hsp hq HRD HMM hck hth hGH
            have hz2 : (((F : Nat) : Int) == 0) = false := by rw [beq_eq_false_iff_ne]; omega
            clear hshort hz HSN
            go_enter Tryz.func5, Tryz.ntmps5
            go_wp2_with (first
              | (go_at_call 6; refine (HA.out _ hF.below).mono ?_; rintro e wz ⟨rfl, hBz⟩; have hF := hF.next hBz)
              | (go_at_call 9; have _t := hBy; refine (HSM.out A9 c9 P9 _ hF.below hA9).mono ?_; rintro e wv ⟨rfl, hBv⟩; have hF := hF.next hBv; have hAz := hAz.below hBv; have hbz := hbz.next hBv; clear e0 e1 e2 e3; obtain ⟨e0, e1, e2, e3, -, -, -, -⟩ := cells4 hF.ar; clear n0 n1 n2 n3 o0 o1 o2 o3; obtain ⟨o0, o1, o2, o3, -, -, -, -⟩ := cells4 hbz)
              | (go_at_call 7; have _t := hB9; refine (HR2.out _ hF.below).mono ?_; rintro e wy ⟨Az, cz, Pz, rfl, hAz, hBy⟩; have hF := (hF.next hBy).next (below_al wy (.cells #[.slice Az z.ids.length cz, .bool z.root.cell, .int .i64 z.root.n, .bool z.jumps] 27 (0, 0))); have hA9 := (hA9.below hBy).below (below_al wy (.cells #[.slice Az z.ids.length cz, .bool z.root.cell, .int .i64 z.root.n, .bool z.jumps] 27 (0, 0))); have hb9 := (hb9.next hBy).next (below_al wy (.cells #[.slice Az z.ids.length cz, .bool z.root.cell, .int .i64 z.root.n, .bool z.jumps] 27 (0, 0))); have hAz := hAz.below (below_al wy (.cells #[.slice Az z.ids.length cz, .bool z.root.cell, .int .i64 z.root.n, .bool z.jumps] 27 (0, 0))); have hbz := AB.first wy Az cz z; clear e0 e1 e2 e3; obtain ⟨e0, e1, e2, e3, -, -, -, -⟩ := cells4 hF.ar; obtain ⟨n0, n1, n2, n3, -, -, -, -⟩ := cells4 hb9; obtain ⟨o0, o1, o2, o3, -, -, -, -⟩ := cells4 hbz)
              | (go_at_call 7; have _t := hB8; refine (HR1.out _ hF.below).mono ?_; rintro e w9 ⟨A9, c9, P9, rfl, hA9, hB9⟩; have hF := (hF.next hB9).next (below_al w9 (.cells #[.slice A9 a.ids.length c9, .bool a.root.cell, .int .i64 a.root.n, .bool a.jumps] 27 (0, 0))); have hA9 := hA9.below (below_al w9 (.cells #[.slice A9 a.ids.length c9, .bool a.root.cell, .int .i64 a.root.n, .bool a.jumps] 27 (0, 0))); have hb9 := AB.first w9 A9 c9 a; clear e0 e1 e2 e3; obtain ⟨e0, e1, e2, e3, -, -, -, -⟩ := cells4 hF.ar)
              | (go_at_call 24; refine (HSH.out A7 c7 P7 _ hF.below hA7).mono ?_; rintro e w8 ⟨rfl, hB8⟩; have hF := hF.next hB8; clear e0 e1 e2 e3; obtain ⟨e0, e1, e2, e3, -, -, -, -⟩ := cells4 hF.ar)
              | (go_at_call 25; refine (HCP.out _ hF.below).mono ?_; rintro e w7 ⟨A7, c7, P7, rfl, hA7, hB7⟩; have hF := hF.next hB7; clear e0 e1 e2 e3; obtain ⟨e0, e1, e2, e3, -, -, -, -⟩ := cells4 hF.ar)
              | (go_at_call 23; refine (HCK.out _ hF.below).mono ?_; rintro e w6 ⟨rfl, hB6⟩; have hF := hF.next hB6; clear e0 e1 e2 e3; obtain ⟨e0, e1, e2, e3, -, -, -, -⟩ := cells4 hF.ar)
              | (go_at_call 22; refine (HTH.out _ hF.below).mono ?_; rintro e w5 ⟨rfl, hB5⟩; have hF := hF.next hB5; clear e0 e1 e2 e3; obtain ⟨e0, e1, e2, e3, -, -, -, -⟩ := cells4 hF.ar)
              | (go_at_call 19; have _t := hB3; refine (HP2.out _ hF.below).mono ?_; rintro e w4 ⟨rfl, hB4⟩; have hF := (hF.next hB4).next (below_mv w4 M); have hm3 := (hm3.next hB4).next (below_mv w4 M); have hm4 := MB.first w4 M; clear e0 e1 e2 e3 g0 g1 g2 g3; obtain ⟨e0, e1, e2, e3, -, -, -, -⟩ := cells4 hF.ar; obtain ⟨g0, g1, g2, g3, -, -, -, -⟩ := cells4 hF.mv; obtain ⟨k0, k1, k2, k3, -, -, -, -⟩ := cells4 hm3; obtain ⟨l0, l1, l2, l3, -, -, -, -⟩ := cells4 hm4)
              | (go_at_call 19; have _t := hB2; refine (HP1.out _ hF.below).mono ?_; rintro e w3 ⟨rfl, hB3⟩; have hF := (hF.next hB3).next (below_mv w3 m); have hm3 := MB.first w3 m; clear e0 e1 e2 e3 g0 g1 g2 g3; obtain ⟨e0, e1, e2, e3, -, -, -, -⟩ := cells4 hF.ar; obtain ⟨g0, g1, g2, g3, -, -, -, -⟩ := cells4 hF.mv)
              | (go_at_call 20; refine (HT.out _ hF.below).mono ?_; rintro e w2 ⟨rfl, hB2⟩; have hF := hF.next hB2; clear e0 e1 e2 e3 g0 g1 g2 g3; obtain ⟨e0, e1, e2, e3, -, -, -, -⟩ := cells4 hF.ar; obtain ⟨g0, g1, g2, g3, -, -, -, -⟩ := cells4 hF.mv))
            go_ret
            exact ⟨rfl, hF.below⟩
        · rw [hth] at HTH
          have HCK := Lib.hid (fun W (hB : Below w.heap.size w W) => show Calls Tryz.prog 23 #[.agg #[.slice A a.ids.length c, .bool a.root.cell, .int .i64 a.root.n, .bool a.jumps]] W fun e w' => e = .returned (.int .i64 (Ar.checkOf a : Int)) ∧ Below W.heap.size W w' from refCheck_any a A c P W ((HMM.out.below hB).m hth))
          have hne : ((Ar.checkOf a : Int) == 0) = false := by rw [beq_eq_false_iff_ne]; omega
          generalize Ar.checkOf a = er at *
          clear hth hck HMM HRD hGH
          go_enter Tryz.func5, Tryz.ntmps5
          go_wp2_with (first
            | (go_at_call 6; refine (HA.out _ hF.below).mono ?_; rintro e wz ⟨rfl, hBz⟩; have hF := hF.next hBz)
            | (go_at_call 23; refine (HCK.out _ hF.below).mono ?_; rintro e w6 ⟨rfl, hB6⟩; have hF := hF.next hB6; clear e0 e1 e2 e3; obtain ⟨e0, e1, e2, e3, -, -, -, -⟩ := cells4 hF.ar)
            | (go_at_call 22; refine (HTH.out _ hF.below).mono ?_; rintro e w5 ⟨rfl, hB5⟩; have hF := hF.next hB5; clear e0 e1 e2 e3; obtain ⟨e0, e1, e2, e3, -, -, -, -⟩ := cells4 hF.ar)
            | (go_at_call 19; have _t := hB3; refine (HP2.out _ hF.below).mono ?_; rintro e w4 ⟨rfl, hB4⟩; have hF := (hF.next hB4).next (below_mv w4 M); have hm3 := (hm3.next hB4).next (below_mv w4 M); have hm4 := MB.first w4 M; clear e0 e1 e2 e3 g0 g1 g2 g3; obtain ⟨e0, e1, e2, e3, -, -, -, -⟩ := cells4 hF.ar; obtain ⟨g0, g1, g2, g3, -, -, -, -⟩ := cells4 hF.mv; obtain ⟨k0, k1, k2, k3, -, -, -, -⟩ := cells4 hm3; obtain ⟨l0, l1, l2, l3, -, -, -, -⟩ := cells4 hm4)
            | (go_at_call 19; have _t := hB2; refine (HP1.out _ hF.below).mono ?_; rintro e w3 ⟨rfl, hB3⟩; have hF := (hF.next hB3).next (below_mv w3 m); have hm3 := MB.first w3 m; clear e0 e1 e2 e3 g0 g1 g2 g3; obtain ⟨e0, e1, e2, e3, -, -, -, -⟩ := cells4 hF.ar; obtain ⟨g0, g1, g2, g3, -, -, -, -⟩ := cells4 hF.mv)
            | (go_at_call 20; refine (HT.out _ hF.below).mono ?_; rintro e w2 ⟨rfl, hB2⟩; have hF := hF.next hB2; clear e0 e1 e2 e3 g0 g1 g2 g3; obtain ⟨e0, e1, e2, e3, -, -, -, -⟩ := cells4 hF.ar; obtain ⟨g0, g1, g2, g3, -, -, -, -⟩ := cells4 hF.mv))
          go_ret
          exact ⟨rfl, hF.below⟩
    · have hE0 : (((E : Nat) : Int) == 0) = false := by rw [beq_eq_false_iff_ne]; omega
      clear hshrt hE
      cases hth : Ar.thinOf a with
      | false =>
        rw [hth] at HTH
        clear hth HMM HRD hGH
        go_enter Tryz.func5, Tryz.ntmps5
        go_wp2_with (first
          | (go_at_call 6; refine (HA.out _ hF.below).mono ?_; rintro e wz ⟨rfl, hBz⟩; have hF := hF.next hBz)
          | (go_at_call 22; refine (HTH.out _ hF.below).mono ?_; rintro e w5 ⟨rfl, hB5⟩; have hF := hF.next hB5; clear e0 e1 e2 e3; obtain ⟨e0, e1, e2, e3, -, -, -, -⟩ := cells4 hF.ar)
          | (go_at_call 19; have _t := hB3; refine (HP2.out _ hF.below).mono ?_; rintro e w4 ⟨rfl, hB4⟩; have hF := (hF.next hB4).next (below_mv w4 M); have hm3 := (hm3.next hB4).next (below_mv w4 M); have hm4 := MB.first w4 M; clear e0 e1 e2 e3 g0 g1 g2 g3; obtain ⟨e0, e1, e2, e3, -, -, -, -⟩ := cells4 hF.ar; obtain ⟨g0, g1, g2, g3, -, -, -, -⟩ := cells4 hF.mv; obtain ⟨k0, k1, k2, k3, -, -, -, -⟩ := cells4 hm3; obtain ⟨l0, l1, l2, l3, -, -, -, -⟩ := cells4 hm4)
          | (go_at_call 19; have _t := hB2; refine (HP1.out _ hF.below).mono ?_; rintro e w3 ⟨rfl, hB3⟩; have hF := (hF.next hB3).next (below_mv w3 m); have hm3 := MB.first w3 m; clear e0 e1 e2 e3 g0 g1 g2 g3; obtain ⟨e0, e1, e2, e3, -, -, -, -⟩ := cells4 hF.ar; obtain ⟨g0, g1, g2, g3, -, -, -, -⟩ := cells4 hF.mv)
          | (go_at_call 20; refine (HT.out _ hF.below).mono ?_; rintro e w2 ⟨rfl, hB2⟩; have hF := hF.next hB2; clear e0 e1 e2 e3 g0 g1 g2 g3; obtain ⟨e0, e1, e2, e3, -, -, -, -⟩ := cells4 hF.ar; obtain ⟨g0, g1, g2, g3, -, -, -, -⟩ := cells4 hF.mv))
        go_ret
        exact ⟨rfl, hF.below⟩
      | true =>
        by_cases hck : Ar.checkOf a = 0
        · by_cases hz : (Ar.readRes ((Ar.showB a).extract 0 ((Ar.showB a).size - 1))).2 = 0
          · rw [hth] at HTH
            have HCK := Lib.hid (fun W (hB : Below w.heap.size w W) => show Calls Tryz.prog 23 #[.agg #[.slice A a.ids.length c, .bool a.root.cell, .int .i64 a.root.n, .bool a.jumps]] W fun e w' => e = .returned (.int .i64 (Ar.checkOf a : Int)) ∧ Below W.heap.size W w' from refCheck_any a A c P W ((HMM.out.below hB).m hth))
            rw [hck] at HCK
            have HCP := Lib.hid (fun W (hB : Below w.heap.size w W) => copyL (HMM.out.below hB) hth)
            have HSH := Lib.hid (fun A' c' P' W (hB : Below w.heap.size w W) (hA : ArM W A' P' a) => show Calls Tryz.prog 24 #[.agg #[.slice A' a.ids.length c', .bool a.root.cell, .int .i64 a.root.n, .bool a.jumps]] W fun e w' => e = .returned (.tuple #[.string (Ar.showRes a).1, .int .i64 ((Ar.showRes a).2 : Int)]) ∧ Below W.heap.size W w' from show_any a A' c' P' W hA (hGH.out.below hB))
            rw [show Ar.showRes a = (Ar.showB a, 0) by unfold Ar.showRes; rw [if_pos hck]] at HSH
            have hss := showB_small (Ar.right_of_check hck)
            have hsp := Ar.show_pos a
            have HR1 := Lib.hid (HRD.out (Ar.showB a) (by omega))
            rw [Ar.readRes_show hck] at HR1
            obtain ⟨q, hq⟩ : ∃ q, (Ar.showB a).size = q + 1 := ⟨(Ar.showB a).size - 1, by omega⟩
            rw [show (Ar.showB a).size - 1 = q by omega] at hz
            have HR2 := Lib.hid (HRD.out ((Ar.showB a).extract 0 q) (by rw [ext_size _ (by omega)]; omega))
            have hshort : (Ar.readRes ((Ar.showB a).extract 0 q)).2 = 0 → a ≠ (Ar.readRes ((Ar.showB a).extract 0 q)).1 := Ar.read_short (by rw [ext_size _ (by omega)]; omega)
            have HSM := Lib.hid (fun A' c' P' W (hB : Below w.heap.size w W) (hA : ArM W A' P' a) => show Calls Tryz.prog 9 #[.agg #[.slice A a.ids.length c, .bool a.root.cell, .int .i64 a.root.n, .bool a.jumps], .agg #[.slice A' a.ids.length c', .bool a.root.cell, .int .i64 a.root.n, .bool a.jumps]] W fun e w' => e = .returned (.bool true) ∧ Below W.heap.size W w' from same_any a A A' c c' P P' W ((HMM.out.below hB).m hth) hA)
            have HSN := Lib.hid (fun (y : Ar.Are) A' c' P' W (hB : Below w.heap.size w W) (hA : ArM W A' P' y) => show Calls Tryz.prog 9 #[.agg #[.slice A a.ids.length c, .bool a.root.cell, .int .i64 a.root.n, .bool a.jumps], .agg #[.slice A' y.ids.length c', .bool y.root.cell, .int .i64 y.root.n, .bool y.jumps]] W fun e w' => e = .returned (.bool (decide (a = y))) ∧ Below W.heap.size W w' from sameD_any a y A A' c c' P P' W ((HMM.out.below hB).m hth) hA)
            have hb0 := empty_not hsp
            have hr0 : (0 : Int) ≤ (q : Int) := by omega
            have hr1 : (q : Int) ≤ ((Ar.showB a).size : Int) := by omega
            have hr2 := wrap_less hq (by omega)
            have hr3 : IntKind.i64.wrap (((Ar.showB a).size : Int) - 1) = (q : Int) := by rw [IntWalk.i64_left]; exact hr2
            generalize hsq : (Ar.showB a).extract 0 q = sq at *
            generalize Ar.showB a = sa at *
            generalize (Ar.readRes sq).1 = z at *
            generalize (Ar.readRes sq).2 = F at *
            have HSN := Lib.hid (HSN.out z)
            clear hss hsp hq HRD HMM hck hth hGH
            subst hz
            rw [decide_eq_false (hshort rfl)] at HSN
            clear hshort
            go_enter Tryz.func5, Tryz.ntmps5
            go_wp2_with (first
              | (go_at_call 6; refine (HA.out _ hF.below).mono ?_; rintro e wz ⟨rfl, hBz⟩; have hF := hF.next hBz)
              | (go_at_call 9; have _t := hBv; refine (HSN.out Az cz Pz _ hF.below hAz).mono ?_; rintro e wu ⟨rfl, hBu⟩; have hF := hF.next hBu)
              | (go_at_call 9; have _t := hBy; refine (HSM.out A9 c9 P9 _ hF.below hA9).mono ?_; rintro e wv ⟨rfl, hBv⟩; have hF := hF.next hBv; have hAz := hAz.below hBv; have hbz := hbz.next hBv; clear e0 e1 e2 e3; obtain ⟨e0, e1, e2, e3, -, -, -, -⟩ := cells4 hF.ar; clear n0 n1 n2 n3 o0 o1 o2 o3; obtain ⟨o0, o1, o2, o3, -, -, -, -⟩ := cells4 hbz)
              | (go_at_call 7; have _t := hB9; refine (HR2.out _ hF.below).mono ?_; rintro e wy ⟨Az, cz, Pz, rfl, hAz, hBy⟩; have hF := (hF.next hBy).next (below_al wy (.cells #[.slice Az z.ids.length cz, .bool z.root.cell, .int .i64 z.root.n, .bool z.jumps] 27 (0, 0))); have hA9 := (hA9.below hBy).below (below_al wy (.cells #[.slice Az z.ids.length cz, .bool z.root.cell, .int .i64 z.root.n, .bool z.jumps] 27 (0, 0))); have hb9 := (hb9.next hBy).next (below_al wy (.cells #[.slice Az z.ids.length cz, .bool z.root.cell, .int .i64 z.root.n, .bool z.jumps] 27 (0, 0))); have hAz := hAz.below (below_al wy (.cells #[.slice Az z.ids.length cz, .bool z.root.cell, .int .i64 z.root.n, .bool z.jumps] 27 (0, 0))); have hbz := AB.first wy Az cz z; clear e0 e1 e2 e3; obtain ⟨e0, e1, e2, e3, -, -, -, -⟩ := cells4 hF.ar; obtain ⟨n0, n1, n2, n3, -, -, -, -⟩ := cells4 hb9; obtain ⟨o0, o1, o2, o3, -, -, -, -⟩ := cells4 hbz)
              | (go_at_call 7; have _t := hB8; refine (HR1.out _ hF.below).mono ?_; rintro e w9 ⟨A9, c9, P9, rfl, hA9, hB9⟩; have hF := (hF.next hB9).next (below_al w9 (.cells #[.slice A9 a.ids.length c9, .bool a.root.cell, .int .i64 a.root.n, .bool a.jumps] 27 (0, 0))); have hA9 := hA9.below (below_al w9 (.cells #[.slice A9 a.ids.length c9, .bool a.root.cell, .int .i64 a.root.n, .bool a.jumps] 27 (0, 0))); have hb9 := AB.first w9 A9 c9 a; clear e0 e1 e2 e3; obtain ⟨e0, e1, e2, e3, -, -, -, -⟩ := cells4 hF.ar)
              | (go_at_call 24; refine (HSH.out A7 c7 P7 _ hF.below hA7).mono ?_; rintro e w8 ⟨rfl, hB8⟩; have hF := hF.next hB8; clear e0 e1 e2 e3; obtain ⟨e0, e1, e2, e3, -, -, -, -⟩ := cells4 hF.ar)
              | (go_at_call 25; refine (HCP.out _ hF.below).mono ?_; rintro e w7 ⟨A7, c7, P7, rfl, hA7, hB7⟩; have hF := hF.next hB7; clear e0 e1 e2 e3; obtain ⟨e0, e1, e2, e3, -, -, -, -⟩ := cells4 hF.ar)
              | (go_at_call 23; refine (HCK.out _ hF.below).mono ?_; rintro e w6 ⟨rfl, hB6⟩; have hF := hF.next hB6; clear e0 e1 e2 e3; obtain ⟨e0, e1, e2, e3, -, -, -, -⟩ := cells4 hF.ar)
              | (go_at_call 22; refine (HTH.out _ hF.below).mono ?_; rintro e w5 ⟨rfl, hB5⟩; have hF := hF.next hB5; clear e0 e1 e2 e3; obtain ⟨e0, e1, e2, e3, -, -, -, -⟩ := cells4 hF.ar)
              | (go_at_call 19; have _t := hB3; refine (HP2.out _ hF.below).mono ?_; rintro e w4 ⟨rfl, hB4⟩; have hF := (hF.next hB4).next (below_mv w4 M); have hm3 := (hm3.next hB4).next (below_mv w4 M); have hm4 := MB.first w4 M; clear e0 e1 e2 e3 g0 g1 g2 g3; obtain ⟨e0, e1, e2, e3, -, -, -, -⟩ := cells4 hF.ar; obtain ⟨g0, g1, g2, g3, -, -, -, -⟩ := cells4 hF.mv; obtain ⟨k0, k1, k2, k3, -, -, -, -⟩ := cells4 hm3; obtain ⟨l0, l1, l2, l3, -, -, -, -⟩ := cells4 hm4)
              | (go_at_call 19; have _t := hB2; refine (HP1.out _ hF.below).mono ?_; rintro e w3 ⟨rfl, hB3⟩; have hF := (hF.next hB3).next (below_mv w3 m); have hm3 := MB.first w3 m; clear e0 e1 e2 e3 g0 g1 g2 g3; obtain ⟨e0, e1, e2, e3, -, -, -, -⟩ := cells4 hF.ar; obtain ⟨g0, g1, g2, g3, -, -, -, -⟩ := cells4 hF.mv)
              | (go_at_call 20; refine (HT.out _ hF.below).mono ?_; rintro e w2 ⟨rfl, hB2⟩; have hF := hF.next hB2; clear e0 e1 e2 e3 g0 g1 g2 g3; obtain ⟨e0, e1, e2, e3, -, -, -, -⟩ := cells4 hF.ar; obtain ⟨g0, g1, g2, g3, -, -, -, -⟩ := cells4 hF.mv))
            go_ret
            exact ⟨rfl, hF.below⟩
          · rw [hth] at HTH
            have HCK := Lib.hid (fun W (hB : Below w.heap.size w W) => show Calls Tryz.prog 23 #[.agg #[.slice A a.ids.length c, .bool a.root.cell, .int .i64 a.root.n, .bool a.jumps]] W fun e w' => e = .returned (.int .i64 (Ar.checkOf a : Int)) ∧ Below W.heap.size W w' from refCheck_any a A c P W ((HMM.out.below hB).m hth))
            rw [hck] at HCK
            have HCP := Lib.hid (fun W (hB : Below w.heap.size w W) => copyL (HMM.out.below hB) hth)
            have HSH := Lib.hid (fun A' c' P' W (hB : Below w.heap.size w W) (hA : ArM W A' P' a) => show Calls Tryz.prog 24 #[.agg #[.slice A' a.ids.length c', .bool a.root.cell, .int .i64 a.root.n, .bool a.jumps]] W fun e w' => e = .returned (.tuple #[.string (Ar.showRes a).1, .int .i64 ((Ar.showRes a).2 : Int)]) ∧ Below W.heap.size W w' from show_any a A' c' P' W hA (hGH.out.below hB))
            rw [show Ar.showRes a = (Ar.showB a, 0) by unfold Ar.showRes; rw [if_pos hck]] at HSH
            have hss := showB_small (Ar.right_of_check hck)
            have hsp := Ar.show_pos a
            have HR1 := Lib.hid (HRD.out (Ar.showB a) (by omega))
            rw [Ar.readRes_show hck] at HR1
            obtain ⟨q, hq⟩ : ∃ q, (Ar.showB a).size = q + 1 := ⟨(Ar.showB a).size - 1, by omega⟩
            rw [show (Ar.showB a).size - 1 = q by omega] at hz
            have HR2 := Lib.hid (HRD.out ((Ar.showB a).extract 0 q) (by rw [ext_size _ (by omega)]; omega))
            have hshort : (Ar.readRes ((Ar.showB a).extract 0 q)).2 = 0 → a ≠ (Ar.readRes ((Ar.showB a).extract 0 q)).1 := Ar.read_short (by rw [ext_size _ (by omega)]; omega)
            have HSM := Lib.hid (fun A' c' P' W (hB : Below w.heap.size w W) (hA : ArM W A' P' a) => show Calls Tryz.prog 9 #[.agg #[.slice A a.ids.length c, .bool a.root.cell, .int .i64 a.root.n, .bool a.jumps], .agg #[.slice A' a.ids.length c', .bool a.root.cell, .int .i64 a.root.n, .bool a.jumps]] W fun e w' => e = .returned (.bool true) ∧ Below W.heap.size W w' from same_any a A A' c c' P P' W ((HMM.out.below hB).m hth) hA)
            have HSN := Lib.hid (fun (y : Ar.Are) A' c' P' W (hB : Below w.heap.size w W) (hA : ArM W A' P' y) => show Calls Tryz.prog 9 #[.agg #[.slice A a.ids.length c, .bool a.root.cell, .int .i64 a.root.n, .bool a.jumps], .agg #[.slice A' y.ids.length c', .bool y.root.cell, .int .i64 y.root.n, .bool y.jumps]] W fun e w' => e = .returned (.bool (decide (a = y))) ∧ Below W.heap.size W w' from sameD_any a y A A' c c' P P' W ((HMM.out.below hB).m hth) hA)
            have hb0 := empty_not hsp
            have hr0 : (0 : Int) ≤ (q : Int) := by omega
            have hr1 : (q : Int) ≤ ((Ar.showB a).size : Int) := by omega
            have hr2 := wrap_less hq (by omega)
            have hr3 : IntKind.i64.wrap (((Ar.showB a).size : Int) - 1) = (q : Int) := by rw [IntWalk.i64_left]; exact hr2
            generalize hsq : (Ar.showB a).extract 0 q = sq at *
            generalize Ar.showB a = sa at *
            generalize (Ar.readRes sq).1 = z at *
            generalize (Ar.readRes sq).2 = F at *
            have HSN := Lib.hid (HSN.out z)
            clear hss hsp hq HRD HMM hck hth hGH
            have hz2 : (((F : Nat) : Int) == 0) = false := by rw [beq_eq_false_iff_ne]; omega
            clear hshort hz HSN
            go_enter Tryz.func5, Tryz.ntmps5
            go_wp2_with (first
              | (go_at_call 6; refine (HA.out _ hF.below).mono ?_; rintro e wz ⟨rfl, hBz⟩; have hF := hF.next hBz)
              | (go_at_call 9; have _t := hBy; refine (HSM.out A9 c9 P9 _ hF.below hA9).mono ?_; rintro e wv ⟨rfl, hBv⟩; have hF := hF.next hBv; have hAz := hAz.below hBv; have hbz := hbz.next hBv; clear e0 e1 e2 e3; obtain ⟨e0, e1, e2, e3, -, -, -, -⟩ := cells4 hF.ar; clear n0 n1 n2 n3 o0 o1 o2 o3; obtain ⟨o0, o1, o2, o3, -, -, -, -⟩ := cells4 hbz)
              | (go_at_call 7; have _t := hB9; refine (HR2.out _ hF.below).mono ?_; rintro e wy ⟨Az, cz, Pz, rfl, hAz, hBy⟩; have hF := (hF.next hBy).next (below_al wy (.cells #[.slice Az z.ids.length cz, .bool z.root.cell, .int .i64 z.root.n, .bool z.jumps] 27 (0, 0))); have hA9 := (hA9.below hBy).below (below_al wy (.cells #[.slice Az z.ids.length cz, .bool z.root.cell, .int .i64 z.root.n, .bool z.jumps] 27 (0, 0))); have hb9 := (hb9.next hBy).next (below_al wy (.cells #[.slice Az z.ids.length cz, .bool z.root.cell, .int .i64 z.root.n, .bool z.jumps] 27 (0, 0))); have hAz := hAz.below (below_al wy (.cells #[.slice Az z.ids.length cz, .bool z.root.cell, .int .i64 z.root.n, .bool z.jumps] 27 (0, 0))); have hbz := AB.first wy Az cz z; clear e0 e1 e2 e3; obtain ⟨e0, e1, e2, e3, -, -, -, -⟩ := cells4 hF.ar; obtain ⟨n0, n1, n2, n3, -, -, -, -⟩ := cells4 hb9; obtain ⟨o0, o1, o2, o3, -, -, -, -⟩ := cells4 hbz)
              | (go_at_call 7; have _t := hB8; refine (HR1.out _ hF.below).mono ?_; rintro e w9 ⟨A9, c9, P9, rfl, hA9, hB9⟩; have hF := (hF.next hB9).next (below_al w9 (.cells #[.slice A9 a.ids.length c9, .bool a.root.cell, .int .i64 a.root.n, .bool a.jumps] 27 (0, 0))); have hA9 := hA9.below (below_al w9 (.cells #[.slice A9 a.ids.length c9, .bool a.root.cell, .int .i64 a.root.n, .bool a.jumps] 27 (0, 0))); have hb9 := AB.first w9 A9 c9 a; clear e0 e1 e2 e3; obtain ⟨e0, e1, e2, e3, -, -, -, -⟩ := cells4 hF.ar)
              | (go_at_call 24; refine (HSH.out A7 c7 P7 _ hF.below hA7).mono ?_; rintro e w8 ⟨rfl, hB8⟩; have hF := hF.next hB8; clear e0 e1 e2 e3; obtain ⟨e0, e1, e2, e3, -, -, -, -⟩ := cells4 hF.ar)
              | (go_at_call 25; refine (HCP.out _ hF.below).mono ?_; rintro e w7 ⟨A7, c7, P7, rfl, hA7, hB7⟩; have hF := hF.next hB7; clear e0 e1 e2 e3; obtain ⟨e0, e1, e2, e3, -, -, -, -⟩ := cells4 hF.ar)
              | (go_at_call 23; refine (HCK.out _ hF.below).mono ?_; rintro e w6 ⟨rfl, hB6⟩; have hF := hF.next hB6; clear e0 e1 e2 e3; obtain ⟨e0, e1, e2, e3, -, -, -, -⟩ := cells4 hF.ar)
              | (go_at_call 22; refine (HTH.out _ hF.below).mono ?_; rintro e w5 ⟨rfl, hB5⟩; have hF := hF.next hB5; clear e0 e1 e2 e3; obtain ⟨e0, e1, e2, e3, -, -, -, -⟩ := cells4 hF.ar)
              | (go_at_call 19; have _t := hB3; refine (HP2.out _ hF.below).mono ?_; rintro e w4 ⟨rfl, hB4⟩; have hF := (hF.next hB4).next (below_mv w4 M); have hm3 := (hm3.next hB4).next (below_mv w4 M); have hm4 := MB.first w4 M; clear e0 e1 e2 e3 g0 g1 g2 g3; obtain ⟨e0, e1, e2, e3, -, -, -, -⟩ := cells4 hF.ar; obtain ⟨g0, g1, g2, g3, -, -, -, -⟩ := cells4 hF.mv; obtain ⟨k0, k1, k2, k3, -, -, -, -⟩ := cells4 hm3; obtain ⟨l0, l1, l2, l3, -, -, -, -⟩ := cells4 hm4)
              | (go_at_call 19; have _t := hB2; refine (HP1.out _ hF.below).mono ?_; rintro e w3 ⟨rfl, hB3⟩; have hF := (hF.next hB3).next (below_mv w3 m); have hm3 := MB.first w3 m; clear e0 e1 e2 e3 g0 g1 g2 g3; obtain ⟨e0, e1, e2, e3, -, -, -, -⟩ := cells4 hF.ar; obtain ⟨g0, g1, g2, g3, -, -, -, -⟩ := cells4 hF.mv)
              | (go_at_call 20; refine (HT.out _ hF.below).mono ?_; rintro e w2 ⟨rfl, hB2⟩; have hF := hF.next hB2; clear e0 e1 e2 e3 g0 g1 g2 g3; obtain ⟨e0, e1, e2, e3, -, -, -, -⟩ := cells4 hF.ar; obtain ⟨g0, g1, g2, g3, -, -, -, -⟩ := cells4 hF.mv))
            go_ret
            exact ⟨rfl, hF.below⟩
        · rw [hth] at HTH
          have HCK := Lib.hid (fun W (hB : Below w.heap.size w W) => show Calls Tryz.prog 23 #[.agg #[.slice A a.ids.length c, .bool a.root.cell, .int .i64 a.root.n, .bool a.jumps]] W fun e w' => e = .returned (.int .i64 (Ar.checkOf a : Int)) ∧ Below W.heap.size W w' from refCheck_any a A c P W ((HMM.out.below hB).m hth))
          have hne : ((Ar.checkOf a : Int) == 0) = false := by rw [beq_eq_false_iff_ne]; omega
          generalize Ar.checkOf a = er at *
          clear hth hck HMM HRD hGH
          go_enter Tryz.func5, Tryz.ntmps5
          go_wp2_with (first
            | (go_at_call 6; refine (HA.out _ hF.below).mono ?_; rintro e wz ⟨rfl, hBz⟩; have hF := hF.next hBz)
            | (go_at_call 23; refine (HCK.out _ hF.below).mono ?_; rintro e w6 ⟨rfl, hB6⟩; have hF := hF.next hB6; clear e0 e1 e2 e3; obtain ⟨e0, e1, e2, e3, -, -, -, -⟩ := cells4 hF.ar)
            | (go_at_call 22; refine (HTH.out _ hF.below).mono ?_; rintro e w5 ⟨rfl, hB5⟩; have hF := hF.next hB5; clear e0 e1 e2 e3; obtain ⟨e0, e1, e2, e3, -, -, -, -⟩ := cells4 hF.ar)
            | (go_at_call 19; have _t := hB3; refine (HP2.out _ hF.below).mono ?_; rintro e w4 ⟨rfl, hB4⟩; have hF := (hF.next hB4).next (below_mv w4 M); have hm3 := (hm3.next hB4).next (below_mv w4 M); have hm4 := MB.first w4 M; clear e0 e1 e2 e3 g0 g1 g2 g3; obtain ⟨e0, e1, e2, e3, -, -, -, -⟩ := cells4 hF.ar; obtain ⟨g0, g1, g2, g3, -, -, -, -⟩ := cells4 hF.mv; obtain ⟨k0, k1, k2, k3, -, -, -, -⟩ := cells4 hm3; obtain ⟨l0, l1, l2, l3, -, -, -, -⟩ := cells4 hm4)
            | (go_at_call 19; have _t := hB2; refine (HP1.out _ hF.below).mono ?_; rintro e w3 ⟨rfl, hB3⟩; have hF := (hF.next hB3).next (below_mv w3 m); have hm3 := MB.first w3 m; clear e0 e1 e2 e3 g0 g1 g2 g3; obtain ⟨e0, e1, e2, e3, -, -, -, -⟩ := cells4 hF.ar; obtain ⟨g0, g1, g2, g3, -, -, -, -⟩ := cells4 hF.mv)
            | (go_at_call 20; refine (HT.out _ hF.below).mono ?_; rintro e w2 ⟨rfl, hB2⟩; have hF := hF.next hB2; clear e0 e1 e2 e3 g0 g1 g2 g3; obtain ⟨e0, e1, e2, e3, -, -, -, -⟩ := cells4 hF.ar; obtain ⟨g0, g1, g2, g3, -, -, -, -⟩ := cells4 hF.mv))
          go_ret
          exact ⟨rfl, hF.below⟩
  · have hx0 : (((Ar.textRes m).2 : Int) == 0) = false := by rw [beq_eq_false_iff_ne]; omega
    clear ht
    generalize (Ar.textRes m).1 = s at *
    generalize (Ar.textRes m).2 = E at *
    clear HPA HMO
    cases hth : Ar.thinOf a with
    | false =>
      rw [hth] at HTH
      clear hth HMM HRD hGH
      go_enter Tryz.func5, Tryz.ntmps5
      go_wp2_with (first
        | (go_at_call 6; refine (HA.out _ hF.below).mono ?_; rintro e wz ⟨rfl, hBz⟩; have hF := hF.next hBz)
        | (go_at_call 22; refine (HTH.out _ hF.below).mono ?_; rintro e w5 ⟨rfl, hB5⟩; have hF := hF.next hB5; clear e0 e1 e2 e3; obtain ⟨e0, e1, e2, e3, -, -, -, -⟩ := cells4 hF.ar)
        | (go_at_call 20; refine (HT.out _ hF.below).mono ?_; rintro e w2 ⟨rfl, hB2⟩; have hF := hF.next hB2; clear e0 e1 e2 e3 g0 g1 g2 g3; obtain ⟨e0, e1, e2, e3, -, -, -, -⟩ := cells4 hF.ar; obtain ⟨g0, g1, g2, g3, -, -, -, -⟩ := cells4 hF.mv))
      go_ret
      exact ⟨rfl, hF.below⟩
    | true =>
      by_cases hck : Ar.checkOf a = 0
      · by_cases hz : (Ar.readRes ((Ar.showB a).extract 0 ((Ar.showB a).size - 1))).2 = 0
        · rw [hth] at HTH
          have HCK := Lib.hid (fun W (hB : Below w.heap.size w W) => show Calls Tryz.prog 23 #[.agg #[.slice A a.ids.length c, .bool a.root.cell, .int .i64 a.root.n, .bool a.jumps]] W fun e w' => e = .returned (.int .i64 (Ar.checkOf a : Int)) ∧ Below W.heap.size W w' from refCheck_any a A c P W ((HMM.out.below hB).m hth))
          rw [hck] at HCK
          have HCP := Lib.hid (fun W (hB : Below w.heap.size w W) => copyL (HMM.out.below hB) hth)
          have HSH := Lib.hid (fun A' c' P' W (hB : Below w.heap.size w W) (hA : ArM W A' P' a) => show Calls Tryz.prog 24 #[.agg #[.slice A' a.ids.length c', .bool a.root.cell, .int .i64 a.root.n, .bool a.jumps]] W fun e w' => e = .returned (.tuple #[.string (Ar.showRes a).1, .int .i64 ((Ar.showRes a).2 : Int)]) ∧ Below W.heap.size W w' from show_any a A' c' P' W hA (hGH.out.below hB))
          rw [show Ar.showRes a = (Ar.showB a, 0) by unfold Ar.showRes; rw [if_pos hck]] at HSH
          have hss := showB_small (Ar.right_of_check hck)
          have hsp := Ar.show_pos a
          have HR1 := Lib.hid (HRD.out (Ar.showB a) (by omega))
          rw [Ar.readRes_show hck] at HR1
          obtain ⟨q, hq⟩ : ∃ q, (Ar.showB a).size = q + 1 := ⟨(Ar.showB a).size - 1, by omega⟩
          rw [show (Ar.showB a).size - 1 = q by omega] at hz
          have HR2 := Lib.hid (HRD.out ((Ar.showB a).extract 0 q) (by rw [ext_size _ (by omega)]; omega))
          have hshort : (Ar.readRes ((Ar.showB a).extract 0 q)).2 = 0 → a ≠ (Ar.readRes ((Ar.showB a).extract 0 q)).1 := Ar.read_short (by rw [ext_size _ (by omega)]; omega)
          have HSM := Lib.hid (fun A' c' P' W (hB : Below w.heap.size w W) (hA : ArM W A' P' a) => show Calls Tryz.prog 9 #[.agg #[.slice A a.ids.length c, .bool a.root.cell, .int .i64 a.root.n, .bool a.jumps], .agg #[.slice A' a.ids.length c', .bool a.root.cell, .int .i64 a.root.n, .bool a.jumps]] W fun e w' => e = .returned (.bool true) ∧ Below W.heap.size W w' from same_any a A A' c c' P P' W ((HMM.out.below hB).m hth) hA)
          have HSN := Lib.hid (fun (y : Ar.Are) A' c' P' W (hB : Below w.heap.size w W) (hA : ArM W A' P' y) => show Calls Tryz.prog 9 #[.agg #[.slice A a.ids.length c, .bool a.root.cell, .int .i64 a.root.n, .bool a.jumps], .agg #[.slice A' y.ids.length c', .bool y.root.cell, .int .i64 y.root.n, .bool y.jumps]] W fun e w' => e = .returned (.bool (decide (a = y))) ∧ Below W.heap.size W w' from sameD_any a y A A' c c' P P' W ((HMM.out.below hB).m hth) hA)
          have hb0 := empty_not hsp
          have hr0 : (0 : Int) ≤ (q : Int) := by omega
          have hr1 : (q : Int) ≤ ((Ar.showB a).size : Int) := by omega
          have hr2 := wrap_less hq (by omega)
          have hr3 : IntKind.i64.wrap (((Ar.showB a).size : Int) - 1) = (q : Int) := by rw [IntWalk.i64_left]; exact hr2
          generalize hsq : (Ar.showB a).extract 0 q = sq at *
          generalize Ar.showB a = sa at *
          generalize (Ar.readRes sq).1 = z at *
          generalize (Ar.readRes sq).2 = F at *
          have HSN := Lib.hid (HSN.out z)
          clear hss hsp hq HRD HMM hck hth hGH
          subst hz
          rw [decide_eq_false (hshort rfl)] at HSN
          clear hshort
          go_enter Tryz.func5, Tryz.ntmps5
          go_wp2_with (first
            | (go_at_call 6; refine (HA.out _ hF.below).mono ?_; rintro e wz ⟨rfl, hBz⟩; have hF := hF.next hBz)
            | (go_at_call 9; have _t := hBv; refine (HSN.out Az cz Pz _ hF.below hAz).mono ?_; rintro e wu ⟨rfl, hBu⟩; have hF := hF.next hBu)
            | (go_at_call 9; have _t := hBy; refine (HSM.out A9 c9 P9 _ hF.below hA9).mono ?_; rintro e wv ⟨rfl, hBv⟩; have hF := hF.next hBv; have hAz := hAz.below hBv; have hbz := hbz.next hBv; clear e0 e1 e2 e3; obtain ⟨e0, e1, e2, e3, -, -, -, -⟩ := cells4 hF.ar; clear n0 n1 n2 n3 o0 o1 o2 o3; obtain ⟨o0, o1, o2, o3, -, -, -, -⟩ := cells4 hbz)
            | (go_at_call 7; have _t := hB9; refine (HR2.out _ hF.below).mono ?_; rintro e wy ⟨Az, cz, Pz, rfl, hAz, hBy⟩; have hF := (hF.next hBy).next (below_al wy (.cells #[.slice Az z.ids.length cz, .bool z.root.cell, .int .i64 z.root.n, .bool z.jumps] 27 (0, 0))); have hA9 := (hA9.below hBy).below (below_al wy (.cells #[.slice Az z.ids.length cz, .bool z.root.cell, .int .i64 z.root.n, .bool z.jumps] 27 (0, 0))); have hb9 := (hb9.next hBy).next (below_al wy (.cells #[.slice Az z.ids.length cz, .bool z.root.cell, .int .i64 z.root.n, .bool z.jumps] 27 (0, 0))); have hAz := hAz.below (below_al wy (.cells #[.slice Az z.ids.length cz, .bool z.root.cell, .int .i64 z.root.n, .bool z.jumps] 27 (0, 0))); have hbz := AB.first wy Az cz z; clear e0 e1 e2 e3; obtain ⟨e0, e1, e2, e3, -, -, -, -⟩ := cells4 hF.ar; obtain ⟨n0, n1, n2, n3, -, -, -, -⟩ := cells4 hb9; obtain ⟨o0, o1, o2, o3, -, -, -, -⟩ := cells4 hbz)
            | (go_at_call 7; have _t := hB8; refine (HR1.out _ hF.below).mono ?_; rintro e w9 ⟨A9, c9, P9, rfl, hA9, hB9⟩; have hF := (hF.next hB9).next (below_al w9 (.cells #[.slice A9 a.ids.length c9, .bool a.root.cell, .int .i64 a.root.n, .bool a.jumps] 27 (0, 0))); have hA9 := hA9.below (below_al w9 (.cells #[.slice A9 a.ids.length c9, .bool a.root.cell, .int .i64 a.root.n, .bool a.jumps] 27 (0, 0))); have hb9 := AB.first w9 A9 c9 a; clear e0 e1 e2 e3; obtain ⟨e0, e1, e2, e3, -, -, -, -⟩ := cells4 hF.ar)
            | (go_at_call 24; refine (HSH.out A7 c7 P7 _ hF.below hA7).mono ?_; rintro e w8 ⟨rfl, hB8⟩; have hF := hF.next hB8; clear e0 e1 e2 e3; obtain ⟨e0, e1, e2, e3, -, -, -, -⟩ := cells4 hF.ar)
            | (go_at_call 25; refine (HCP.out _ hF.below).mono ?_; rintro e w7 ⟨A7, c7, P7, rfl, hA7, hB7⟩; have hF := hF.next hB7; clear e0 e1 e2 e3; obtain ⟨e0, e1, e2, e3, -, -, -, -⟩ := cells4 hF.ar)
            | (go_at_call 23; refine (HCK.out _ hF.below).mono ?_; rintro e w6 ⟨rfl, hB6⟩; have hF := hF.next hB6; clear e0 e1 e2 e3; obtain ⟨e0, e1, e2, e3, -, -, -, -⟩ := cells4 hF.ar)
            | (go_at_call 22; refine (HTH.out _ hF.below).mono ?_; rintro e w5 ⟨rfl, hB5⟩; have hF := hF.next hB5; clear e0 e1 e2 e3; obtain ⟨e0, e1, e2, e3, -, -, -, -⟩ := cells4 hF.ar)
            | (go_at_call 20; refine (HT.out _ hF.below).mono ?_; rintro e w2 ⟨rfl, hB2⟩; have hF := hF.next hB2; clear e0 e1 e2 e3 g0 g1 g2 g3; obtain ⟨e0, e1, e2, e3, -, -, -, -⟩ := cells4 hF.ar; obtain ⟨g0, g1, g2, g3, -, -, -, -⟩ := cells4 hF.mv))
          go_ret
          exact ⟨rfl, hF.below⟩
        · rw [hth] at HTH
          have HCK := Lib.hid (fun W (hB : Below w.heap.size w W) => show Calls Tryz.prog 23 #[.agg #[.slice A a.ids.length c, .bool a.root.cell, .int .i64 a.root.n, .bool a.jumps]] W fun e w' => e = .returned (.int .i64 (Ar.checkOf a : Int)) ∧ Below W.heap.size W w' from refCheck_any a A c P W ((HMM.out.below hB).m hth))
          rw [hck] at HCK
          have HCP := Lib.hid (fun W (hB : Below w.heap.size w W) => copyL (HMM.out.below hB) hth)
          have HSH := Lib.hid (fun A' c' P' W (hB : Below w.heap.size w W) (hA : ArM W A' P' a) => show Calls Tryz.prog 24 #[.agg #[.slice A' a.ids.length c', .bool a.root.cell, .int .i64 a.root.n, .bool a.jumps]] W fun e w' => e = .returned (.tuple #[.string (Ar.showRes a).1, .int .i64 ((Ar.showRes a).2 : Int)]) ∧ Below W.heap.size W w' from show_any a A' c' P' W hA (hGH.out.below hB))
          rw [show Ar.showRes a = (Ar.showB a, 0) by unfold Ar.showRes; rw [if_pos hck]] at HSH
          have hss := showB_small (Ar.right_of_check hck)
          have hsp := Ar.show_pos a
          have HR1 := Lib.hid (HRD.out (Ar.showB a) (by omega))
          rw [Ar.readRes_show hck] at HR1
          obtain ⟨q, hq⟩ : ∃ q, (Ar.showB a).size = q + 1 := ⟨(Ar.showB a).size - 1, by omega⟩
          rw [show (Ar.showB a).size - 1 = q by omega] at hz
          have HR2 := Lib.hid (HRD.out ((Ar.showB a).extract 0 q) (by rw [ext_size _ (by omega)]; omega))
          have hshort : (Ar.readRes ((Ar.showB a).extract 0 q)).2 = 0 → a ≠ (Ar.readRes ((Ar.showB a).extract 0 q)).1 := Ar.read_short (by rw [ext_size _ (by omega)]; omega)
          have HSM := Lib.hid (fun A' c' P' W (hB : Below w.heap.size w W) (hA : ArM W A' P' a) => show Calls Tryz.prog 9 #[.agg #[.slice A a.ids.length c, .bool a.root.cell, .int .i64 a.root.n, .bool a.jumps], .agg #[.slice A' a.ids.length c', .bool a.root.cell, .int .i64 a.root.n, .bool a.jumps]] W fun e w' => e = .returned (.bool true) ∧ Below W.heap.size W w' from same_any a A A' c c' P P' W ((HMM.out.below hB).m hth) hA)
          have HSN := Lib.hid (fun (y : Ar.Are) A' c' P' W (hB : Below w.heap.size w W) (hA : ArM W A' P' y) => show Calls Tryz.prog 9 #[.agg #[.slice A a.ids.length c, .bool a.root.cell, .int .i64 a.root.n, .bool a.jumps], .agg #[.slice A' y.ids.length c', .bool y.root.cell, .int .i64 y.root.n, .bool y.jumps]] W fun e w' => e = .returned (.bool (decide (a = y))) ∧ Below W.heap.size W w' from sameD_any a y A A' c c' P P' W ((HMM.out.below hB).m hth) hA)
          have hb0 := empty_not hsp
          have hr0 : (0 : Int) ≤ (q : Int) := by omega
          have hr1 : (q : Int) ≤ ((Ar.showB a).size : Int) := by omega
          have hr2 := wrap_less hq (by omega)
          have hr3 : IntKind.i64.wrap (((Ar.showB a).size : Int) - 1) = (q : Int) := by rw [IntWalk.i64_left]; exact hr2
          generalize hsq : (Ar.showB a).extract 0 q = sq at *
          generalize Ar.showB a = sa at *
          generalize (Ar.readRes sq).1 = z at *
          generalize (Ar.readRes sq).2 = F at *
          have HSN := Lib.hid (HSN.out z)
          clear hss hsp hq HRD HMM hck hth hGH
          have hz2 : (((F : Nat) : Int) == 0) = false := by rw [beq_eq_false_iff_ne]; omega
          clear hshort hz HSN
          go_enter Tryz.func5, Tryz.ntmps5
          go_wp2_with (first
            | (go_at_call 6; refine (HA.out _ hF.below).mono ?_; rintro e wz ⟨rfl, hBz⟩; have hF := hF.next hBz)
            | (go_at_call 9; have _t := hBy; refine (HSM.out A9 c9 P9 _ hF.below hA9).mono ?_; rintro e wv ⟨rfl, hBv⟩; have hF := hF.next hBv; have hAz := hAz.below hBv; have hbz := hbz.next hBv; clear e0 e1 e2 e3; obtain ⟨e0, e1, e2, e3, -, -, -, -⟩ := cells4 hF.ar; clear n0 n1 n2 n3 o0 o1 o2 o3; obtain ⟨o0, o1, o2, o3, -, -, -, -⟩ := cells4 hbz)
            | (go_at_call 7; have _t := hB9; refine (HR2.out _ hF.below).mono ?_; rintro e wy ⟨Az, cz, Pz, rfl, hAz, hBy⟩; have hF := (hF.next hBy).next (below_al wy (.cells #[.slice Az z.ids.length cz, .bool z.root.cell, .int .i64 z.root.n, .bool z.jumps] 27 (0, 0))); have hA9 := (hA9.below hBy).below (below_al wy (.cells #[.slice Az z.ids.length cz, .bool z.root.cell, .int .i64 z.root.n, .bool z.jumps] 27 (0, 0))); have hb9 := (hb9.next hBy).next (below_al wy (.cells #[.slice Az z.ids.length cz, .bool z.root.cell, .int .i64 z.root.n, .bool z.jumps] 27 (0, 0))); have hAz := hAz.below (below_al wy (.cells #[.slice Az z.ids.length cz, .bool z.root.cell, .int .i64 z.root.n, .bool z.jumps] 27 (0, 0))); have hbz := AB.first wy Az cz z; clear e0 e1 e2 e3; obtain ⟨e0, e1, e2, e3, -, -, -, -⟩ := cells4 hF.ar; obtain ⟨n0, n1, n2, n3, -, -, -, -⟩ := cells4 hb9; obtain ⟨o0, o1, o2, o3, -, -, -, -⟩ := cells4 hbz)
            | (go_at_call 7; have _t := hB8; refine (HR1.out _ hF.below).mono ?_; rintro e w9 ⟨A9, c9, P9, rfl, hA9, hB9⟩; have hF := (hF.next hB9).next (below_al w9 (.cells #[.slice A9 a.ids.length c9, .bool a.root.cell, .int .i64 a.root.n, .bool a.jumps] 27 (0, 0))); have hA9 := hA9.below (below_al w9 (.cells #[.slice A9 a.ids.length c9, .bool a.root.cell, .int .i64 a.root.n, .bool a.jumps] 27 (0, 0))); have hb9 := AB.first w9 A9 c9 a; clear e0 e1 e2 e3; obtain ⟨e0, e1, e2, e3, -, -, -, -⟩ := cells4 hF.ar)
            | (go_at_call 24; refine (HSH.out A7 c7 P7 _ hF.below hA7).mono ?_; rintro e w8 ⟨rfl, hB8⟩; have hF := hF.next hB8; clear e0 e1 e2 e3; obtain ⟨e0, e1, e2, e3, -, -, -, -⟩ := cells4 hF.ar)
            | (go_at_call 25; refine (HCP.out _ hF.below).mono ?_; rintro e w7 ⟨A7, c7, P7, rfl, hA7, hB7⟩; have hF := hF.next hB7; clear e0 e1 e2 e3; obtain ⟨e0, e1, e2, e3, -, -, -, -⟩ := cells4 hF.ar)
            | (go_at_call 23; refine (HCK.out _ hF.below).mono ?_; rintro e w6 ⟨rfl, hB6⟩; have hF := hF.next hB6; clear e0 e1 e2 e3; obtain ⟨e0, e1, e2, e3, -, -, -, -⟩ := cells4 hF.ar)
            | (go_at_call 22; refine (HTH.out _ hF.below).mono ?_; rintro e w5 ⟨rfl, hB5⟩; have hF := hF.next hB5; clear e0 e1 e2 e3; obtain ⟨e0, e1, e2, e3, -, -, -, -⟩ := cells4 hF.ar)
            | (go_at_call 20; refine (HT.out _ hF.below).mono ?_; rintro e w2 ⟨rfl, hB2⟩; have hF := hF.next hB2; clear e0 e1 e2 e3 g0 g1 g2 g3; obtain ⟨e0, e1, e2, e3, -, -, -, -⟩ := cells4 hF.ar; obtain ⟨g0, g1, g2, g3, -, -, -, -⟩ := cells4 hF.mv))
          go_ret
          exact ⟨rfl, hF.below⟩
      · rw [hth] at HTH
        have HCK := Lib.hid (fun W (hB : Below w.heap.size w W) => show Calls Tryz.prog 23 #[.agg #[.slice A a.ids.length c, .bool a.root.cell, .int .i64 a.root.n, .bool a.jumps]] W fun e w' => e = .returned (.int .i64 (Ar.checkOf a : Int)) ∧ Below W.heap.size W w' from refCheck_any a A c P W ((HMM.out.below hB).m hth))
        have hne : ((Ar.checkOf a : Int) == 0) = false := by rw [beq_eq_false_iff_ne]; omega
        generalize Ar.checkOf a = er at *
        clear hth hck HMM HRD hGH
        go_enter Tryz.func5, Tryz.ntmps5
        go_wp2_with (first
          | (go_at_call 6; refine (HA.out _ hF.below).mono ?_; rintro e wz ⟨rfl, hBz⟩; have hF := hF.next hBz)
          | (go_at_call 23; refine (HCK.out _ hF.below).mono ?_; rintro e w6 ⟨rfl, hB6⟩; have hF := hF.next hB6; clear e0 e1 e2 e3; obtain ⟨e0, e1, e2, e3, -, -, -, -⟩ := cells4 hF.ar)
          | (go_at_call 22; refine (HTH.out _ hF.below).mono ?_; rintro e w5 ⟨rfl, hB5⟩; have hF := hF.next hB5; clear e0 e1 e2 e3; obtain ⟨e0, e1, e2, e3, -, -, -, -⟩ := cells4 hF.ar)
          | (go_at_call 20; refine (HT.out _ hF.below).mono ?_; rintro e w2 ⟨rfl, hB2⟩; have hF := hF.next hB2; clear e0 e1 e2 e3 g0 g1 g2 g3; obtain ⟨e0, e1, e2, e3, -, -, -, -⟩ := cells4 hF.ar; obtain ⟨g0, g1, g2, g3, -, -, -, -⟩ := cells4 hF.mv))
        go_ret
        exact ⟨rfl, hF.below⟩
end Go.Proofs.YtepdlghobopdbaaGreatDoor
