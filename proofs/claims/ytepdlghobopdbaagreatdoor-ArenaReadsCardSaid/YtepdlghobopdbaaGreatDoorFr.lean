/-
  WALKS: the reference: texts of types and arenas.
-/
import Derived.Test.YtepdlghobopdbaaGreatDoorFa
import Derived.Test.YtepdlghobopdbaaGreatDoorDc
import Derived.Test.YtepdlghobopdbaaGreatDoorBv
namespace Go.Proofs.YtepdlghobopdbaaGreatDoor
open Go.RowKit Go.MapKept Go.Shelf

set_option maxRecDepth 100000 in
set_option maxHeartbeats 8000000 in
theorem refTypeText_any (t : Ar.Ty) (A : Option Addr) (c : Nat) (w : World) (hT : Bas w w.heap.size A t.params) (hO : TyOk t) :
    Calls Tryz.prog 73 #[.agg #[.slice A t.params.length c, .bool t.result.cell, .int .i64 t.result.n]] w fun e w' => e = .returned (.string (Ar.typeB t)) ∧ Below w.heap.size w w' := by
  have hB0 : Below w.heap.size w (w.alloc (.cells #[.slice A t.params.length c, .bool t.result.cell, .int .i64 t.result.n] 53 (0, 0))) := (Below.refl _ _).alloc (Nat.le_refl _) _
  have j0 := Lib.hid (World.alloc_heap_new w (.cells #[.slice A t.params.length c, .bool t.result.cell, .int .i64 t.result.n] 53 (0, 0)))
  have HX := Lib.hid (fun W => refBaseText_any t.result hO.2.1 W)
  have hrs := baseB_size t.result hO.2.1
  by_cases h0 : t.params.length = 0
  · have HW := Lib.hid (Ar.typeB_none h0)
    rw [h0] at hB0 j0 ⊢
    clear hT hO hrs
    generalize Ar.baseB t.result = rb at *
    generalize t.result.cell = rc at *
    generalize t.result.n = rn at *
    go_enter Tryz.func73, Tryz.ntmps73
    go_wp2_with (go_at_call 72; refine (HX.out _).mono ?_; rintro e w2 ⟨rfl, hB2⟩)
    go_ret
    exact ⟨by rw [HW.out]; rfl, hB0.trans (hB2.mono hB0.size)⟩
  · have HW := Lib.hid (Ar.typeB_some h0)
    have HT := Lib.hid hT
    have hn0 : ((t.params.length : Int) == 0) = false := by rw [beq_eq_false_iff_ne]; omega
    have hl := hO.2.2
    have HP := Lib.hid (fun (k : Nat) (x : Ar.Bs) (hx : t.params[k]? = some x) (W : World) => refBaseText_any x (hO.1 x (List.mem_of_getElem? hx)) W)
    have HZ := Lib.hid (fun (k : Nat) => paramsAcc_size t hO k)
    have HZB := Lib.hid (fun (k : Nat) (x : Ar.Bs) (hx : t.params[k]? = some x) => baseB_size x (hO.1 x (List.mem_of_getElem? hx)))
    have HA0 := Lib.hid (Ar.paramsAcc_zero t)
    generalize Ar.baseB t.result = rb at *
    generalize t.result.cell = rc at *
    generalize t.result.n = rn at *
    clear hT hO
    go_enter Tryz.func73, Tryz.ntmps73
    go_wp2
    go_loopw [3, 4] (fun v i wr => ∃ k : Nat, k ≤ t.params.length ∧ v = .string (Ar.paramsAcc t k) ∧ i = .int .i64 (k : Int) ∧ Below w.heap.size w wr ∧ Hid (wr.heap[w.heap.size]? = some (.cells #[.slice A t.params.length c, .bool rc, .int .i64 rn] 53 (0, 0)))) (fun _ i _ => t.params.length - (intOf i).toNat)
    case atStart => exact ⟨0, Nat.zero_le _, by rw [HA0.out], rfl, hB0, j0.out⟩
    case round =>
      obtain ⟨k, hk, rfl, rfl, hB, hb⟩ := hrel
      obtain ⟨e0, e1, e2⟩ := cells3b hb.out
      have hz := HZ.out k
      by_cases hlt : k < t.params.length
      · obtain ⟨x, hx⟩ : ∃ x, t.params[k]? = some x := ⟨_, List.getElem?_eq_getElem hlt⟩
        obtain ⟨b, off, hA, hbB, hc⟩ := (HT.out.below hB) (by intro e; rw [e] at hlt; simp at hlt)
        obtain ⟨c0, c1⟩ := hc k x hx
        have HPX := Lib.hid (HP.out k x hx)
        have hzb := HZB.out k x hx
        have hle : ((k : Int) < (t.params.length : Int)) := by omega
        have hw2 : IntKind.i64.wrap (k : Int) = (k : Int) := IntWalk.i64_in _ (by omega)
        have hb0 : (0 : Int) ≤ (k : Int) := by omega
        have hb2 : (k : Int) ≤ (t.params.length : Int) := by omega
        subst hA
        by_cases hk0 : k = 0
        · subst hk0
          have HN : Hid (Ar.paramsAcc t (0 + 1) = Ar.paramsAcc t 0 ++ Ar.baseB x) := by rw [Hid, HA0.out]; exact Ar.paramsAcc_one hx
          rw [Nat.zero_mul, Nat.add_zero] at c0 c1
          clear hx hc
          generalize Ar.baseB x = bx at *
          generalize Ar.paramsAcc t 0 = acc at *
          have a1 := fun W => sum_ok hz hzb (by omega) W
          go_wp2_with (go_at_call 72; refine (HPX.out _).mono ?_; rintro e w2 ⟨rfl, hB2⟩; have hb2 := Lib.hid ((hB2.block _ (lt_of_heap hb.out)).trans hb.out))
          go_roundw
          case rel => exact ⟨0 + 1, by omega, by rw [HN.out], by go_num, hB.trans (hB2.mono hB.size), hb2.out⟩
          case measure => simp [intOf]; omega
        · have HN := Lib.hid (Ar.paramsAcc_next (by omega) hx)
          have hgt : (0 : Int) < (k : Int) := by omega
          clear hx hc
          generalize Ar.baseB x = bx at *
          generalize Ar.paramsAcc t k = acc at *
          have z1 : (⟨#[44, 32]⟩ : ByteArray).size ≤ 2 := Nat.le_refl _
          have z2 := sum_size hz z1
          have a1 := fun W => sum_ok hz z1 (by omega) W
          have a2 := fun W => sum_ok z2 hzb (by omega) W
          go_wp2_with (go_at_call 72; refine (HPX.out _).mono ?_; rintro e w2 ⟨rfl, hB2⟩; have hb2 := Lib.hid ((hB2.block _ (lt_of_heap hb.out)).trans hb.out))
          go_roundw
          case rel => exact ⟨k + 1, by omega, by rw [HN.out], by go_num, hB.trans (hB2.mono hB.size), hb2.out⟩
          case measure => simp [intOf]; omega
      · obtain rfl : k = t.params.length := by omega
        have hle : ¬ ((t.params.length : Int) < (t.params.length : Int)) := by omega
        generalize Ar.paramsAcc t t.params.length = acc at *
        have z1 : (⟨#[41, 32, 45, 62, 32]⟩ : ByteArray).size ≤ 5 := Nat.le_refl _
        have z2 := sum_size hz z1
        have a1 := fun W => sum_ok hz z1 (by omega) W
        have a2 := fun W => sum_ok z2 hrs (by omega) W
        go_wp2_with (go_at_call 72; refine (HX.out _).mono ?_; rintro e w2 ⟨rfl, hB2⟩)
        go_ret
        exact ⟨by rw [HW.out]; rfl, hB.trans (hB2.mono hB.size)⟩

set_option maxRecDepth 100000 in
set_option maxHeartbeats 8000000 in
theorem refShow_any (a : Ar.Are) (A : Option Addr) (c : Nat) (P : Nat → Option Addr × Nat) (w : World) (hA : ArM w A P a) :
    Calls Tryz.prog 31 #[.agg #[.slice A a.ids.length c, .bool a.root.cell, .int .i64 a.root.n, .bool a.jumps]] w fun e w' => e = .returned (.tuple #[.string (Ar.showRes a).1, .int .i64 ((Ar.showRes a).2 : Int)]) ∧ Below w.heap.size w w' := by
  have hB0 : Below w.heap.size w (w.alloc (.cells #[.slice A a.ids.length c, .bool a.root.cell, .int .i64 a.root.n, .bool a.jumps] 27 (0, 0))) := (Below.refl _ _).alloc (Nat.le_refl _) _
  have j0 := Lib.hid (World.alloc_heap_new w (.cells #[.slice A a.ids.length c, .bool a.root.cell, .int .i64 a.root.n, .bool a.jumps] 27 (0, 0)))
  have HC := Lib.hid (refCheck_any a A c P _ (hA.below hB0))
  have hav : arV A c a = .agg #[.slice A a.ids.length c, .bool a.root.cell, .int .i64 a.root.n, .bool a.jumps] := rfl
  rw [hav] at HC
  obtain ⟨e0, e1, e2, e3, -⟩ := cells4 j0.out
  unfold Ar.showRes
  by_cases hk : Ar.checkOf a = 0
  · rw [if_pos hk]
    have hr := Ar.right_of_check hk
    obtain ⟨ok1, ok2⟩ := right_ok hr
    have h8 := hr.ids
    have HT := Lib.hid hA.tys
    have HX := Lib.hid (fun W => refBaseText_any a.root ok1 W)
    have HP := Lib.hid (fun (k : Nat) (t : Ar.Ty) (hx : a.ids[k]? = some t) (B : Option Addr) (d : Nat) (W : World) (h : Bas W W.heap.size B t.params) => refTypeText_any t B d W h (ok2 t (List.mem_of_getElem? hx)))
    have HZ := Lib.hid (fun (k : Nat) => showAcc_size hr k)
    have HZT := Lib.hid (fun (k : Nat) (t : Ar.Ty) (hx : a.ids[k]? = some t) => typeB_size t (ok2 t (List.mem_of_getElem? hx)))
    have HA0 := Lib.hid (Ar.showAcc_zero a)
    have HJ0 := Lib.hid (fun h => Ar.showB_plain (a := a) h)
    have HJ1 := Lib.hid (fun h => Ar.showB_jumps (a := a) h)
    rw [hk] at HC
    clear hA hav hk hr ok1 ok2
    go_enter Tryz.func31, Tryz.ntmps31
    go_wp2_with (first
      | (go_at_call 72; refine (HX.out _).mono ?_; rintro e w3 ⟨rfl, hB3⟩; have hBw3 := hBw2.trans (hB3.mono hBw2.size); have j3 := Lib.hid ((hB3.block _ (lt_of_heap j2.out)).trans j2.out))
      | (go_at_call 23; refine HC.out.mono ?_; rintro e w2 ⟨rfl, hB2⟩; have hBw2 := hB0.trans (hB2.mono hB0.size); have j2 := Lib.hid ((hB2.block _ (lt_of_heap j0.out)).trans j0.out); obtain ⟨f0, f1, f2, f3, -⟩ := cells4 j2.out))
    clear e0 e1 e2 e3 f0 f1 f2 f3 hB0 hB2 hB3
    go_loopw [5, 6] (fun v i wr => ∃ k : Nat, k ≤ a.ids.length ∧ v = .string (Ar.showAcc a k) ∧ i = .int .i64 (k : Int) ∧ Below w.heap.size w wr ∧ Hid (wr.heap[w.heap.size]? = some (.cells #[.slice A a.ids.length c, .bool a.root.cell, .int .i64 a.root.n, .bool a.jumps] 27 (0, 0)))) (fun _ i _ => a.ids.length - (intOf i).toNat)
    case atStart => exact ⟨0, Nat.zero_le _, by rw [HA0.out], rfl, hBw3, j3.out⟩
    case round =>
      obtain ⟨k, hk, rfl, rfl, hB, hb⟩ := hrel
      obtain ⟨e0, e1, e2, e3, -⟩ := cells4 hb.out
      have hz := HZ.out k
      by_cases hlt : k < a.ids.length
      · obtain ⟨t, hx⟩ : ∃ t, a.ids[k]? = some t := ⟨_, List.getElem?_eq_getElem hlt⟩
        obtain ⟨b, off, hA, hbB, hc⟩ := (HT.out.below hB) (by intro e; rw [e] at hlt; simp at hlt)
        obtain ⟨c0, c1, c2, hbas⟩ := hc k t hx
        have HPX := Lib.hid (HP.out k t hx (P k).1 (P k).2 wr (hbas.mono hB.size))
        have hzb := HZT.out k t hx
        have HN := Lib.hid (Ar.showAcc_next hx)
        have hle : ((k : Int) < (a.ids.length : Int)) := by omega
        have hw2 : IntKind.i64.wrap (k : Int) = (k : Int) := IntWalk.i64_in _ (by omega)
        have hb0 : (0 : Int) ≤ (k : Int) := by omega
        have hb2 : (k : Int) ≤ (a.ids.length : Int) := by omega
        generalize (P k).1 = PA at *
        generalize (P k).2 = pc at *
        clear hx hc hbas
        subst hA
        generalize Ar.typeB t = tb at *
        generalize Ar.showAcc a k = acc at *
        have z1 : (⟨#[59, 32]⟩ : ByteArray).size ≤ 2 := Nat.le_refl _
        have z2 := sum_size z1 hzb
        have a1 := fun W => sum_ok z1 hzb (by omega) W
        have a2 := fun W => sum_ok hz z2 (by omega) W
        go_wp2_with (go_at_call 73; refine HPX.out.mono ?_; rintro e w4 ⟨rfl, hB4⟩; have hb4 := Lib.hid ((hB4.block _ (lt_of_heap hb.out)).trans hb.out))
        go_roundw
        case rel => exact ⟨k + 1, by omega, by rw [HN.out], by go_num, hB.trans (hB4.mono hB.size), hb4.out⟩
        case measure => simp [intOf]; omega
      · obtain rfl : k = a.ids.length := by omega
        have hle : ¬ ((a.ids.length : Int) < (a.ids.length : Int)) := by omega
        cases hj : a.jumps
        · have HV := Lib.hid (HJ0.out hj)
          rw [hj] at e3
          generalize Ar.showAcc a a.ids.length = acc at *
          go_wp2
          exact bodyPost_ret (v := .tuple #[.string acc, .int .i64 0]) (by simp [results, Tryz.results31, go_sem]) rfl ⟨by rw [HV.out], hB⟩
        · have HV := Lib.hid (HJ1.out hj)
          rw [hj] at e3
          generalize Ar.showAcc a a.ids.length = acc at *
          have z1 : (⟨#[59, 32, 106, 117, 109, 112, 115]⟩ : ByteArray).size ≤ 7 := Nat.le_refl _
          have a1 := fun W => sum_ok hz z1 (by omega) W
          go_wp2
          exact bodyPost_ret (v := .tuple #[.string (acc ++ ⟨#[59, 32, 106, 117, 109, 112, 115]⟩), .int .i64 0]) (by simp [results, Tryz.results31, go_sem]) rfl ⟨by rw [HV.out], hB⟩
  · rw [if_neg hk]
    have hne : ((Ar.checkOf a : Int) != 0) = true := by rw [bne_iff_ne]; omega
    clear hA hav hk
    generalize Ar.checkOf a = er at *
    go_enter Tryz.func31, Tryz.ntmps31
    go_wp2_with (go_at_call 23; refine HC.out.mono ?_; rintro e w2 ⟨rfl, hB2⟩)
    exact bodyPost_ret (v := .tuple #[.string ⟨#[]⟩, .int .i64 (er : Int)]) (by simp [results, Tryz.results31, go_sem]) rfl ⟨rfl, hB0.trans (hB2.mono hB0.size)⟩
end Go.Proofs.YtepdlghobopdbaaGreatDoor
