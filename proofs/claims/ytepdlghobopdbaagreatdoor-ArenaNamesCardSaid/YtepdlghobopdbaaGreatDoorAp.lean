/-
  WALKS: whether an arena is right, 2.
-/
import Derived.Test.YtepdlghobopdbaaGreatDoorAo
import Derived.Test.YtepdlghobopdbaaGreatDoorAn
namespace Go.Proofs.YtepdlghobopdbaaGreatDoor
open Go.RowKit Go.Shelf

set_option maxRecDepth 100000 in
set_option maxHeartbeats 2000000 in
theorem indexL_any (l : List Ar.Ty) (A : Option Addr) (c : Nat) (P : Nat → Option Addr × Nat) (w : World) (hL : l.length ≤ 1000000) (h5 : ∀ t ∈ l, t.params.length ≤ 1000000) (hT : Tys w w.heap.size A P l) : Calls Tryz.prog 98 #[.slice A l.length c, .func (.func 81) #[] #[]] w (fun e w' => SomeIdx (l.any Ar.longType) e ∧ Below w.heap.size w w') := by
  have HT := Lib.hid hT; have HL := Lib.hid hL; clear hT
  obtain ⟨R, hR⟩ : ∃ R, l.any Ar.longType = R := ⟨_, rfl⟩
  rw [hR]
  have HR := Lib.hid hR; clear hR
  go_enter Tryz.func98, Tryz.ntmps98
  go_wp2
  go_loopw [8] (fun i wr => ∃ k : Nat, k ≤ l.length ∧ i = .int .i64 k ∧ Hid (R = (l.drop k).any Ar.longType) ∧ Below w.heap.size w wr) (fun i _ => l.length - (intOf i).toNat)
  case atStart => exact ⟨0, Nat.zero_le _, rfl, HR.out.symm, Below.refl _ _⟩
  case round =>
    obtain ⟨k, hk, rfl, hr, hB⟩ := hrel
    by_cases hlt : k < l.length
    · obtain ⟨x, hx⟩ : ∃ x, l[k]? = some x := ⟨_, List.getElem?_eq_getElem hlt⟩
      obtain ⟨b, off, hA, hbB, hc⟩ := (HT.out.below hB) (by intro e; rw [e] at hlt; simp at hlt)
      obtain ⟨c0, c1, c2, hbas⟩ := hc k x hx
      have hr' := hr.out
      rw [Ar.drop_of_get hx, List.any_cons] at hr'
      have HX := Lib.hid hx
      clear hr hx hc
      subst hA
      have HP := Lib.hid (fun (W : World) (_ : Below w.heap.size w W) => isLongType_any (P k).1 (P k).2 x W (h5 x (List.mem_of_getElem? HX.out)))
      clear hbas
      unfold tyV at HP
      cases hp : Ar.longType x
      all_goals
        rw [hp] at hr' HP
        simp only [Bool.false_or, Bool.true_or] at hr'
        have HQ := Lib.hid hr'; clear hr' hp
        go_wp2_with (go_at_call 81; refine (HP.out wr hB).mono ?_; rintro e w2 ⟨rfl, hB2⟩)
        first
          | (go_ret; exact ⟨⟨k, rfl, by rw [HQ.out]; simp⟩, hB.trans (hB2.mono hB.size)⟩)
          | (go_roundw
             case rel => exact ⟨k + 1, by omega, by go_num, HQ.out, hB.trans (hB2.mono hB.size)⟩
             case measure => simp [intOf]; omega)
    · obtain rfl : k = l.length := by omega
      have hr' := hr.out
      rw [List.drop_length, List.any_nil] at hr'
      have HQ := Lib.hid hr'; clear hr hr'
      go_wp2
      go_ret
      exact ⟨⟨-1, rfl, by rw [HQ.out]; rfl⟩, hB⟩

set_option maxRecDepth 100000 in
set_option maxHeartbeats 2000000 in
theorem containsL_any (l : List Ar.Ty) (A : Option Addr) (c : Nat) (P : Nat → Option Addr × Nat) (w : World) (hL : l.length ≤ 1000000) (h5 : ∀ t ∈ l, t.params.length ≤ 1000000) (hT : Tys w w.heap.size A P l) : Calls Tryz.prog 80 #[.slice A l.length c, .func (.func 81) #[] #[]] w (fun e w' => e = .returned (.bool (l.any Ar.longType)) ∧ Below w.heap.size w w') := by
  have HI := Lib.hid (indexL_any l A c P w hL h5 hT)
  clear hT h5
  go_enter Tryz.func80, Tryz.ntmps80
  go_wp2_with (go_at_call 98; refine HI.out.mono ?_; rintro e w2 ⟨⟨r, rfl, hr⟩, hB⟩; have HR := Lib.hid hr; clear hr)
  go_ret
  exact ⟨ret_bool (by rw [← HR.out]), hB⟩

set_option maxRecDepth 100000 in
set_option maxHeartbeats 2000000 in
theorem indexW_any (l : List Ar.Ty) (A : Option Addr) (c : Nat) (P : Nat → Option Addr × Nat) (w : World) (hL : l.length ≤ 1000000) (h5 : ∀ t ∈ l, t.params.length ≤ 1000000) (hT : Tys w w.heap.size A P l) : Calls Tryz.prog 98 #[.slice A l.length c, .func (.func 83) #[] #[]] w (fun e w' => SomeIdx (l.any Ar.wrongType) e ∧ Below w.heap.size w w') := by
  have HT := Lib.hid hT; have HL := Lib.hid hL; clear hT
  obtain ⟨R, hR⟩ : ∃ R, l.any Ar.wrongType = R := ⟨_, rfl⟩
  rw [hR]
  have HR := Lib.hid hR; clear hR
  go_enter Tryz.func98, Tryz.ntmps98
  go_wp2
  go_loopw [8] (fun i wr => ∃ k : Nat, k ≤ l.length ∧ i = .int .i64 k ∧ Hid (R = (l.drop k).any Ar.wrongType) ∧ Below w.heap.size w wr) (fun i _ => l.length - (intOf i).toNat)
  case atStart => exact ⟨0, Nat.zero_le _, rfl, HR.out.symm, Below.refl _ _⟩
  case round =>
    obtain ⟨k, hk, rfl, hr, hB⟩ := hrel
    by_cases hlt : k < l.length
    · obtain ⟨x, hx⟩ : ∃ x, l[k]? = some x := ⟨_, List.getElem?_eq_getElem hlt⟩
      obtain ⟨b, off, hA, hbB, hc⟩ := (HT.out.below hB) (by intro e; rw [e] at hlt; simp at hlt)
      obtain ⟨c0, c1, c2, hbas⟩ := hc k x hx
      have hr' := hr.out
      rw [Ar.drop_of_get hx, List.any_cons] at hr'
      have HX := Lib.hid hx
      clear hr hx hc
      subst hA
      have HB2 := Lib.hid hbas
      have HP := Lib.hid (fun (W : World) (hB3 : Below wr.heap.size wr W) => isWrongType_any (P k).1 (P k).2 x W (h5 x (List.mem_of_getElem? HX.out)) (((HB2.out.mono hB.size).below hB3).mono hB3.size))
      clear hbas
      unfold tyV at HP
      cases hp : Ar.wrongType x
      all_goals
        rw [hp] at hr' HP
        simp only [Bool.false_or, Bool.true_or] at hr'
        have HQ := Lib.hid hr'; clear hr' hp
        go_wp2_with (go_at_call 83; refine (HP.out wr (Below.refl _ _)).mono ?_; rintro e w2 ⟨rfl, hB2⟩)
        first
          | (go_ret; exact ⟨⟨k, rfl, by rw [HQ.out]; simp⟩, hB.trans (hB2.mono hB.size)⟩)
          | (go_roundw
             case rel => exact ⟨k + 1, by omega, by go_num, HQ.out, hB.trans (hB2.mono hB.size)⟩
             case measure => simp [intOf]; omega)
    · obtain rfl : k = l.length := by omega
      have hr' := hr.out
      rw [List.drop_length, List.any_nil] at hr'
      have HQ := Lib.hid hr'; clear hr hr'
      go_wp2
      go_ret
      exact ⟨⟨-1, rfl, by rw [HQ.out]; rfl⟩, hB⟩

set_option maxRecDepth 100000 in
set_option maxHeartbeats 2000000 in
theorem containsW_any (l : List Ar.Ty) (A : Option Addr) (c : Nat) (P : Nat → Option Addr × Nat) (w : World) (hL : l.length ≤ 1000000) (h5 : ∀ t ∈ l, t.params.length ≤ 1000000) (hT : Tys w w.heap.size A P l) : Calls Tryz.prog 80 #[.slice A l.length c, .func (.func 83) #[] #[]] w (fun e w' => e = .returned (.bool (l.any Ar.wrongType)) ∧ Below w.heap.size w w') := by
  have HI := Lib.hid (indexW_any l A c P w hL h5 hT)
  clear hT h5
  go_enter Tryz.func80, Tryz.ntmps80
  go_wp2_with (go_at_call 98; refine HI.out.mono ?_; rintro e w2 ⟨⟨r, rfl, hr⟩, hB⟩; have HR := Lib.hid hr; clear hr)
  go_ret
  exact ⟨ret_bool (by rw [← HR.out]), hB⟩

theorem cells4 {W : World} {b : Nat} {x y z u : Value} {t : TypeId} (h : W.heap[b]? = some (.cells #[x, y, z, u] t (0, 0))) : W.cell? ⟨b, 0, none⟩ = some x ∧ W.cell? ⟨b, 1, none⟩ = some y ∧ W.cell? ⟨b, 2, none⟩ = some z ∧ W.cell? ⟨b, 3, none⟩ = some u ∧
    W.frozen? ⟨b, 0, none⟩ = false ∧ W.frozen? ⟨b, 1, none⟩ = false ∧ W.frozen? ⟨b, 2, none⟩ = false ∧ W.frozen? ⟨b, 3, none⟩ = false :=
  ⟨by simp [World.cell?, h], by simp [World.cell?, h], by simp [World.cell?, h], by simp [World.cell?, h], by simp [World.frozen?, h], by simp [World.frozen?, h], by simp [World.frozen?, h], by simp [World.frozen?, h]⟩
def arZ : Value := .agg #[.slice none 0 0, .bool false, .int .i64 0, .bool false]
def rtRes (A : Option Addr) (c : Nat) (a : Ar.Are) : Value := if Ar.checkOf a = 0 then arV A c a else arZ
/-- What an arena in memory is. -/
structure ArM (w : World) (A : Option Addr) (P : Nat → Option Addr × Nat) (a : Ar.Are) : Prop where
  len : a.ids.length ≤ 1000000
  par : ∀ t ∈ a.ids, t.params.length ≤ 1000000
  tys : Tys w w.heap.size A P a.ids
theorem ArM.below {w w' : World} {A : Option Addr} {P : Nat → Option Addr × Nat} {a : Ar.Are} (h : ArM w A P a) (hB : Below w.heap.size w w') : ArM w' A P a := ⟨h.len, h.par, (h.tys.below hB).mono hB.size⟩

set_option maxRecDepth 100000 in
set_option maxHeartbeats 4000000 in
theorem rightOf_any (a : Ar.Are) (A : Option Addr) (c : Nat) (P : Nat → Option Addr × Nat) (w : World) (hA : ArM w A P a) :
    Calls Tryz.prog 44 #[arV A c a] w fun e w' => e = .returned (.tuple #[rtRes A c a, .int .i64 (Ar.checkOf a : Int)]) ∧ Below w.heap.size w w' := by
  have HL := Lib.hid (fun W (hB : Below w.heap.size w W) => containsL_any a.ids A c P W hA.len hA.par (hA.below hB).tys)
  have HWT := Lib.hid (fun W (hB : Below w.heap.size w W) => containsW_any a.ids A c P W hA.len hA.par (hA.below hB).tys)
  have HB := Lib.hid (fun W => isWrongBase_any a.root W)
  have hlen := hA.len
  have hck : Ar.checkOf a = if 8 < a.ids.length ∨ a.ids.any Ar.longType = true then 5 else if Ar.wrongBase a.root = true ∨ a.ids.any Ar.wrongType = true then 4 else 0 := rfl
  have HCK := Lib.hid hck; clear hck hA
  have hres : rtRes A c a = if Ar.checkOf a = 0 then arV A c a else arZ := rfl
  have HRES := Lib.hid hres; clear hres
  have hav : arV A c a = .agg #[.slice A a.ids.length c, .bool a.root.cell, .int .i64 a.root.n, .bool a.jumps] := rfl
  rw [hav]; clear hav
  have ht0 : ((w.alloc (.cells #[.slice A a.ids.length c, .bool a.root.cell, .int .i64 a.root.n, .bool a.jumps] 27)).alloc (.cells #[.slice none 0 0, .bool false, .int .i64 0, .bool false] 66)).heap[w.heap.size]? = _ := two_new1 w _ _
  have ht1 : ((w.alloc (.cells #[.slice A a.ids.length c, .bool a.root.cell, .int .i64 a.root.n, .bool a.jumps] 27)).alloc (.cells #[.slice none 0 0, .bool false, .int .i64 0, .bool false] 66)).heap[w.heap.size + 1]? = _ := two_new2 w _ _
  have hBw := (Ext.two w (.cells #[.slice A a.ids.length c, .bool a.root.cell, .int .i64 a.root.n, .bool a.jumps] 27) (.cells #[.slice none 0 0, .bool false, .int .i64 0, .bool false] 66)).below
  have HT0 := Lib.hid ht0; have HT1 := Lib.hid ht1; clear ht0 ht1
  unfold bsV at HB
  by_cases h8 : 8 < a.ids.length
  · have HQ : Hid (Ar.checkOf a = 5) := by rw [Hid, HCK.out, if_pos (.inl h8)]
    have HQ2 : Hid (rtRes A c a = arZ) := by rw [Hid, HRES.out, HQ.out]; rfl
    clear HCK HRES
    go_enter Tryz.func44, Tryz.ntmps44
    go_wp2
    refine bodyPost_ret (v := .tuple #[.agg #[.slice none 0 0, .bool false, .int .i64 0, .bool false], .int .i64 5]) (by simp [results, Tryz.results44, go_sem]) rfl ⟨?_, ?_⟩
    · rw [HQ.out, HQ2.out]; rfl
    · repeat (first | assumption | exact Below.refl _ _ | refine Below.drew ?_ | refine Below.setCell ?_ (by first | omega | (simp; omega) | simp) _ | refine below_drewN ?_ _ | refine Below.alloc ?_ (by first | omega | (simp; omega) | simp) _)
  · cases h1 : a.ids.any Ar.longType
    · cases h2 : Ar.wrongBase a.root
      · cases h3 : a.ids.any Ar.wrongType
        · have HQ : Hid (Ar.checkOf a = 0) := by rw [Hid, HCK.out, if_neg (by rw [h1]; simp; omega), if_neg (by rw [h2, h3]; simp)]
          have HQ2 : Hid (rtRes A c a = arV A c a) := by rw [Hid, HRES.out, HQ.out]; rfl
          rw [h1] at HL; rw [h2] at HB; rw [h3] at HWT
          clear h1 h2 h3 HCK HRES
          go_enter Tryz.func44, Tryz.ntmps44
          go_wp2_with (first
            | (go_at_call 80; refine (HWT.out w3 hBw3).mono ?_; rintro e w4 ⟨rfl, hB4⟩; have hBw4 := hBw3.trans (hB4.mono hBw3.size); have k40 := Lib.hid ((hB4.block _ (lt_of_heap k30.out)).trans k30.out); have k41 := Lib.hid ((hB4.block _ (lt_of_heap k31.out)).trans k31.out); obtain ⟨c40, c41, c42, c43, -⟩ := cells4 k40.out; obtain ⟨d40, d41, d42, d43, f40, f41, f42, f43⟩ := cells4 k41.out)
            | (go_at_call 82; refine (HB.out w2).mono ?_; rintro e w3 ⟨rfl, hB3⟩; have hBw3 := hBw2.trans (hB3.mono hBw2.size); have k30 := Lib.hid ((hB3.block _ (lt_of_heap k20.out)).trans k20.out); have k31 := Lib.hid ((hB3.block _ (lt_of_heap k21.out)).trans k21.out); obtain ⟨c30, c31, c32, c33, -⟩ := cells4 k30.out; obtain ⟨d30, d31, d32, d33, f30, f31, f32, f33⟩ := cells4 k31.out)
            | (go_at_call 80; refine (HL.out _ hBw).mono ?_; rintro e w2 ⟨rfl, hB2⟩; have hBw2 := hBw.trans (hB2.mono hBw.size); have k20 := Lib.hid ((hB2.block _ (lt_of_heap HT0.out)).trans HT0.out); have k21 := Lib.hid ((hB2.block _ (lt_of_heap HT1.out)).trans HT1.out); obtain ⟨c20, c21, c22, c23, -⟩ := cells4 k20.out; obtain ⟨d20, d21, d22, d23, f20, f21, f22, f23⟩ := cells4 k21.out))
          refine bodyPost_ret (v := .tuple #[.agg #[.slice A a.ids.length c, .bool a.root.cell, .int .i64 a.root.n, .bool a.jumps], .int .i64 0]) (by simp [results, Tryz.results44, go_sem, World.cell?_setCell_same', d40, d41, d42, d43]) rfl ⟨?_, ?_⟩
          · rw [HQ.out, HQ2.out]; rfl
          · refine hBw4.trans ?_
            repeat (first | assumption | exact Below.refl _ _ | refine Below.drew ?_ | refine Below.setCell ?_ (by first | omega | (simp; omega) | simp) _ | refine below_drewN ?_ _ | refine Below.alloc ?_ (by first | omega | (simp; omega) | simp) _)
        · have HQ : Hid (Ar.checkOf a = 4) := by rw [Hid, HCK.out, if_neg (by rw [h1]; simp; omega), if_pos (.inr h3)]
          have HQ2 : Hid (rtRes A c a = arZ) := by rw [Hid, HRES.out, HQ.out]; rfl
          rw [h1] at HL; rw [h2] at HB; rw [h3] at HWT
          clear h1 h2 h3 HCK HRES
          go_enter Tryz.func44, Tryz.ntmps44
          go_wp2_with (first
            | (go_at_call 80; refine (HWT.out w3 hBw3).mono ?_; rintro e w4 ⟨rfl, hB4⟩; have hBw4 := hBw3.trans (hB4.mono hBw3.size); have k40 := Lib.hid ((hB4.block _ (lt_of_heap k30.out)).trans k30.out); have k41 := Lib.hid ((hB4.block _ (lt_of_heap k31.out)).trans k31.out); obtain ⟨c40, c41, c42, c43, -⟩ := cells4 k40.out; obtain ⟨d40, d41, d42, d43, f40, f41, f42, f43⟩ := cells4 k41.out)
            | (go_at_call 82; refine (HB.out w2).mono ?_; rintro e w3 ⟨rfl, hB3⟩; have hBw3 := hBw2.trans (hB3.mono hBw2.size); have k30 := Lib.hid ((hB3.block _ (lt_of_heap k20.out)).trans k20.out); have k31 := Lib.hid ((hB3.block _ (lt_of_heap k21.out)).trans k21.out); obtain ⟨c30, c31, c32, c33, -⟩ := cells4 k30.out; obtain ⟨d30, d31, d32, d33, f30, f31, f32, f33⟩ := cells4 k31.out)
            | (go_at_call 80; refine (HL.out _ hBw).mono ?_; rintro e w2 ⟨rfl, hB2⟩; have hBw2 := hBw.trans (hB2.mono hBw.size); have k20 := Lib.hid ((hB2.block _ (lt_of_heap HT0.out)).trans HT0.out); have k21 := Lib.hid ((hB2.block _ (lt_of_heap HT1.out)).trans HT1.out); obtain ⟨c20, c21, c22, c23, -⟩ := cells4 k20.out; obtain ⟨d20, d21, d22, d23, f20, f21, f22, f23⟩ := cells4 k21.out))
          refine bodyPost_ret (v := .tuple #[.agg #[.slice none 0 0, .bool false, .int .i64 0, .bool false], .int .i64 4]) (by simp [results, Tryz.results44, go_sem, World.cell?_setCell_same', d40, d41, d42, d43]) rfl ⟨?_, ?_⟩
          · rw [HQ.out, HQ2.out]; rfl
          · refine hBw4.trans ?_
            repeat (first | assumption | exact Below.refl _ _ | refine Below.drew ?_ | refine Below.setCell ?_ (by first | omega | (simp; omega) | simp) _ | refine below_drewN ?_ _ | refine Below.alloc ?_ (by first | omega | (simp; omega) | simp) _)
      · have HQ : Hid (Ar.checkOf a = 4) := by rw [Hid, HCK.out, if_neg (by rw [h1]; simp; omega), if_pos (.inl h2)]
        have HQ2 : Hid (rtRes A c a = arZ) := by rw [Hid, HRES.out, HQ.out]; rfl
        rw [h1] at HL; rw [h2] at HB
        clear h1 h2 HCK HRES HWT
        go_enter Tryz.func44, Tryz.ntmps44
        go_wp2_with (first
          | (go_at_call 82; refine (HB.out w2).mono ?_; rintro e w3 ⟨rfl, hB3⟩; have hBw3 := hBw2.trans (hB3.mono hBw2.size); have k30 := Lib.hid ((hB3.block _ (lt_of_heap k20.out)).trans k20.out); have k31 := Lib.hid ((hB3.block _ (lt_of_heap k21.out)).trans k21.out); obtain ⟨c30, c31, c32, c33, -⟩ := cells4 k30.out; obtain ⟨d30, d31, d32, d33, f30, f31, f32, f33⟩ := cells4 k31.out)
          | (go_at_call 80; refine (HL.out _ hBw).mono ?_; rintro e w2 ⟨rfl, hB2⟩; have hBw2 := hBw.trans (hB2.mono hBw.size); have k20 := Lib.hid ((hB2.block _ (lt_of_heap HT0.out)).trans HT0.out); have k21 := Lib.hid ((hB2.block _ (lt_of_heap HT1.out)).trans HT1.out); obtain ⟨c20, c21, c22, c23, -⟩ := cells4 k20.out; obtain ⟨d20, d21, d22, d23, f20, f21, f22, f23⟩ := cells4 k21.out))
        refine bodyPost_ret (v := .tuple #[.agg #[.slice none 0 0, .bool false, .int .i64 0, .bool false], .int .i64 4]) (by simp [results, Tryz.results44, go_sem, World.cell?_setCell_same', d30, d31, d32, d33]) rfl ⟨?_, ?_⟩
        · rw [HQ.out, HQ2.out]; rfl
        · refine hBw3.trans ?_
          repeat (first | assumption | exact Below.refl _ _ | refine Below.drew ?_ | refine Below.setCell ?_ (by first | omega | (simp; omega) | simp) _ | refine below_drewN ?_ _ | refine Below.alloc ?_ (by first | omega | (simp; omega) | simp) _)
    · have HQ : Hid (Ar.checkOf a = 5) := by rw [Hid, HCK.out, if_pos (.inr h1)]
      have HQ2 : Hid (rtRes A c a = arZ) := by rw [Hid, HRES.out, HQ.out]; rfl
      rw [h1] at HL
      clear h1 HCK HRES HWT
      go_enter Tryz.func44, Tryz.ntmps44
      go_wp2_with (first
        | (go_at_call 80; refine (HL.out _ hBw).mono ?_; rintro e w2 ⟨rfl, hB2⟩; have hBw2 := hBw.trans (hB2.mono hBw.size); have k20 := Lib.hid ((hB2.block _ (lt_of_heap HT0.out)).trans HT0.out); have k21 := Lib.hid ((hB2.block _ (lt_of_heap HT1.out)).trans HT1.out); obtain ⟨c20, c21, c22, c23, -⟩ := cells4 k20.out; obtain ⟨d20, d21, d22, d23, f20, f21, f22, f23⟩ := cells4 k21.out))
      refine bodyPost_ret (v := .tuple #[.agg #[.slice none 0 0, .bool false, .int .i64 0, .bool false], .int .i64 5]) (by simp [results, Tryz.results44, go_sem, World.cell?_setCell_same', d20, d21, d22, d23]) rfl ⟨?_, ?_⟩
      · rw [HQ.out, HQ2.out]; rfl
      · refine hBw2.trans ?_
        repeat (first | assumption | exact Below.refl _ _ | refine Below.drew ?_ | refine Below.setCell ?_ (by first | omega | (simp; omega) | simp) _ | refine below_drewN ?_ _ | refine Below.alloc ?_ (by first | omega | (simp; omega) | simp) _)
end Go.Proofs.YtepdlghobopdbaaGreatDoor
