/-
  WALKS: the place of two numbers.
-/
import Derived.Test.YtepdlghobopdbaaGreatDoorAq
namespace Go.Proofs.YtepdlghobopdbaaGreatDoor
open Go.RowKit Go.Shelf
attribute [local go_sem] Oper.semAt_some

namespace Ar
def atIs (id arg : Int) (p : Pl) : Bool := decide (p.id = id) && decide (p.arg = arg)
def atOf (a : Are) (id arg : Int) : Option Pl := (placesOf a).find? (atIs id arg)
def isQ (m : Mv) : Bool := m.kind != 3
end Ar

set_option maxRecDepth 100000 in
set_option maxHeartbeats 1000000 in
theorem isQuestion_any (m : Ar.Mv) (w : World) : Calls Tryz.prog 35 #[mvV m] w fun e w' => e = .returned (.bool (Ar.isQ m)) ∧ Below w.heap.size w w' := by
  have hw : Ar.isQ m = (m.kind != 3) := rfl
  have HW := Lib.hid hw; clear hw
  unfold mvV
  go_enter Tryz.func35, Tryz.ntmps35
  go_wp2
  go_ret
  exact ⟨ret_bool HW.out.symm, (Below.refl _ _).alloc (Nat.le_refl _) _⟩
set_option maxRecDepth 100000 in
set_option maxHeartbeats 1000000 in
theorem isIdentifier_any (p : Ar.Pl) (w : World) : Calls Tryz.prog 34 #[plV p] w fun e w' => e = .returned (.bool (Ar.isId p)) ∧ Below w.heap.size w w' := by
  have hw : Ar.isId p = (decide (0 < p.id) && decide (p.arg = 0)) := rfl
  have HW := Lib.hid hw; clear hw
  unfold plV
  by_cases h1 : 0 < p.id
  · have HQ : Hid (Ar.isId p = decide (p.arg = 0)) := by rw [Hid, HW.out, decide_eq_true h1]; rfl
    clear HW
    go_enter Tryz.func34, Tryz.ntmps34
    go_wp2
    go_ret
    exact ⟨ret_bool (by rw [HQ.out]; exact Bool.eq_iff_iff.2 (by simp)), (Below.refl _ _).alloc (Nat.le_refl _) _⟩
  · have HQ : Hid (Ar.isId p = false) := by rw [Hid, HW.out, decide_eq_false h1]; rfl
    clear HW
    go_enter Tryz.func34, Tryz.ntmps34
    go_wp2
    go_ret
    exact ⟨ret_bool HQ.out.symm, (Below.refl _ _).alloc (Nat.le_refl _) _⟩

theorem cells_of {W : World} {p : Addr} {v : Value} (h : W.cell? p = some v) : ∃ o : Obj, W.heap[p.block]? = some o ∧ o.isCells = true := by
  unfold World.cell? at h
  cases hh : W.heap[p.block]? with
  | none => rw [hh] at h; cases h
  | some o => cases o <;> first | exact ⟨_, rfl, rfl⟩ | (rw [hh] at h; cases h)
theorem five_new (W : World) (o1 o2 o3 o4 o5 : Obj) : Ext W.heap.size W (((((W.alloc o1).alloc o2).alloc o3).alloc o4).alloc o5) ∧ (((((W.alloc o1).alloc o2).alloc o3).alloc o4).alloc o5).heap[W.heap.size]? = some o1 ∧ (((((W.alloc o1).alloc o2).alloc o3).alloc o4).alloc o5).heap[W.heap.size + 1]? = some o2 ∧
    (((((W.alloc o1).alloc o2).alloc o3).alloc o4).alloc o5).heap[W.heap.size + 1 + 1]? = some o3 ∧ (((((W.alloc o1).alloc o2).alloc o3).alloc o4).alloc o5).heap[W.heap.size + 1 + 1 + 1]? = some o4 ∧ (((((W.alloc o1).alloc o2).alloc o3).alloc o4).alloc o5).heap[W.heap.size + 1 + 1 + 1 + 1]? = some o5 ∧
    W.heap.size + 5 ≤ (((((W.alloc o1).alloc o2).alloc o3).alloc o4).alloc o5).heap.size := by
  have h1 := World.alloc_heap_new W o1
  have h2 := World.alloc_heap_new (W.alloc o1) o2
  have h3 := World.alloc_heap_new ((W.alloc o1).alloc o2) o3
  have h4 := World.alloc_heap_new (((W.alloc o1).alloc o2).alloc o3) o4
  have h5 := World.alloc_heap_new ((((W.alloc o1).alloc o2).alloc o3).alloc o4) o5
  simp only [World.size_alloc] at h2 h3 h4 h5
  have up : ∀ (V : World) (o : Obj) (k : Nat) (q : Obj), V.heap[k]? = some q → (V.alloc o).heap[k]? = some q := fun V o k q h => (Below.heap_alloc _ _ _ (lt_of_heap h)).trans h
  refine ⟨?_, up _ _ _ _ (up _ _ _ _ (up _ _ _ _ (up _ _ _ _ h1))), up _ _ _ _ (up _ _ _ _ (up _ _ _ _ h2)), up _ _ _ _ (up _ _ _ _ h3), up _ _ _ _ h4, h5, by simp⟩
  exact (((((Ext.refl _ W).alloc (Nat.le_refl _) _).alloc (by simp) _).alloc (by simp) _).alloc (by simp) _).alloc (by simp) _
theorem lasts_cell (n : Nat) (p : Addr) (v : Value) : Lasts n (fun W => W.cell? p = some v) := fun A B e h => by
  obtain ⟨o, ho, hc⟩ := cells_of h
  exact (World.cell?_of_block ((e.cells _ _ ho hc).trans ho.symm)).trans h
theorem plO_frozen {W : World} {b : Nat} {p : Ar.Pl} (h : W.heap[b]? = some (plO p)) : W.frozen? ⟨b, 0, none⟩ = false ∧ W.frozen? ⟨b, 1, none⟩ = false ∧ W.frozen? ⟨b, 2, none⟩ = false ∧ W.frozen? ⟨b, 3, none⟩ = false ∧ W.frozen? ⟨b, 4, none⟩ = false := by
  unfold plO at h
  exact ⟨by simp [World.frozen?, h], by simp [World.frozen?, h], by simp [World.frozen?, h], by simp [World.frozen?, h], by simp [World.frozen?, h]⟩
theorem set_block {W : World} {b j : Nat} {cs : Array Value} {t : TypeId} {x : Value} (h : W.heap[b]? = some (.cells cs t (0, 0))) : (W.setCell ⟨b, j, none⟩ x).heap[b]? = some (.cells (cs.setIfInBounds j x) t (0, 0)) := by
  obtain ⟨hlt, hk⟩ := Array.getElem?_eq_some_iff.1 h
  show (W.heap.modify b _)[b]? = _
  rw [Array.getElem?_eq_getElem (by rw [Array.size_modify]; exact hlt), Array.getElem_modify_self, hk]
  rfl
theorem set5 {W : World} {b : Nat} {p : Ar.Pl} (q : Ar.Pl) (h : W.heap[b]? = some (plO p)) : (((((W.setCell ⟨b, 0, none⟩ (.bool q.base.cell)).setCell ⟨b, 1, none⟩ (.int .i64 q.base.n)).setCell ⟨b, 2, none⟩ (.int .i64 q.id)).setCell ⟨b, 3, none⟩ (.int .i64 q.arg)).setCell ⟨b, 4, none⟩ (.bool q.jumps)).heap[b]? = some (plO q) :=
  set_block (set_block (set_block (set_block (set_block h))))
/-- A place's cells. -/
def PlC (b : Nat) (p : Ar.Pl) (W : World) : Prop := W.cell? ⟨b, 0, none⟩ = some (.bool p.base.cell) ∧ W.cell? ⟨b, 1, none⟩ = some (.int .i64 p.base.n) ∧ W.cell? ⟨b, 2, none⟩ = some (.int .i64 p.id) ∧ W.cell? ⟨b, 3, none⟩ = some (.int .i64 p.arg) ∧ W.cell? ⟨b, 4, none⟩ = some (.bool p.jumps)
theorem lasts_plC (n b : Nat) (p : Ar.Pl) : Lasts n (PlC b p) := (lasts_cell _ _ _).and ((lasts_cell _ _ _).and ((lasts_cell _ _ _).and ((lasts_cell _ _ _).and (lasts_cell _ _ _))))
theorem lasts_ex {α : Type} {n : Nat} {J : α → World → Prop} (h : ∀ x, Lasts n (J x)) : Lasts n (fun W => ∃ x, J x W) := fun A B e ⟨x, hx⟩ => ⟨x, h x A B e hx⟩
theorem find_split {α : Type} {L pre suf : List α} {x : α} {f : α → Bool} (hL : L = pre ++ x :: suf) (h : pre.find? f = none) (hx : f x = true) : L.find? f = some x := by
  rw [hL, List.find?_append, h]; simp [hx]
def plZ : Ar.Pl := ⟨⟨false, 0⟩, 0, 0, false⟩
def plRes (o : Option Ar.Pl) : Value := match o with | some p => plV p | none => plV plZ

theorem at_store {w W : World} {b : Nat} {p : Ar.Pl} {u : Value} (hB : Below w.heap.size w W) (hz : W.heap[b]? = some (plO p)) (hb : Boxed W (b + 1) 4 u) (x : Ar.Pl) (r : Bool) (hle : w.heap.size ≤ b) (N : Nat) :
    KeepO N W ((((((W.setCell ⟨b, 0, none⟩ (.bool x.base.cell)).setCell ⟨b, 1, none⟩ (.int .i64 x.base.n)).setCell ⟨b, 2, none⟩ (.int .i64 x.id)).setCell ⟨b, 3, none⟩ (.int .i64 x.arg)).setCell ⟨b, 4, none⟩ (.bool x.jumps)).setCell ⟨b + 1, 0, none⟩ (.bool r)) ∧
    Below w.heap.size w ((((((W.setCell ⟨b, 0, none⟩ (.bool x.base.cell)).setCell ⟨b, 1, none⟩ (.int .i64 x.base.n)).setCell ⟨b, 2, none⟩ (.int .i64 x.id)).setCell ⟨b, 3, none⟩ (.int .i64 x.arg)).setCell ⟨b, 4, none⟩ (.bool x.jumps)).setCell ⟨b + 1, 0, none⟩ (.bool r)) ∧
    PlC b x ((((((W.setCell ⟨b, 0, none⟩ (.bool x.base.cell)).setCell ⟨b, 1, none⟩ (.int .i64 x.base.n)).setCell ⟨b, 2, none⟩ (.int .i64 x.id)).setCell ⟨b, 3, none⟩ (.int .i64 x.arg)).setCell ⟨b, 4, none⟩ (.bool x.jumps)).setCell ⟨b + 1, 0, none⟩ (.bool r)) ∧
    ((((((W.setCell ⟨b, 0, none⟩ (.bool x.base.cell)).setCell ⟨b, 1, none⟩ (.int .i64 x.base.n)).setCell ⟨b, 2, none⟩ (.int .i64 x.id)).setCell ⟨b, 3, none⟩ (.int .i64 x.arg)).setCell ⟨b, 4, none⟩ (.bool x.jumps)).setCell ⟨b + 1, 0, none⟩ (.bool r)).cell? ⟨b + 1, 0, none⟩ = some (.bool r) := by
  have h5 := set5 x hz
  have hK : KeepO N W (((((W.setCell ⟨b, 0, none⟩ (.bool x.base.cell)).setCell ⟨b, 1, none⟩ (.int .i64 x.base.n)).setCell ⟨b, 2, none⟩ (.int .i64 x.id)).setCell ⟨b, 3, none⟩ (.int .i64 x.arg)).setCell ⟨b, 4, none⟩ (.bool x.jumps)) := (((((KeepO.refl _ _).setCell _ _).setCell _ _).setCell _ _).setCell _ _).setCell _ _
  have hBB : Below w.heap.size w (((((W.setCell ⟨b, 0, none⟩ (.bool x.base.cell)).setCell ⟨b, 1, none⟩ (.int .i64 x.base.n)).setCell ⟨b, 2, none⟩ (.int .i64 x.id)).setCell ⟨b, 3, none⟩ (.int .i64 x.arg)).setCell ⟨b, 4, none⟩ (.bool x.jumps)) := ((((hB.setCell (p := ⟨b, 0, none⟩) hle _).setCell (p := ⟨b, 1, none⟩) hle _).setCell (p := ⟨b, 2, none⟩) hle _).setCell (p := ⟨b, 3, none⟩) hle _).setCell (p := ⟨b, 4, none⟩) hle _
  have hne : ∀ (V : World) (j : Nat) (v : Value), (V.setCell ⟨b, j, none⟩ v).heap[b + 1]? = V.heap[b + 1]? := fun V j v => Below.heap_setCell V ⟨b, j, none⟩ v (b + 1) (by simp)
  have hb6 : Boxed (((((W.setCell ⟨b, 0, none⟩ (.bool x.base.cell)).setCell ⟨b, 1, none⟩ (.int .i64 x.base.n)).setCell ⟨b, 2, none⟩ (.int .i64 x.id)).setCell ⟨b, 3, none⟩ (.int .i64 x.arg)).setCell ⟨b, 4, none⟩ (.bool x.jumps)) (b + 1) 4 u := (hne _ _ _).trans ((hne _ _ _).trans ((hne _ _ _).trans ((hne _ _ _).trans ((hne _ _ _).trans hb))))
  generalize ((((W.setCell ⟨b, 0, none⟩ (.bool x.base.cell)).setCell ⟨b, 1, none⟩ (.int .i64 x.base.n)).setCell ⟨b, 2, none⟩ (.int .i64 x.id)).setCell ⟨b, 3, none⟩ (.int .i64 x.arg)).setCell ⟨b, 4, none⟩ (.bool x.jumps) = V at *
  exact ⟨hK.setCell _ _, hBB.setCell (p := ⟨b + 1, 0, none⟩) (by simp; omega) _, plO_cells ((Below.heap_setCell V ⟨b + 1, 0, none⟩ (.bool r) b (by simp)).trans h5), (hb6.set (.bool r)).cell⟩

set_option maxRecDepth 100000 in
set_option maxHeartbeats 4000000 in
theorem at_any (a : Ar.Are) (A : Option Addr) (c : Nat) (P : Nat → Option Addr × Nat) (id arg : Int) (w : World) (hA : ArM w A P a) (hl1 : a.ids.length ≤ 1000) (hl2 : ∀ t ∈ a.ids, t.params.length ≤ 1000) :
    Calls Tryz.prog 45 #[arV A c a, .int .i64 id, .int .i64 arg] w fun e w' => e = .returned (.tuple #[plRes (Ar.atOf a id arg), .bool (Ar.atOf a id arg).isSome]) ∧ Below w.heap.size w w' := by
  have HS := Lib.hid (places_gives 1 (Nat.le_refl _) a A c w.heap.size P hl1 hl2)
  have HI := Lib.hid (fun W (hB : Below w.heap.size w W) => hA.tys.below hB)
  obtain ⟨R, hR⟩ : ∃ R, Ar.atOf a id arg = R := ⟨_, rfl⟩
  rw [hR]
  have HR := Lib.hid hR; clear hR hA
  have hav : arV A c a = .agg #[.slice A a.ids.length c, .bool a.root.cell, .int .i64 a.root.n, .bool a.jumps] := rfl
  rw [hav]; clear hav
  refine (callsIn_wide (n := 9)).1 (callsIn_of_wp_marks Tryz.func45 rfl trivial ?_ rfl)
  simp only [Tryz.ntmps45, List.size_toArray, List.length_cons, List.length_nil, Nat.reduceAdd, Nat.reduceSub, Array.replicate_succ, Array.replicate_zero, List.push_toArray, List.append_toArray, List.nil_append, List.cons_append]
  obtain ⟨hE, h1, h2, h3, h4, h5, hsz⟩ := five_new w (.cells #[.slice A a.ids.length c, .bool a.root.cell, .int .i64 a.root.n, .bool a.jumps] 66) (.cells #[.int .i64 id] 3) (.cells #[.int .i64 arg] 3) (plO plZ) (.cells #[.bool false] 4)
  unfold plO plZ at hE h1 h2 h3 h4 h5 hsz
  gi_wp2
  generalize ((((w.alloc (.cells #[.slice A a.ids.length c, .bool a.root.cell, .int .i64 a.root.n, .bool a.jumps] 66)).alloc (.cells #[.int .i64 id] 3)).alloc (.cells #[.int .i64 arg] 3)).alloc (.cells #[.bool false, .int .i64 0, .int .i64 0, .int .i64 0, .bool false] 68)).alloc (.cells #[.bool false] 4) = Wl at *
  refine range_own (n := 9) (by omega) (ba := #[arV A c a]) (lb := #[]) rfl (enters_of Tryz.func63 (by kernel_rfl) rfl) encPl_size (HS.out.any) (fun l => ⟨l, rfl⟩) (fun _ _ => trivial)
    (fun pre W' => pre.find? (Ar.atIs id arg) = none ∧ Below w.heap.size w W' ∧ W'.cell? ⟨w.heap.size + 1, 0, none⟩ = some (.int .i64 id) ∧ W'.cell? ⟨w.heap.size + 1 + 1, 0, none⟩ = some (.int .i64 arg) ∧ W'.heap[w.heap.size + 1 + 1 + 1]? = some (plO plZ) ∧ Boxed W' (w.heap.size + 1 + 1 + 1 + 1) 4 (.bool false))
    (fun W' => ∃ p, R = some p ∧ Below w.heap.size w W' ∧ PlC (w.heap.size + 1 + 1 + 1) p W' ∧ W'.cell? ⟨w.heap.size + 1 + 1 + 1 + 1, 0, none⟩ = some (.bool true))
    (fun _ W' h => HI.out W' h.2.1)
    (fun pre => (lasts_pure _ _).and ((lasts_below _ (by omega)).and ((lasts_cell _ _ _).and ((lasts_cell _ _ _).and (Lasts.and (fun A B e h => e.cells _ _ h rfl) (lasts_boxed _ _ _ _))))))
    (lasts_ex fun p => (lasts_pure _ _).and ((lasts_below _ (by omega)).and ((lasts_plC _ _ _).and (lasts_cell _ _ _))))
    ⟨rfl, hE.below, by simp [World.cell?, h2], by simp [World.cell?, h3], h4, h5⟩
    (fun x a' W' => ∃ bx, W'.heap[bx]? = some (plO x) ∧ a' = { tmps := #[.agg #[.slice A a.ids.length c, .bool a.root.cell, .int .i64 a.root.n, .bool a.jumps], .int .i64 id, .int .i64 arg, .pointer (some ⟨w.heap.size, 0, none⟩), .pointer (some ⟨w.heap.size + 1, 0, none⟩), .pointer (some ⟨w.heap.size + 1 + 1, 0, none⟩), .pointer (some ⟨w.heap.size + 1 + 1 + 1, 0, none⟩), .pointer (some ⟨w.heap.size + 1 + 1 + 1 + 1, 0, none⟩), .pointer (some ⟨bx, 0, none⟩), .agg #[.slice A a.ids.length c, .bool a.root.cell, .int .i64 a.root.n, .bool a.jumps], .func (.func 63) #[.agg #[.slice A a.ids.length c, .bool a.root.cell, .int .i64 a.root.n, .bool a.jumps]] #[], .agg #[.bool x.base.cell, .int .i64 x.base.n, .int .i64 x.id, .int .i64 x.arg, .bool x.jumps], undef, undef, undef, undef, undef, undef, undef, undef, undef, undef, undef, undef], defers := [] })
    (fun x a' A B e h => by obtain ⟨bx, h1, h2⟩ := h; exact ⟨bx, e.cells _ _ h1 rfl, h2⟩) ?assign ?body ?done ?stop
  case assign =>
    intro pre x suf W1 K hL hI hs hK
    unfold encPl plV
    gi_wp2
    exact hK _ _ ((Below.refl _ _).alloc (Nat.le_refl _) _) ⟨W1.heap.size, World.alloc_heap_new _ _, rfl⟩
  case body =>
    rintro pre x suf a' W1 hL ⟨hno, hB, hi, ha, hz, hb⟩ hs ⟨bx, hbx, rfl⟩
    obtain ⟨c0, c1, c2, c3, c4⟩ := plO_cells hbx
    obtain ⟨z0, z1, z2, z3, z4⟩ := plO_cells hz
    have hcb := hb.cell
    have hfb := hb.frozen
    obtain ⟨g0, g1, g2, g3, g4⟩ := plO_frozen hz
    have HZ := Lib.hid hz; have HB1 := Lib.hid hb; have HNO := Lib.hid hno; have HL := Lib.hid hL
    have hkb := Lib.hid hbx
    clear hz hb hno hL hbx
    by_cases h1 : x.id = id
    · have e1 : (x.id == id) = true := by rw [beq_iff_eq]; exact h1
      by_cases h2 : x.arg = arg
      · have e2 : (x.arg == arg) = true := by rw [beq_iff_eq]; exact h2
        have HA : Hid (Ar.atIs id arg x = true) := by rw [Hid, Ar.atIs, decide_eq_true h1, decide_eq_true h2]; rfl
        clear h1 h2
        have hRx : R = some x := by rw [← HR.out, Ar.atOf]; exact find_split HL.out HNO.out HA.out
        have hfin := at_store hB HZ.out HB1.out x true (by omega) Wl.heap.size
        have HF := Lib.hid hfin; have HRX := Lib.hid hRx
        clear hfin hRx
        gi_wp2
        exact ⟨HF.out.1, x, HRX.out, HF.out.2⟩
      · have e2 : (x.arg == arg) = false := by rw [beq_eq_false_iff_ne]; exact h2
        have HA : Hid (Ar.atIs id arg x = false) := by rw [Hid, Ar.atIs, decide_eq_false h2, Bool.and_false]
        clear h1 h2
        gi_wp2
        exact ⟨Keep.refl _ _, by rw [List.find?_append, HNO.out]; simp [HA.out], hB, hi, ha, HZ.out, HB1.out⟩
    · have e1 : (x.id == id) = false := by rw [beq_eq_false_iff_ne]; exact h1
      have HA : Hid (Ar.atIs id arg x = false) := by rw [Hid, Ar.atIs, decide_eq_false h1]; rfl
      clear h1
      gi_wp2
      exact ⟨Keep.refl _ _, by rw [List.find?_append, HNO.out]; simp [HA.out], hB, hi, ha, HZ.out, HB1.out⟩
  case done =>
    rintro W2 ⟨hno, hB, hi, ha, hz, hb⟩ hD
    obtain ⟨z0, z1, z2, z3, z4⟩ := plO_cells hz
    have hcb := hb.cell
    have hfb := hb.frozen
    obtain ⟨g0, g1, g2, g3, g4⟩ := plO_frozen hz
    obtain ⟨k1, k2, k3, k4⟩ := at_store hB hz hb plZ false (by omega) 0
    have kD := k1.same _ _ (Nat.zero_le _) hD rfl
    have hRN : R = none := by rw [← HR.out, Ar.atOf]; exact hno
    have K2 := Lib.hid k2; have K3 := Lib.hid k3; have K4 := Lib.hid k4; have KD := Lib.hid kD; have HRN := Lib.hid hRN
    clear hD hz hb hno hB k1 k2 k3 k4 kD hRN
    unfold plZ at z0 z1 z2 z3 z4 K2 K3 K4 KD
    gi_wp2
    generalize (((((W2.setCell ⟨w.heap.size + 1 + 1 + 1, 0, none⟩ (.bool false)).setCell ⟨w.heap.size + 1 + 1 + 1, 1, none⟩ (.int .i64 0)).setCell ⟨w.heap.size + 1 + 1 + 1, 2, none⟩ (.int .i64 0)).setCell ⟨w.heap.size + 1 + 1 + 1, 3, none⟩ (.int .i64 0)).setCell ⟨w.heap.size + 1 + 1 + 1, 4, none⟩ (.bool false)).setCell ⟨w.heap.size + 1 + 1 + 1 + 1, 0, none⟩ (.bool false) = Wf at *
    refine ⟨by simp, .inl ⟨_, _, rfl, run_takeDeferred KD.out, ?_⟩⟩
    have hEx := Ext.put (n₀ := w.heap.size) (.deferred none) (by omega) KD.out rfl
    obtain ⟨p0, p1, p2, p3, p4⟩ := lasts_plC _ _ _ _ _ hEx K3.out
    have p5 := lasts_cell _ _ _ _ _ hEx K4.out
    have hBf := K2.out.trans hEx.below
    generalize Wf.putObj Wl.heap.size (.deferred none) = Vf at *
    refine ⟨.tuple #[.agg #[.bool false, .int .i64 0, .int .i64 0, .int .i64 0, .bool false], .bool false], by simp [results, Tryz.results45, go_sem, p0, p1, p2, p3, p4, p5], by rw [HRN.out]; rfl, hBf⟩
  case stop =>
    rintro W2 ⟨p, hp, hB, hpl, hb⟩ hD
    have HD := Lib.hid hD; have HP := Lib.hid hp; have HB := Lib.hid hB; have HPL := Lib.hid hpl; have HBB := Lib.hid hb
    clear hD hp hB hpl hb
    gi_wp2
    refine ⟨by simp, .inl ⟨_, _, rfl, run_takeDeferred HD.out, ?_⟩⟩
    have hEx := Ext.put (n₀ := w.heap.size) (.deferred none) (by omega) HD.out rfl
    obtain ⟨p0, p1, p2, p3, p4⟩ := lasts_plC _ _ _ _ _ hEx HPL.out
    have p5 := lasts_cell _ _ _ _ _ hEx HBB.out
    have hBf := HB.out.trans hEx.below
    generalize W2.putObj Wl.heap.size (.deferred none) = Vf at *
    refine ⟨.tuple #[.agg #[.bool p.base.cell, .int .i64 p.base.n, .int .i64 p.id, .int .i64 p.arg, .bool p.jumps], .bool true], by simp [results, Tryz.results45, go_sem, p0, p1, p2, p3, p4, p5], by rw [HP.out]; rfl, hBf⟩
end Go.Proofs.YtepdlghobopdbaaGreatDoor
