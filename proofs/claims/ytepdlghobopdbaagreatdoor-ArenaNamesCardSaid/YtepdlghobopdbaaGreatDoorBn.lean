/-
  WALKS: texts of base types.
  WALKS: texts of base types, one after the other.
  WALKS: the text of a type.
  WALKS: typeText.
  WALKS: texts of types, one after the other.
  WALKS: Show.
-/
import Derived.Test.YtepdlghobopdbaaGreatDoorBh
import Derived.Deep.AppendLies
namespace Go.Proofs.YtepdlghobopdbaaGreatDoor
open Go.RowKit Go.MapKept Go.Shelf

namespace Ar
def kindB (b : Bs) : ByteArray := if b.cell = true then ⟨#[99, 101, 108, 108, 32]⟩ else ⟨#[105, 110, 116, 32]⟩
def baseB (b : Bs) : ByteArray := kindB b ++ itoaB b.n
end Ar
def BsOk (b : Ar.Bs) : Prop := 0 ≤ b.n ∧ b.n ≤ 9223372036854775807
theorem baseB_size (b : Ar.Bs) (h : BsOk b) : (Ar.baseB b).size ≤ 105 := by
  have := itoaB_size b.n h.1 h.2
  unfold Ar.baseB
  rw [ByteArray.size_append]
  have : (Ar.kindB b).size ≤ 5 := by unfold Ar.kindB; split <;> simp [ByteArray.size]
  omega
set_option maxRecDepth 100000 in
set_option maxHeartbeats 4000000 in
theorem baseText_any (b : Ar.Bs) (hb : BsOk b) (w : World) (hT : GT w) : Calls Tryz.prog 58 #[.agg #[.bool b.cell, .int .i64 b.n]] w fun e w' => e = .returned (.string (Ar.baseB b)) ∧ Below w.heap.size w w' := by
  have hB0 : Below w.heap.size w (w.alloc (.cells #[.bool b.cell, .int .i64 b.n] 25 (0, 0))) := (Below.refl _ _).alloc (Nat.le_refl _) _
  have HI := Lib.hid (fun W (hB : Below w.heap.size w W) => itoa_b b.n (Int.le_trans (by omega) hb.1) hb.2 W (hT.below hB))
  have hs := itoaB_size b.n hb.1 hb.2
  have hw : Ar.baseB b = Ar.kindB b ++ Ar.itoaB b.n := rfl
  unfold Ar.kindB at hw
  generalize Ar.itoaB b.n = si at *
  have a1 : ∀ W : World, (Op.stringOp .add ⟨#[99, 101, 108, 108, 32]⟩ si).run Tryz.prog W = .ok (.string (⟨#[99, 101, 108, 108, 32]⟩ ++ si)) W := fun W => run_string_add_sum (w := W) _ _ (by have : (⟨#[99, 101, 108, 108, 32]⟩ : ByteArray).size = 5 := rfl; omega)
  have a2 : ∀ W : World, (Op.stringOp .add ⟨#[105, 110, 116, 32]⟩ si).run Tryz.prog W = .ok (.string (⟨#[105, 110, 116, 32]⟩ ++ si)) W := fun W => run_string_add_sum (w := W) _ _ (by have : (⟨#[105, 110, 116, 32]⟩ : ByteArray).size = 4 := rfl; omega)
  cases hc : b.cell
  all_goals
    rw [hc] at hw hB0
    have HW := Lib.hid hw
    clear hw hT hs
    go_enter Tryz.func58, Tryz.ntmps58
    go_wp2_with (go_at_call 54; refine (HI.out _ hB0).mono ?_; rintro e w2 ⟨rfl, hB2⟩)
    go_ret
    exact ⟨by rw [HW.out]; rfl, hB0.trans (hB2.mono hB0.size)⟩
end Go.Proofs.YtepdlghobopdbaaGreatDoor

namespace Go.Proofs.YtepdlghobopdbaaGreatDoor
open Go.RowKit Go.MapKept Go.Shelf

theorem infoStr : (Tryz.prog.info? 9).map (fun i => (i.zero, i.size, i.bytes)) = some (some (.string ⟨#[]⟩), 1, 16) := by kernel_rfl
def baseCell (b : Ar.Bs) : List Value := [.string (Ar.baseB b)]
theorem cell_one_at (W : World) (N : Nat) (hN : N = W.heap.size) (a : Value) (t : TypeId) : ∀ j u, [a][j]? = some u → (W.alloc (.cells #[a] t)).cell? ((⟨N, 0, none⟩ : Addr).add j) = some u := by
  subst hN
  intro j u hu
  have h : (⟨W.heap.size, 0, none⟩ : Addr).add j = ⟨W.heap.size, j, none⟩ := by unfold Addr.add; split <;> simp_all
  rw [h, (World.cell?_of_block rfl : (W.alloc (.cells #[a] t)).cell? ⟨W.heap.size, j, none⟩ = _)]
  unfold World.cell?
  rw [World.alloc_heap_new]
  simpa using hu

set_option maxRecDepth 100000 in
set_option maxHeartbeats 4000000 in
theorem each_base (l : List Ar.Bs) (A : Option Addr) (c : Nat) (w : World) (hT : Bas w w.heap.size A l) (hO : ∀ x ∈ l, BsOk x) (hG : GT w) (hL : l.length ≤ 1000000) :
    Calls Tryz.prog 89 #[.slice A l.length c, .func (.func 58) #[] #[]] w fun e w' => ∃ v, e = .returned v ∧ w'.ownsRow w.heap.size 9 1 v l.length (l.flatMap baseCell) ∧ Below w.heap.size w w' := by
  obtain ⟨i0, hi, hz0, hz1, hz2⟩ := info_parts infoStr
  have HT := Lib.hid hT
  have HP := Lib.hid (fun (x : Ar.Bs) (k : Nat) => fun (hx : l[k]? = some x) (W : World) (hB : Below w.heap.size w W) => baseText_any x (hO x (List.mem_of_getElem? hx)) W (hG.below hB))
  clear hT hO hG
  go_enter Tryz.func89, Tryz.ntmps89
  go_wp2
  go_loopw [5, 10] (fun v i wr => ∃ k : Nat, k ≤ l.length ∧ i = .int .i64 k ∧ Hid (wr.ownsRow w.heap.size 9 1 v k ((l.take k).flatMap baseCell)) ∧ Below w.heap.size w wr) (fun _ i _ => l.length - (intOf i).toNat)
  case atStart => exact ⟨0, Nat.zero_le _, rfl, World.ownsRow_nil _ _ _ _, Below.refl _ _⟩
  case round =>
    obtain ⟨k, hk, rfl, hrow, hB⟩ := hrel
    by_cases hlt : k < l.length
    · obtain ⟨x, hx⟩ : ∃ x, l[k]? = some x := ⟨_, List.getElem?_eq_getElem hlt⟩
      obtain ⟨b, off, hA, hbB, hc⟩ := (HT.out.below hB) (by intro e; rw [e] at hlt; simp at hlt)
      obtain ⟨c0, c1⟩ := hc k x hx
      have HX := Lib.hid hx
      have hq0 := block_of_cell c0
      clear hx hc
      subst hA
      have hBa := hB.alloc hB.size (.cells #[.bool x.cell, .int .i64 x.n] 25 (0, 0))
      have hb0 := Lib.hid (World.alloc_heap_new wr (.cells #[.bool x.cell, .int .i64 x.n] 25 (0, 0)))
      have hcall := HP.out x k HX.out _ hBa

      obtain ⟨ao, cap, hv⟩ := own_form hrow.out
      subst hv
      have hr1 := own_ext hrow.out (Ext.of_below ((Below.refl wr.heap.size wr).alloc (Nat.le_refl _) (.cells #[.bool x.cell, .int .i64 x.n] 25 (0, 0))) (Nat.le_refl _))
      have HR1 := Lib.hid hr1
      have HC := Lib.hid hcall
      have hsz := hB.size
      clear hr1 hcall hrow
      go_wp2_with (first
        | (at_builtin; go_loud (refine wpList_append_own_at _ rfl _ _ 60 rfl w.heap.size 9 i0 (.string ⟨#[]⟩) 1 16 Tryz.underlying60 hi hz0 hz1 hz2 rfl (by decide) _ _ _ rfl (HR2.out.alloc _) ⟨w2.heap.size, 0, none⟩ 1 1 (baseCell x) rfl rfl (cell_one_at _ _ (by simp) _ _) (by simp [baseCell, Value.oneCell']) (by unfold maxLen; omega) (by omega) (by simp; omega) ?_); intro v' w3 hown' hgrow _ hat; have hBg := (hBw2.alloc hBw2.size (.cells (baseCell x).toArray 9)).grown hgrow (by simp; omega) (fun j e => own_low HR2.out e))
        | (go_at_call 58; refine HC.out.mono ?_; rintro e w2 ⟨rfl, hB2⟩; have hBw2 := hBa.trans (hB2.mono hBa.size); have HR2 := Lib.hid (own_ext HR1.out (Ext.of_below hB2 (Nat.le_refl _))); obtain ⟨e0, e1⟩ := And.intro hBw2.size hB2.size))
      go_roundw
      case rel => exact ⟨k + 1, by omega, by go_num, by rw [Hid, List.take_succ_eq_append_getElem hlt, List.flatMap_append, List.flatMap_singleton, show l[k] = x by have := HX.out; rw [List.getElem?_eq_getElem hlt] at this; exact Option.some.inj this]; exact hown', hBg⟩
      case measure => simp [intOf]; omega
    · obtain rfl : k = l.length := by omega
      have hrow2 := hrow.out
      rw [List.take_length] at hrow2
      have HR := Lib.hid hrow2; clear hrow2 hrow
      obtain ⟨ao, cap, hv⟩ := own_form HR.out
      subst hv
      go_wp2
      go_ret
      exact ⟨_, rfl, HR.out, hB⟩
end Go.Proofs.YtepdlghobopdbaaGreatDoor

namespace Go.Proofs.YtepdlghobopdbaaGreatDoor
open Go.RowKit Go.MapKept Go.Shelf

namespace Ar
def joinB (l : List ByteArray) (sep : ByteArray) : ByteArray := ⟨(Lib.join (l.map (·.data.toList)) sep.data.toList).toArray⟩
def typeB (t : Ty) : ByteArray := if t.params.length = 0 then baseB t.result else ⟨#[40]⟩ ++ joinB (t.params.map baseB) ⟨#[44, 32]⟩ ++ ⟨#[41, 32, 45, 62, 32]⟩ ++ baseB t.result
end Ar
theorem intercalate_le (sep : List UInt8) (m : Nat) : ∀ l : List (List UInt8), (∀ x ∈ l, x.length ≤ m) → (sep.intercalate l).length ≤ l.length * (m + sep.length)
  | [], _ => by simp [List.intercalate]
  | [x], h => by
    have := h x (by simp)
    simp [List.intercalate]; omega
  | x :: y :: l, h => by
    have h1 := h x (by simp)
    have h2 := intercalate_le sep m (y :: l) (fun z hz => h z (by simp [hz]))
    have e : sep.intercalate (x :: y :: l) = x ++ sep ++ sep.intercalate (y :: l) := by simp [List.intercalate]
    rw [e]
    simp only [List.length_append, List.length_cons] at h2 ⊢
    rw [Nat.succ_mul]
    omega
theorem joinB_size (l : List ByteArray) (sep : ByteArray) (m : Nat) (h : ∀ x ∈ l, x.size ≤ m) : (Ar.joinB l sep).size ≤ l.length * (m + sep.size) := by
  have := intercalate_le sep.data.toList m (l.map (·.data.toList)) (fun x hx => by obtain ⟨y, hy, rfl⟩ := List.mem_map.1 hx; exact h y hy)
  rw [List.length_map] at this
  have e : (Ar.joinB l sep).size = (Lib.join (l.map (·.data.toList)) sep.data.toList).length := by
    show (Array.size (List.toArray _)) = _
    simp
  rw [e]; exact this
theorem join_row (l : List ByteArray) (sep : ByteArray) (v : Value) (base m : Nat) (W : World) (ho : W.ownsRow base 9 1 v l.length (l.map .string)) (h : ∀ x ∈ l, x.size ≤ m) (hl : l.length ≤ 1000001) (hm : m + sep.size ≤ 134217728) :
    Calls Tryz.prog 61 #[v, .string sep] W fun e w' => e = .returned (.string (Ar.joinB l sep)) ∧ Below W.heap.size W w' := by
  have hs := joinB_size l sep m h
  have hs2 : l.length * (m + sep.size) ≤ 1000001 * 134217728 := Nat.mul_le_mul hl hm
  have hj : (Lib.join (l.map (·.data.toList)) sep.data.toList).length = (Ar.joinB l sep).size := by
    show _ = (Array.size (List.toArray _))
    simp
  rcases ho.2 with ⟨rfl, h0⟩ | ⟨g, cap, cur, rfl, _, hg, hc, _, _, hx⟩
  · have hl0 : l = [] := List.eq_nil_of_length_eq_zero h0
    subst hl0
    exact (Tryz.strings_Join_none none 0 sep W).mono fun e w' ⟨he, hw⟩ => ⟨by rw [he]; rfl, by subst hw; exact Below.refl _ _⟩
  · refine Tryz.strings_Join g 0 cap l sep W (fun j x hjx => ?_) (lt_of_heap hg) (by omega) hc (by omega)
    have hlt := (List.getElem?_eq_some_iff.1 hjx).1
    have : (cur.toList.take (l.length * 1))[j]? = some (.string x) := by rw [hx, List.getElem?_map, hjx]; rfl
    rw [List.getElem?_take_of_lt (by omega)] at this
    simpa [World.cell?, hg] using this
theorem row_map (l : List Ar.Bs) : l.flatMap baseCell = (l.map Ar.baseB).map Value.string := by
  induction l with
  | nil => rfl
  | cons x l ih => rw [List.flatMap_cons, ih]; rfl
end Go.Proofs.YtepdlghobopdbaaGreatDoor

namespace Go.Proofs.YtepdlghobopdbaaGreatDoor
open Go.RowKit Go.MapKept Go.Shelf

def TyOk (t : Ar.Ty) : Prop := (∀ x ∈ t.params, BsOk x) ∧ BsOk t.result ∧ t.params.length ≤ 1000000
def TyS (w : World) (b : Nat) (A : Option Addr) (n c : Nat) (rc : Bool) (rn : Int) (W : World) : Prop := Below w.heap.size w W ∧ W.cell? ⟨b, 0, none⟩ = some (.slice A n c) ∧ W.cell? ⟨b, 1, none⟩ = some (.bool rc) ∧ W.cell? ⟨b, 2, none⟩ = some (.int .i64 rn)
theorem TyS.next {w W W' : World} {b : Nat} {A : Option Addr} {n c : Nat} {rc : Bool} {rn : Int} (h : TyS w b A n c rc rn W) (hB : Below W.heap.size W W') : TyS w b A n c rc rn W' :=
  ⟨h.1.trans (hB.mono h.1.size), keep_cell hB h.2.1, keep_cell hB h.2.2.1, keep_cell hB h.2.2.2⟩
theorem cells3b {W : World} {b : Nat} {x y z : Value} {t : TypeId} (h : W.heap[b]? = some (.cells #[x, y, z] t (0, 0))) : W.cell? ⟨b, 0, none⟩ = some x ∧ W.cell? ⟨b, 1, none⟩ = some y ∧ W.cell? ⟨b, 2, none⟩ = some z :=
  ⟨by simp [World.cell?, h], by simp [World.cell?, h], by simp [World.cell?, h]⟩

theorem typeB_size (t : Ar.Ty) (h : TyOk t) : (Ar.typeB t).size ≤ 107000120 := by
  have h1 := baseB_size t.result h.2.1
  have h2 := joinB_size (t.params.map Ar.baseB) ⟨#[44, 32]⟩ 105 (fun x hx => by obtain ⟨y, hy, rfl⟩ := List.mem_map.1 hx; exact baseB_size y (h.1 y hy))
  rw [List.length_map] at h2
  have h3 : t.params.length * (105 + (⟨#[44, 32]⟩ : ByteArray).size) ≤ 1000000 * 107 := Nat.mul_le_mul h.2.2 (Nat.le_refl _)
  unfold Ar.typeB
  split
  · omega
  · rw [ByteArray.size_append, ByteArray.size_append, ByteArray.size_append]
    have e1 : (⟨#[40]⟩ : ByteArray).size = 1 := rfl
    have e2 : (⟨#[41, 32, 45, 62, 32]⟩ : ByteArray).size = 5 := rfl
    omega

set_option maxRecDepth 100000 in
set_option maxHeartbeats 8000000 in
theorem typeText_any (t : Ar.Ty) (A : Option Addr) (c : Nat) (w : World) (hT : Bas w w.heap.size A t.params) (hO : TyOk t) (hG : GT w) :
    Calls Tryz.prog 60 #[.agg #[.slice A t.params.length c, .bool t.result.cell, .int .i64 t.result.n]] w fun e w' => e = .returned (.string (Ar.typeB t)) ∧ Below w.heap.size w w' := by
  have hB0 : Below w.heap.size w (w.alloc (.cells #[.slice A t.params.length c, .bool t.result.cell, .int .i64 t.result.n] 53 (0, 0))) := (Below.refl _ _).alloc (Nat.le_refl _) _
  have j0 := Lib.hid (World.alloc_heap_new w (.cells #[.slice A t.params.length c, .bool t.result.cell, .int .i64 t.result.n] 53 (0, 0)))
  have HX := Lib.hid (fun W (hB : Below w.heap.size w W) => baseText_any t.result hO.2.1 W (hG.below hB))
  have hrs := baseB_size t.result hO.2.1
  by_cases h0 : t.params.length = 0
  · have HW : Hid (Ar.typeB t = Ar.baseB t.result) := by unfold Ar.typeB; rw [Hid, if_pos h0]
    rw [h0] at hB0 j0 ⊢
    clear hT hO hG hrs
    generalize Ar.baseB t.result = rb at *
    generalize t.result.cell = rc at *
    generalize t.result.n = rn at *
    go_enter Tryz.func60, Tryz.ntmps60
    go_wp2_with (go_at_call 58; refine (HX.out _ hB0).mono ?_; rintro e w2 ⟨rfl, hB2⟩)
    go_ret
    exact ⟨by rw [HW.out]; rfl, hB0.trans (hB2.mono hB0.size)⟩
  · have HE := Lib.hid (fun W (hB : Below w.heap.size w W) => each_base t.params A c W ((hT.below hB).mono hB.size) hO.1 (hG.below hB) hO.2.2)
    have hps := joinB_size (t.params.map Ar.baseB) ⟨#[44, 32]⟩ 105 (fun x hx => by obtain ⟨y, hy, rfl⟩ := List.mem_map.1 hx; exact baseB_size y (hO.1 y hy))
    rw [List.length_map] at hps
    have h3 : t.params.length * (105 + (⟨#[44, 32]⟩ : ByteArray).size) ≤ 1000000 * 107 := Nat.mul_le_mul hO.2.2 (Nat.le_refl _)
    have HJ0 := Lib.hid (fun v W (h : World.ownsRow W 0 9 1 v (t.params.map Ar.baseB).length ((t.params.map Ar.baseB).map .string)) => join_row (t.params.map Ar.baseB) ⟨#[44, 32]⟩ v 0 105 W h (fun x hx => by obtain ⟨y, hy, rfl⟩ := List.mem_map.1 hx; exact baseB_size y (hO.1 y hy)) (by rw [List.length_map]; have := hO.2.2; omega) (by have : (⟨#[44, 32]⟩ : ByteArray).size = 2 := rfl; omega))
    have HOW := Lib.hid (fun (W : World) v b (h : W.ownsRow b 9 1 v t.params.length (t.params.flatMap baseCell)) => (show W.ownsRow 0 9 1 v (t.params.map Ar.baseB).length ((t.params.map Ar.baseB).map .string) by
      rw [← row_map, List.length_map]
      refine ⟨h.1, h.2.imp id ?_⟩
      rintro ⟨g, cap, cur, h1, _, h2⟩
      exact ⟨g, cap, cur, h1, Nat.zero_le _, h2⟩))
    have hw : Ar.typeB t = ⟨#[40]⟩ ++ Ar.joinB (t.params.map Ar.baseB) ⟨#[44, 32]⟩ ++ ⟨#[41, 32, 45, 62, 32]⟩ ++ Ar.baseB t.result := by unfold Ar.typeB; rw [if_neg h0]
    have hn0 : ((t.params.length : Int) == 0) = false := by rw [beq_eq_false_iff_ne]; omega
    have HW := Lib.hid hw
    generalize Ar.joinB (t.params.map Ar.baseB) ⟨#[44, 32]⟩ = pj at *
    generalize Ar.baseB t.result = rb at *
    have z1 : (⟨#[40]⟩ : ByteArray).size = 1 := rfl
    have z2 : (⟨#[41, 32, 45, 62, 32]⟩ : ByteArray).size = 5 := rfl
    have a1 : ∀ W : World, (Op.stringOp .add ⟨#[40]⟩ pj).run Tryz.prog W = .ok (.string (⟨#[40]⟩ ++ pj)) W := fun W => run_string_add_sum (w := W) _ _ (by omega)
    have z3 : (⟨#[40]⟩ ++ pj : ByteArray).size ≤ 107000001 := by rw [ByteArray.size_append]; omega
    have a2 : ∀ W : World, (Op.stringOp .add (⟨#[40]⟩ ++ pj) ⟨#[41, 32, 45, 62, 32]⟩).run Tryz.prog W = .ok (.string (⟨#[40]⟩ ++ pj ++ ⟨#[41, 32, 45, 62, 32]⟩)) W := fun W => run_string_add_sum (w := W) _ _ (by omega)
    have z4 : (⟨#[40]⟩ ++ pj ++ ⟨#[41, 32, 45, 62, 32]⟩ : ByteArray).size ≤ 107000006 := by rw [ByteArray.size_append]; omega
    have a3 : ∀ W : World, (Op.stringOp .add (⟨#[40]⟩ ++ pj ++ ⟨#[41, 32, 45, 62, 32]⟩) rb).run Tryz.prog W = .ok (.string (⟨#[40]⟩ ++ pj ++ ⟨#[41, 32, 45, 62, 32]⟩ ++ rb)) W := fun W => run_string_add_sum (w := W) _ _ (by omega)
    obtain ⟨r0, r1, r2⟩ := cells3b j0.out
    have hS0 : TyS w w.heap.size A t.params.length c t.result.cell t.result.n (w.alloc (.cells #[.slice A t.params.length c, .bool t.result.cell, .int .i64 t.result.n] 53 (0, 0))).drew := ⟨hB0.drew, r0, r1, r2⟩
    have HS0 := Lib.hid hS0
    clear hT hO hG hrs hps h3 hw z1 z2 z3 z4 hS0 r0 r1 r2
    generalize t.result.cell = rc at *
    generalize t.result.n = rn at *
    go_enter Tryz.func60, Tryz.ntmps60
    go_wp2
    generalize (w.alloc (.cells #[.slice A t.params.length c, .bool rc, .int .i64 rn] 53 (0, 0))) = W0 at *
    go_region_held3 (fun w' => Below w.heap.size w w' ∧ w'.cell? ⟨w.heap.size, 0, none⟩ = some (.slice A t.params.length c) ∧ w'.cell? ⟨w.heap.size, 1, none⟩ = some (.bool rc) ∧ w'.cell? ⟨w.heap.size, 2, none⟩ = some (.int .i64 rn))
      (first
        | exact HS0.out
        | exact TyS.next (by assumption) hB9
        | exact TyS.next (by assumption) hB8
        | exact TyS.next (by assumption) hB7
        | go_keep)
      ((first
        | (go_at_call 61; refine (HJ.out _ (Below.refl _ _)).mono ?_; rintro e w9 ⟨rfl, hB9⟩)
        | (go_at_call 89; refine (HE.out _ (SI_below (by assumption))).mono ?_; rintro e w7 ⟨v, rfl, ho, hB7⟩; have HO := Lib.hid ho; clear ho; have HJ := Lib.hid (fun W' (hb : Below w7.heap.size w7 W') => HJ0.out v W' (HOW.out W' v _ (own_ext HO.out (Ext.of_below hb (Nat.le_refl _))))))
        | (go_at_call 58; refine (HX.out _ (SI_below (by assumption))).mono ?_; rintro e w8 ⟨rfl, hB8⟩; try have HJ := Lib.hid (fun W' (hb : Below w8.heap.size w8 W') => HJ.out W' (hB8.trans (hb.mono hB8.size))))))
    all_goals go_wp2
    all_goals
      go_ret
      exact ⟨by rw [HW.out]; rfl, SI_below (by assumption)⟩
end Go.Proofs.YtepdlghobopdbaaGreatDoor

namespace Go.Proofs.YtepdlghobopdbaaGreatDoor
open Go.RowKit Go.MapKept Go.Shelf

def typeCell (t : Ar.Ty) : List Value := [.string (Ar.typeB t)]
theorem tys_bas {W : World} {B : Nat} {A : Option Addr} {P : Nat → Option Addr × Nat} {l : List Ar.Ty} (h : Tys W B A P l) {k : Nat} {x : Ar.Ty} (hx : l[k]? = some x) : Bas W B (P k).1 x.params := by
  obtain ⟨b, off, _, _, hc⟩ := h (by intro e; subst e; simp at hx)
  exact (hc k x hx).2.2.2
theorem row_types (l : List Ar.Ty) : l.flatMap typeCell = (l.map Ar.typeB).map Value.string := by
  induction l with
  | nil => rfl
  | cons x l ih => rw [List.flatMap_cons, ih]; rfl

set_option maxRecDepth 100000 in
set_option maxHeartbeats 4000000 in
theorem each_type (l : List Ar.Ty) (A : Option Addr) (P : Nat → Option Addr × Nat) (c : Nat) (w : World) (hT : Tys w w.heap.size A P l) (hO : ∀ x ∈ l, TyOk x) (hG : GT w) (hL : l.length ≤ 1000000) :
    Calls Tryz.prog 59 #[.slice A l.length c, .func (.func 60) #[] #[]] w fun e w' => ∃ v, e = .returned v ∧ w'.ownsRow w.heap.size 9 1 v l.length (l.flatMap typeCell) ∧ Below w.heap.size w w' := by
  obtain ⟨i0, hi, hz0, hz1, hz2⟩ := info_parts infoStr
  have HT := Lib.hid hT
  have HP := Lib.hid (fun (x : Ar.Ty) (k : Nat) => fun (hx : l[k]? = some x) (W : World) (hB : Below w.heap.size w W) => typeText_any x (P k).1 (P k).2 W (((tys_bas hT hx).below hB).mono hB.size) (hO x (List.mem_of_getElem? hx)) (hG.below hB))
  clear hT hO hG
  go_enter Tryz.func59, Tryz.ntmps59
  go_wp2
  go_loopw [5, 10] (fun v i wr => ∃ k : Nat, k ≤ l.length ∧ i = .int .i64 k ∧ Hid (wr.ownsRow w.heap.size 9 1 v k ((l.take k).flatMap typeCell)) ∧ Below w.heap.size w wr) (fun _ i _ => l.length - (intOf i).toNat)
  case atStart => exact ⟨0, Nat.zero_le _, rfl, World.ownsRow_nil _ _ _ _, Below.refl _ _⟩
  case round =>
    obtain ⟨k, hk, rfl, hrow, hB⟩ := hrel
    by_cases hlt : k < l.length
    · obtain ⟨x, hx⟩ : ∃ x, l[k]? = some x := ⟨_, List.getElem?_eq_getElem hlt⟩
      obtain ⟨b, off, hA, hbB, hc⟩ := (HT.out.below hB) (by intro e; rw [e] at hlt; simp at hlt)
      obtain ⟨c0, c1, c2, yb⟩ := hc k x hx
      have HX := Lib.hid hx
      have hq0 := block_of_cell c0
      clear hx hc
      subst hA
      have hBa := hB.alloc hB.size (.cells #[.slice (P k).1 x.params.length (P k).2, .bool x.result.cell, .int .i64 x.result.n] 53 (0, 0))
      have hb0 := Lib.hid (World.alloc_heap_new wr (.cells #[.slice (P k).1 x.params.length (P k).2, .bool x.result.cell, .int .i64 x.result.n] 53 (0, 0)))
      have hcall := HP.out x k HX.out _ hBa
      clear yb
      generalize (P k).1 = PA at *
      generalize (P k).2 = pc at *
      obtain ⟨ao, cap, hv⟩ := own_form hrow.out
      subst hv
      have hr1 := own_ext hrow.out (Ext.of_below ((Below.refl wr.heap.size wr).alloc (Nat.le_refl _) (.cells #[.slice PA x.params.length pc, .bool x.result.cell, .int .i64 x.result.n] 53 (0, 0))) (Nat.le_refl _))
      have HR1 := Lib.hid hr1
      have HC := Lib.hid hcall
      have hsz := hB.size
      clear hr1 hcall hrow
      go_wp2_with (first
        | (at_builtin; go_loud (refine wpList_append_own_at _ rfl _ _ 60 rfl w.heap.size 9 i0 (.string ⟨#[]⟩) 1 16 Tryz.underlying60 hi hz0 hz1 hz2 rfl (by decide) _ _ _ rfl (HR2.out.alloc _) ⟨w2.heap.size, 0, none⟩ 1 1 (typeCell x) rfl rfl (cell_one_at _ _ (by simp) _ _) (by simp [typeCell, Value.oneCell']) (by unfold maxLen; omega) (by omega) (by simp; omega) ?_); intro v' w3 hown' hgrow _ hat; have hBg := (hBw2.alloc hBw2.size (.cells (typeCell x).toArray 9)).grown hgrow (by simp; omega) (fun j e => own_low HR2.out e))
        | (go_at_call 60; refine HC.out.mono ?_; rintro e w2 ⟨rfl, hB2⟩; have hBw2 := hBa.trans (hB2.mono hBa.size); have HR2 := Lib.hid (own_ext HR1.out (Ext.of_below hB2 (Nat.le_refl _))); obtain ⟨e0, e1⟩ := And.intro hBw2.size hB2.size))
      go_roundw
      case rel => exact ⟨k + 1, by omega, by go_num, by rw [Hid, List.take_succ_eq_append_getElem hlt, List.flatMap_append, List.flatMap_singleton, show l[k] = x by have := HX.out; rw [List.getElem?_eq_getElem hlt] at this; exact Option.some.inj this]; exact hown', hBg⟩
      case measure => simp [intOf]; omega
    · obtain rfl : k = l.length := by omega
      have hrow2 := hrow.out
      rw [List.take_length] at hrow2
      have HR := Lib.hid hrow2; clear hrow2 hrow
      obtain ⟨ao, cap, hv⟩ := own_form HR.out
      subst hv
      go_wp2
      go_ret
      exact ⟨_, rfl, HR.out, hB⟩
end Go.Proofs.YtepdlghobopdbaaGreatDoor

namespace Go.Proofs.YtepdlghobopdbaaGreatDoor
open Go.RowKit Go.MapKept Go.Shelf

namespace Ar
def partsB (a : Are) : List ByteArray := [baseB a.root] ++ a.ids.map typeB ++ (if a.jumps = true then [⟨#[106, 117, 109, 112, 115]⟩] else [])
def showB (a : Are) : ByteArray := joinB (partsB a) ⟨#[59, 32]⟩
end Ar
theorem right_ok {a : Ar.Are} (h : Ar.Right a) : BsOk a.root ∧ ∀ t ∈ a.ids, TyOk t :=
  ⟨⟨by have := h.root; omega, by have := h.root; omega⟩, fun t ht => ⟨fun x hx => ⟨by have := h.params t ht x hx; omega, by have := h.params t ht x hx; omega⟩, ⟨by have := h.result t ht; omega, by have := h.result t ht; omega⟩, by have := h.long t ht; omega⟩⟩
def AS (w : World) (A : Option Addr) (n c : Nat) (rc : Bool) (rn : Int) (jm : Bool) (W : World) : Prop := Below w.heap.size w W ∧ W.cell? ⟨w.heap.size, 0, none⟩ = some (.slice A n c) ∧ W.cell? ⟨w.heap.size, 1, none⟩ = some (.bool rc) ∧ W.cell? ⟨w.heap.size, 2, none⟩ = some (.int .i64 rn) ∧ W.cell? ⟨w.heap.size, 3, none⟩ = some (.bool jm)
theorem AS.next {w W W' : World} {A : Option Addr} {n c : Nat} {rc : Bool} {rn : Int} {jm : Bool} (h : AS w A n c rc rn jm W) (hB : Below W.heap.size W W') : AS w A n c rc rn jm W' :=
  ⟨h.1.trans (hB.mono h.1.size), keep_cell hB h.2.1, keep_cell hB h.2.2.1, keep_cell hB h.2.2.2.1, keep_cell hB h.2.2.2.2⟩
theorem AS.lt {w W : World} {A : Option Addr} {n c : Nat} {rc : Bool} {rn : Int} {jm : Bool} (h : AS w A n c rc rn jm W) : w.heap.size < W.heap.size := block_of_cell h.2.1
theorem AS.grown {w W W' : World} {A : Option Addr} {n c : Nat} {rc : Bool} {rn : Int} {jm : Bool} (h : AS w A n c rc rn jm W) {row : Option Nat} (hg : W.grownBy W' row) (hr : ∀ j, row = some j → w.heap.size < j) : AS w A n c rc rn jm W' := by
  have hne : some w.heap.size ≠ row := fun e => by have := hr _ e.symm; omega
  refine ⟨h.1.trans ⟨hg.os, hg.tape, hg.output, hg.size, fun k hk => hg.block k (Nat.lt_of_lt_of_le hk h.1.size) (fun e => by have := hr _ e.symm; omega)⟩, ?_, ?_, ?_, ?_⟩
  · exact hg.cell h.2.1 hne
  · exact hg.cell h.2.2.1 hne
  · exact hg.cell h.2.2.2.1 hne
  · exact hg.cell h.2.2.2.2 hne
/-- A row of one text that a call has just made. -/
theorem row_one {W W' : World} {base : Nat} (s : ByteArray) (hb : base ≤ W.heap.size) (hB : Below (W.alloc (.cells #[.string s] 9 (0, 0))).heap.size (W.alloc (.cells #[.string s] 9 (0, 0))) W') : W'.ownsRow base 9 1 (.slice (some ⟨W.heap.size, 0, none⟩) 1 1) 1 [.string s] := by
  refine ⟨rfl, .inr ⟨W.heap.size, 1, #[.string s], rfl, hb, (hB.block _ ?_).trans (World.alloc_heap_new W _), Nat.le_refl _, by unfold maxLen; omega, rfl, rfl⟩⟩
  exact lt_of_heap (World.alloc_heap_new W _)
theorem types_len (l : List Ar.Ty) : (l.flatMap typeCell).length = l.length * 1 := by rw [row_types]; simp
theorem types_one (l : List Ar.Ty) : ∀ u ∈ l.flatMap typeCell, u.oneCell' = true := by
  rw [row_types]
  intro u hu
  obtain ⟨x, _, rfl⟩ := List.mem_map.1 hu
  rfl
theorem size_alloc (W : World) (o : Obj) : (W.alloc o).heap.size = W.heap.size + 1 := Array.size_push _
theorem own_gt {w W : World} (h : w.heap.size < W.heap.size) : ∀ j, (Value.slice (some ⟨W.heap.size, 0, none⟩) 1 1).ownBlock = some j → w.heap.size < j := fun j hj => by
  have : W.heap.size = j := by simpa [Value.ownBlock] using hj
  omega
theorem own_at {w : World} {base : Nat} {e : TypeId} {v : Value} {n : Nat} {xs : List Value} (h : w.ownsRow base e 1 v n xs) (hn : 0 < n) :
    ∃ g cap, v = .slice (some ⟨g, 0, none⟩) n cap ∧ g < w.heap.size ∧ ∀ W', Below w.heap.size w W' → ∀ (j : Nat) u, xs[j]? = some u → W'.cell? ((⟨g, 0, none⟩ : Addr).add j) = some u := by
  rcases h.2 with ⟨_, h0⟩ | ⟨g, cap, cur, rfl, _, hg, _, _, _, _⟩
  · omega
  · obtain ⟨g', hv, _, hlt, hc⟩ := own_cell h hn
    obtain rfl : g = g' := by simpa using hv
    refine ⟨g, cap, rfl, hlt, fun W' hB j u hu => ?_⟩
    have hq : (⟨g, 0, none⟩ : Addr).add j = ⟨g, j, none⟩ := by unfold Addr.add; split <;> simp_all
    rw [hq]
    exact keep_cell hB (hc j u hu)

set_option maxRecDepth 100000 in
set_option maxHeartbeats 8000000 in
theorem show_some (a : Ar.Are) (A : Option Addr) (c : Nat) (P : Nat → Option Addr × Nat) (w : World) (hA : ArM w A P a) (hk : Ar.checkOf a = 0) (hne : a.ids ≠ []) (hG : GT w) :
    Calls Tryz.prog 24 #[arV A c a] w fun e w' => e = .returned (.tuple #[.string (Ar.showB a), .int .i64 0]) ∧ Below w.heap.size w w' := by
  obtain ⟨i0, hi, hz0, hz1, hz2⟩ := info_parts infoStr
  obtain ⟨ok1, ok2⟩ := right_ok (Ar.right_of_check hk)
  have hl8 := (Ar.right_of_check hk).ids
  have hB0 : Below w.heap.size w (w.alloc (.cells #[.slice A a.ids.length c, .bool a.root.cell, .int .i64 a.root.n, .bool a.jumps] 27 (0, 0))) := (Below.refl _ _).alloc (Nat.le_refl _) _
  have j0 := Lib.hid (World.alloc_heap_new w (.cells #[.slice A a.ids.length c, .bool a.root.cell, .int .i64 a.root.n, .bool a.jumps] 27 (0, 0)))
  have HC := Lib.hid (check_any a A c P _ (hA.below hB0))
  rw [hk] at HC
  have HX := Lib.hid (fun W (hB : Below w.heap.size w W) => baseText_any a.root ok1 W (hG.below hB))
  have HE := Lib.hid (fun W (hB : Below w.heap.size w W) => each_type a.ids A P c W ((hA.below hB).tys) ok2 (hG.below hB) (by omega))
  have hav : arV A c a = .agg #[.slice A a.ids.length c, .bool a.root.cell, .int .i64 a.root.n, .bool a.jumps] := rfl
  have hn : 0 < a.ids.length := List.length_pos_iff.2 hne
  have HPS : Hid (∀ x ∈ Ar.partsB a, x.size ≤ 107000120) := fun x hx => by
    unfold Ar.partsB at hx
    simp only [List.mem_append, List.mem_map, List.mem_singleton] at hx
    rcases hx with (rfl | ⟨t, ht, rfl⟩) | hx
    · have := baseB_size a.root ok1; omega
    · exact typeB_size t (ok2 t ht)
    · split at hx
      · obtain rfl := List.mem_singleton.1 hx
        show 5 ≤ _; omega
      · cases hx
  have HP : Hid (Ar.partsB a = [Ar.baseB a.root] ++ a.ids.map Ar.typeB ++ (if a.jumps = true then [⟨#[106, 117, 109, 112, 115]⟩] else [])) := rfl
  have HJ0 := Lib.hid (fun (l : List ByteArray) v W (h : World.ownsRow W w.heap.size 9 1 v l.length (l.map .string)) (hs : ∀ x ∈ l, x.size ≤ 107000120) (hl : l.length ≤ 1000001) => join_row l ⟨#[59, 32]⟩ v w.heap.size 107000120 W h hs hl (by have : (⟨#[59, 32]⟩ : ByteArray).size = 2 := rfl; omega))
  rw [hav] at HC ⊢
  clear hav hA hG hk hne ok1 ok2
  go_enter Tryz.func24, Tryz.ntmps24
  go_wp2_with (go_at_call 21; refine HC.out.mono ?_; rintro e w2 ⟨rfl, hB2⟩; have hBw2 := hB0.trans (hB2.mono hB0.size); have j2 := Lib.hid ((hB2.block _ (lt_of_heap j0.out)).trans j0.out))
  obtain ⟨r0, r1, r2, r3, -, -, -, -⟩ := cells4 j2.out
  have hS0 : AS w A a.ids.length c a.root.cell a.root.n a.jumps w2.drew := ⟨hBw2.drew, r0, r1, r2, r3⟩
  have HS0 := Lib.hid hS0
  have hsz2 := lt_of_heap j2.out
  clear hS0 r0 r1 r2 r3 hB0 hB2
  generalize hrb : Ar.baseB a.root = rb at *
  have HROW := Lib.hid (fun (W : World) v (h : W.ownsRow w.heap.size 9 1 v (1 + a.ids.length) ([.string rb] ++ a.ids.flatMap typeCell)) => (show W.ownsRow w.heap.size 9 1 v ([rb] ++ a.ids.map Ar.typeB).length (([rb] ++ a.ids.map Ar.typeB).map .string) by
    have e1 : ([rb] ++ a.ids.map Ar.typeB).length = 1 + a.ids.length := by simp [Nat.add_comm]
    have e2 : ([rb] ++ a.ids.map Ar.typeB).map Value.string = [.string rb] ++ a.ids.flatMap typeCell := by rw [row_types]; simp
    rw [e1, e2]; exact h))
  have HROW2 := Lib.hid (fun (W : World) v (l : List ByteArray) (h : W.ownsRow w.heap.size 9 1 v (l.length + 1) (l.map .string ++ [.string ⟨#[106, 117, 109, 112, 115]⟩])) => (show W.ownsRow w.heap.size 9 1 v (l ++ [(⟨#[106, 117, 109, 112, 115]⟩ : ByteArray)]).length ((l ++ [(⟨#[106, 117, 109, 112, 115]⟩ : ByteArray)]).map Value.string) by
    have e1 : (l ++ [(⟨#[106, 117, 109, 112, 115]⟩ : ByteArray)]).length = l.length + 1 := by simp
    have e2 : (l ++ [(⟨#[106, 117, 109, 112, 115]⟩ : ByteArray)]).map Value.string = l.map .string ++ [.string ⟨#[106, 117, 109, 112, 115]⟩] := by simp
    rw [e1, e2]; exact h))
  go_region_held3 (fun w' => Below w.heap.size w w' ∧ w'.cell? ⟨w.heap.size, 0, none⟩ = some (.slice A a.ids.length c) ∧ w'.cell? ⟨w.heap.size, 1, none⟩ = some (.bool a.root.cell) ∧ w'.cell? ⟨w.heap.size, 2, none⟩ = some (.int .i64 a.root.n) ∧ w'.cell? ⟨w.heap.size, 3, none⟩ = some (.bool a.jumps))
    (first
      | exact HS0.out
      | exact hS9
      | exact AS.next (by assumption) hB8
      | exact AS.next (by assumption) hB7
      | exact AS.next (by assumption) ((Below.refl _ _).alloc (Nat.le_refl _) _)
      | go_keep)
    ((first
      | (go_at_call 59; refine (HE.out _ (SI_below (by assumption))).mono ?_; rintro e w7 ⟨v, rfl, ho, hB7⟩; have hz7 : w.heap.size < w7.heap.size := (by first | exact Nat.lt_of_lt_of_le hsz2 hB7.size | exact Nat.lt_of_lt_of_le hz8 hB7.size | exact Nat.lt_of_lt_of_le (Nat.lt_succ_of_lt hz8) (by have q := hB7.size; rw [size_alloc] at q; exact q)); obtain ⟨g, cap, hv, hg7, hc7⟩ := own_at ho hn; subst hv; have HC7 := Lib.hid hc7; clear hc7 ho)
      | (go_at_call 58; refine (HX.out _ (SI_below (by assumption))).mono ?_; rintro e w8 ⟨rfl, hB8⟩; have hz8 : w.heap.size < w8.heap.size := by first | exact Nat.lt_of_lt_of_le hsz2 hB8.size | exact Nat.lt_of_lt_of_le hz7 hB8.size)
      | (refine step_append_lies _ (by rfl) _ _ _ (by rfl) w.heap.size 9 i0 _ 1 16 Tryz.underlying60 hi hz0 hz1 hz2 rfl (by omega) (.slice (some ⟨w8.heap.size, 0, none⟩) 1 1) 1 [.string rb] (by rfl) (row_one rb (Nat.le_of_lt hz8) hB7) ⟨g, 0, none⟩ a.ids.length cap (a.ids.flatMap typeCell) (by rfl) (types_len _) (HC7.out _ (Below.refl _ _)) (types_one _) hn (by unfold maxLen; omega) (by omega) (SI_below (by assumption)).size _ rfl ?_; intro gg cap9 w9 hown9 hgrow hat hlt9; have hS9 : AS w A a.ids.length c a.root.cell a.root.n a.jumps w9 := AS.grown (by assumption) hgrow (own_gt hz8))
      | (refine step_append_lies _ (by rfl) _ _ _ (by rfl) w.heap.size 9 i0 _ 1 16 Tryz.underlying60 hi hz0 hz1 hz2 rfl (by omega) (.slice (some ⟨w7.heap.size, 0, none⟩) 1 1) 1 [.string rb] (by rfl) (row_one rb (Nat.le_of_lt hz7) (Below.refl _ _)) ⟨g, 0, none⟩ a.ids.length cap (a.ids.flatMap typeCell) (by rfl) (types_len _) (HC7.out _ ((Below.refl _ _).alloc (Nat.le_refl _) _)) (types_one _) hn (by unfold maxLen; omega) (by omega) (SI_below (by assumption)).size _ rfl ?_; intro gg cap9 w9 hown9 hgrow hat hlt9; have hS9 : AS w A a.ids.length c a.root.cell a.root.n a.jumps w9 := AS.grown (by assumption) hgrow (own_gt hz7))
      | (refine step_append_lies _ (by rfl) _ _ _ (by rfl) w.heap.size 9 i0 _ 1 16 Tryz.underlying60 hi hz0 hz1 hz2 rfl (by omega) (.slice (some ⟨w8.heap.size, 0, none⟩) 1 1) 1 [.string rb] (by rfl) (row_one rb (Nat.le_of_lt hz8) (Below.refl _ _)) ⟨g, 0, none⟩ a.ids.length cap (a.ids.flatMap typeCell) (by rfl) (types_len _) (HC7.out _ (hB8.alloc hB8.size _)) (types_one _) hn (by unfold maxLen; omega) (by omega) (SI_below (by assumption)).size _ rfl ?_; intro gg cap9 w9 hown9 hgrow hat hlt9; have hS9 : AS w A a.ids.length c a.root.cell a.root.n a.jumps w9 := AS.grown (by assumption) hgrow (own_gt hz8))
))
  all_goals
    obtain ⟨hB9, q0, q1, q2, q3⟩ := hS9
    have hown := HROW.out _ _ hown9
    clear hown9 hgrow hat
    cases hj : a.jumps
    · rw [hj] at q3 HP
      have HJ := Lib.hid (HJ0.out _ _ _ hown (fun x hx => HPS.out x (by rw [HP.out]; simpa using hx)) (by simp; omega))
      have HV : Hid (Ar.showB a = Ar.joinB ([rb] ++ a.ids.map Ar.typeB) ⟨#[59, 32]⟩) := by unfold Ar.showB; rw [Hid, HP.out]; simp
      clear hown
      go_wp2_with (go_at_call 61; refine HJ.out.mono ?_; rintro e w10 ⟨rfl, hB10⟩)
      exact bodyPost_ret (v := .tuple #[.string (Ar.joinB ([rb] ++ a.ids.map Ar.typeB) ⟨#[59, 32]⟩), .int .i64 0]) (by simp [results, Tryz.results24, go_sem]) rfl ⟨by rw [HV.out], hB9.trans (hB10.mono hB9.size)⟩
    · rw [hj] at q3 HP
      have HR := Lib.hid hown
      have HV : Hid (Ar.showB a = Ar.joinB (([rb] ++ a.ids.map Ar.typeB) ++ [⟨#[106, 117, 109, 112, 115]⟩]) ⟨#[59, 32]⟩) := by unfold Ar.showB; rw [Hid, HP.out]; simp
      clear hown
      have hlen : ([rb] ++ a.ids.map Ar.typeB).length = 1 + a.ids.length := by simp [Nat.add_comm]
      have hz9 := hB9.size
      go_wp2_with (first
        | (at_builtin; go_loud (refine wpList_append_own_at _ rfl _ _ 60 rfl w.heap.size 9 i0 (.string ⟨#[]⟩) 1 16 Tryz.underlying60 hi hz0 hz1 hz2 rfl (by decide) _ _ _ rfl (HR.out.alloc _) ⟨w9.heap.size, 0, none⟩ 1 1 [.string ⟨#[106, 117, 109, 112, 115]⟩] rfl rfl (cell_one_at _ _ (by simp) _ _) (by simp [Value.oneCell']) (by unfold maxLen; omega) (by omega) (by simp; omega) ?_); intro v' w11 hown' hgrow _ hat; have hB11 := (hB9.alloc hB9.size (.cells #[.string ⟨#[106, 117, 109, 112, 115]⟩] 9)).grown hgrow (by simp; omega) (fun j e => own_low HR.out e); have HJ := Lib.hid (HJ0.out _ v' _ (HROW2.out _ _ _ hown') (fun x hx => HPS.out x (by rw [HP.out]; simpa using hx)) (by simp; omega)))
        | (go_at_call 61; refine HJ.out.mono ?_; rintro e w10 ⟨rfl, hB10⟩))
      exact bodyPost_ret (v := .tuple #[.string (Ar.joinB (([rb] ++ a.ids.map Ar.typeB) ++ [⟨#[106, 117, 109, 112, 115]⟩]) ⟨#[59, 32]⟩), .int .i64 0]) (by simp [results, Tryz.results24, go_sem]) rfl ⟨by rw [HV.out], hB11.trans (hB10.mono hB11.size)⟩
end Go.Proofs.YtepdlghobopdbaaGreatDoor
