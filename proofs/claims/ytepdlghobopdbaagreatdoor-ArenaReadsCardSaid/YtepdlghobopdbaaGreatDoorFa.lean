/-
  PLAIN: texts of types and arenas, piece by piece.
  WALKS: the reference: an integer in decimal digits, the text of a base type.
-/
import Derived.Test.YtepdlghobopdbaaGreatDoorBn
import Derived.Laws.Runes
import Derived.Deep.RegionWith
namespace Go.Proofs.YtepdlghobopdbaaGreatDoor
open Go.RowKit Go.MapKept Go.Shelf

namespace Ar
theorem inter_snoc (sep : List UInt8) (x : List UInt8) : ∀ (l : List (List UInt8)), l ≠ [] → sep.intercalate (l ++ [x]) = sep.intercalate l ++ (sep ++ x)
  | [], h => absurd rfl h
  | [y], _ => by simp [List.intercalate]
  | y :: z :: l, _ => by
    have ih := inter_snoc sep x (z :: l) (by simp)
    have e : ∀ (u : List UInt8) (v : List UInt8) (m : List (List UInt8)), sep.intercalate (u :: v :: m) = u ++ (sep ++ sep.intercalate (v :: m)) := fun u v m => by simp [List.intercalate]
    rw [List.cons_append, List.cons_append, e, e, ← List.cons_append, ih]
    simp only [List.append_assoc]
theorem join_one (x sep : ByteArray) : joinB [x] sep = x := by
  unfold joinB
  apply ByteArray.ext
  show ((sep.data.toList).intercalate [x.data.toList]).toArray = x.data
  simp [List.intercalate]
theorem join_snoc {l : List ByteArray} (h : l ≠ []) (x sep : ByteArray) : joinB (l ++ [x]) sep = joinB l sep ++ (sep ++ x) := by
  unfold joinB
  apply ByteArray.ext
  show ((sep.data.toList).intercalate ((l ++ [x]).map (·.data.toList))).toArray = _
  rw [List.map_append, List.map_singleton, inter_snoc _ _ _ (by simpa using h)]
  rw [ByteArray.data_append, ByteArray.data_append]
  show _ = (((sep.data.toList).intercalate (l.map (·.data.toList))).toArray) ++ (sep.data ++ x.data)
  simp
/-- The text of a type's first params, behind its bracket. -/
def paramsAcc (t : Ty) (k : Nat) : ByteArray := ⟨#[40]⟩ ++ joinB ((t.params.take k).map baseB) ⟨#[44, 32]⟩
theorem paramsAcc_zero (t : Ty) : paramsAcc t 0 = ⟨#[40]⟩ := by
  unfold paramsAcc
  apply ByteArray.ext; rfl
theorem paramsAcc_one {t : Ty} {x : Bs} (h : t.params[0]? = some x) : paramsAcc t 1 = ⟨#[40]⟩ ++ baseB x := by
  have hlt := (List.getElem?_eq_some_iff.1 h).1
  have e : t.params.take 1 = [x] := by
    rw [List.take_succ_eq_append_getElem hlt, List.take_zero, List.nil_append]
    rw [List.getElem?_eq_getElem hlt] at h
    rw [Option.some.inj h]
  unfold paramsAcc
  rw [e, List.map_singleton, join_one]
theorem paramsAcc_next {t : Ty} {x : Bs} {k : Nat} (hk : 0 < k) (h : t.params[k]? = some x) : paramsAcc t (k + 1) = paramsAcc t k ++ ⟨#[44, 32]⟩ ++ baseB x := by
  have hlt := (List.getElem?_eq_some_iff.1 h).1
  have e : t.params.take (k + 1) = t.params.take k ++ [x] := by
    rw [List.take_succ_eq_append_getElem hlt]
    rw [List.getElem?_eq_getElem hlt] at h
    rw [Option.some.inj h]
  unfold paramsAcc
  rw [e, List.map_append, List.map_singleton, join_snoc (by
    intro he
    have h1 := congrArg List.length (List.map_eq_nil_iff.1 he)
    rw [List.length_take, List.length_nil] at h1
    omega)]
  simp only [ByteArray.append_assoc]
theorem typeB_none {t : Ty} (h : t.params.length = 0) : typeB t = baseB t.result := by unfold typeB; rw [if_pos h]
theorem typeB_some {t : Ty} (h : t.params.length ≠ 0) : typeB t = paramsAcc t t.params.length ++ ⟨#[41, 32, 45, 62, 32]⟩ ++ baseB t.result := by
  unfold typeB paramsAcc
  rw [if_neg h, List.take_length]
/-- The text of an arena's root and first identifiers. -/
def showAcc (a : Are) (k : Nat) : ByteArray := joinB ([baseB a.root] ++ (a.ids.take k).map typeB) ⟨#[59, 32]⟩
theorem showAcc_zero (a : Are) : showAcc a 0 = baseB a.root := by
  unfold showAcc
  rw [List.take_zero, List.map_nil, List.append_nil, join_one]
theorem showAcc_next {a : Are} {t : Ty} {k : Nat} (h : a.ids[k]? = some t) : showAcc a (k + 1) = showAcc a k ++ (⟨#[59, 32]⟩ ++ typeB t) := by
  have hlt := (List.getElem?_eq_some_iff.1 h).1
  have e : a.ids.take (k + 1) = a.ids.take k ++ [t] := by
    rw [List.take_succ_eq_append_getElem hlt]
    rw [List.getElem?_eq_getElem hlt] at h
    rw [Option.some.inj h]
  unfold showAcc
  rw [e, List.map_append, List.map_singleton, ← List.append_assoc, join_snoc (by simp)]
theorem showB_plain {a : Are} (h : a.jumps = false) : showB a = showAcc a a.ids.length := by
  unfold showB partsB showAcc
  rw [h, if_neg Bool.false_ne_true, List.append_nil, List.take_length]
theorem showB_jumps {a : Are} (h : a.jumps = true) : showB a = showAcc a a.ids.length ++ ⟨#[59, 32, 106, 117, 109, 112, 115]⟩ := by
  unfold showB partsB showAcc
  rw [h, if_pos rfl, List.take_length, join_snoc (by simp)]
  rfl
end Ar
/-- How long these are. -/
theorem paramsAcc_size (t : Ar.Ty) (h : TyOk t) (k : Nat) : (Ar.paramsAcc t k).size ≤ 107000001 := by
  have h2 := joinB_size ((t.params.take k).map Ar.baseB) ⟨#[44, 32]⟩ 105 (fun x hx => by obtain ⟨y, hy, rfl⟩ := List.mem_map.1 hx; exact baseB_size y (h.1 y (List.mem_of_mem_take hy)))
  rw [List.length_map, List.length_take] at h2
  have h3 : min k t.params.length * (105 + (⟨#[44, 32]⟩ : ByteArray).size) ≤ 1000000 * 107 := Nat.mul_le_mul (Nat.le_trans (Nat.min_le_right _ _) h.2.2) (Nat.le_refl _)
  unfold Ar.paramsAcc
  rw [ByteArray.size_append]
  have e1 : (⟨#[40]⟩ : ByteArray).size = 1 := rfl
  omega
theorem showAcc_size {a : Ar.Are} (h : Ar.Right a) (k : Nat) : (Ar.showAcc a k).size ≤ 1000000000 := by
  obtain ⟨ok1, ok2⟩ := right_ok h
  have h2 := joinB_size ([Ar.baseB a.root] ++ (a.ids.take k).map Ar.typeB) ⟨#[59, 32]⟩ 107000120 (fun x hx => by
    rcases List.mem_append.1 hx with hx | hx
    · obtain rfl := List.mem_singleton.1 hx
      have := baseB_size a.root ok1; omega
    · obtain ⟨t, ht, rfl⟩ := List.mem_map.1 hx
      exact typeB_size t (ok2 t (List.mem_of_mem_take ht)))
  rw [List.length_append, List.length_map, List.length_take, List.length_singleton] at h2
  have h8 := h.ids
  have h3 : (1 + min k a.ids.length) * (107000120 + (⟨#[59, 32]⟩ : ByteArray).size) ≤ 9 * 107000122 := Nat.mul_le_mul (by omega) (Nat.le_refl _)
  unfold Ar.showAcc
  omega
end Go.Proofs.YtepdlghobopdbaaGreatDoor

namespace Go.Proofs.YtepdlghobopdbaaGreatDoor
open Go.RowKit Go.MapKept Go.Shelf

namespace Ar
theorem itoa_nat (n : Nat) : itoaB (n : Int) = ⟨(Lib.decDigits n).toArray⟩ := by
  unfold itoaB Lib.itoa
  rw [if_neg (by omega), Int.toNat_natCast]
theorem itoa_small {n : Nat} (h : n < 10) : itoaB (n : Int) = ⟨#[UInt8.ofNat (48 + n)]⟩ := by
  rw [itoa_nat, Lib.decDigits_one h]
theorem itoa_big {n : Nat} (h : ¬ n < 10) : itoaB (n : Int) = itoaB ((n / 10 : Nat) : Int) ++ ⟨#[UInt8.ofNat (48 + n % 10)]⟩ := by
  rw [itoa_nat, itoa_nat, Lib.decDigits, dif_neg h]
  apply ByteArray.ext
  simp
theorem digit_fin : ∀ d : Fin 10, Utf8.encode (48 + (d.val : Int)) = ⟨#[UInt8.ofNat (48 + d.val)]⟩ := by decide +kernel
theorem digit_enc {d : Nat} (h : d < 10) : Utf8.encode (48 + (d : Int)) = ⟨#[UInt8.ofNat (48 + d)]⟩ := digit_fin ⟨d, h⟩
end Ar

theorem sum_ok {x y : ByteArray} {n m : Nat} (hx : x.size ≤ n) (hy : y.size ≤ m) (h : n + m ≤ 4000000000) (W : World) : (Op.stringOp .add x y).run Tryz.prog W = .ok (.string (x ++ y)) W := run_string_add_sum (w := W) _ _ (by omega)
theorem sum_size {x y : ByteArray} {n m : Nat} (hx : x.size ≤ n) (hy : y.size ≤ m) : (x ++ y).size ≤ n + m := by rw [ByteArray.size_append]; omega

set_option maxRecDepth 100000 in
set_option maxHeartbeats 4000000 in
theorem decimal_any : ∀ (k n : Nat) (w : World), n ≤ k → n ≤ 9223372036854775807 →
    Calls Tryz.prog 97 #[.int .i64 (n : Int)] w fun e w' => e = .returned (.string (Ar.itoaB (n : Int))) ∧ Below w.heap.size w w' := by
  intro k
  induction k with
  | zero =>
    intro n w hk hn
    obtain rfl : n = 0 := by omega
    have hi := Lib.hid (Ar.itoa_small (n := 0) (by omega))
    have he := Ar.digit_enc (d := 0) (by omega)
    go_enter Tryz.func97, Tryz.ntmps97
    go_wp2
    go_ret
    exact ⟨by rw [hi.out]; rfl, Below.refl _ _⟩
  | succ k ih =>
    intro n w hk hn
    obtain ⟨q, hq⟩ : ∃ q, q = n / 10 := ⟨_, rfl⟩
    obtain ⟨r, hr⟩ : ∃ r, r = n % 10 := ⟨_, rfl⟩
    have hm : Int.tmod (n : Int) 10 = (r : Int) := by rw [Int.tmod_eq_emod_of_nonneg (by omega)]; omega
    have hd : Int.tdiv (n : Int) 10 = (q : Int) := by rw [Int.tdiv_eq_ediv_of_nonneg (by omega)]; omega
    have hr9 : (r : Int) ≤ 9 := by omega
    have he := Ar.digit_enc (d := r) (by omega)
    obtain ⟨db, hdb⟩ : ∃ db, UInt8.ofNat (48 + r) = db := ⟨_, rfl⟩
    rw [hdb] at he
    have hlt : ¬ ((r : Int) < 0) := by omega
    have hw1 : IntKind.i64.wrap (48 + (r : Int)) = 48 + (r : Int) := IntWalk.i64_in _ (by omega)
    have hw2 : IntKind.i32.wrap (48 + (r : Int)) = 48 + (r : Int) := by unfold IntKind.wrap; simp [IntKind.bits, IntKind.signed]; omega
    by_cases h10 : n < 10
    · have hi := Ar.itoa_small h10
      rw [show n = r by omega, hdb] at hi
      have HI := Lib.hid hi
      obtain rfl : q = 0 := by omega
      obtain rfl : n = r := by omega
      have hnn : ¬ ((n : Int) < 0) := by omega
      clear hn hk hq hr hi h10 ih hdb
      go_enter Tryz.func97, Tryz.ntmps97
      go_wp2
      go_ret
      exact ⟨by rw [HI.out]; rfl, Below.refl _ _⟩
    · have hi := Ar.itoa_big h10
      rw [← hq, ← hr, hdb] at hi
      have HIN := Lib.hid hi
      have hqn : ((q : Int) != 0) = true := by rw [bne_iff_ne]; omega
      have HI := Lib.hid (ih q w (by omega) (by omega))
      have hsz := itoaB_size (q : Int) (by omega) (by omega)
      generalize Ar.itoaB (q : Int) = sq at *
      have z1 : (⟨#[db]⟩ : ByteArray).size ≤ 1 := Nat.le_refl _
      have a1 := fun W => sum_ok hsz z1 (by omega) W
      have hq1 : (q : Int) ≤ 9223372036854775807 := by omega
      have hq0 : (0 : Int) < (q : Int) := by omega
      clear hn hk hq hr hi h10 ih z1 hdb hsz
      have hwq : IntKind.i64.wrap (q : Int) = (q : Int) := IntWalk.i64_in _ (by omega)
      have hwq' : wrap64 (q : Int) = (q : Int) := by unfold wrap64; omega
      go_enter Tryz.func97, Tryz.ntmps97
      go_wp2_with (go_at_call 97; refine HI.out.mono ?_; rintro e w2 ⟨rfl, hB2⟩)
      go_ret
      exact ⟨by rw [HIN.out]; rfl, hB2⟩
theorem dec_any (n : Int) (h0 : 0 ≤ n) (h1 : n ≤ 9223372036854775807) (w : World) :
    Calls Tryz.prog 97 #[.int .i64 n] w fun e w' => e = .returned (.string (Ar.itoaB n)) ∧ Below w.heap.size w w' := by
  obtain ⟨k, rfl⟩ : ∃ k : Nat, n = (k : Int) := ⟨n.toNat, by omega⟩
  exact decimal_any k k w (Nat.le_refl _) (by omega)
set_option maxRecDepth 100000 in
set_option maxHeartbeats 4000000 in
theorem refBaseText_any (b : Ar.Bs) (hb : BsOk b) (w : World) : Calls Tryz.prog 72 #[.agg #[.bool b.cell, .int .i64 b.n]] w fun e w' => e = .returned (.string (Ar.baseB b)) ∧ Below w.heap.size w w' := by
  have hB0 : Below w.heap.size w (w.alloc (.cells #[.bool b.cell, .int .i64 b.n] 25 (0, 0))) := (Below.refl _ _).alloc (Nat.le_refl _) _
  have HI := Lib.hid (fun W => dec_any b.n hb.1 hb.2 W)
  have hs := itoaB_size b.n hb.1 hb.2
  have hw : Ar.baseB b = Ar.kindB b ++ Ar.itoaB b.n := rfl
  unfold Ar.kindB at hw
  generalize Ar.itoaB b.n = si at *
  have a1 : ∀ W : World, (Op.stringOp .add ⟨#[99, 101, 108, 108, 32]⟩ si).run Tryz.prog W = .ok (.string (⟨#[99, 101, 108, 108, 32]⟩ ++ si)) W := fun W => run_string_add_sum (w := W) _ _ (by have : (⟨#[99, 101, 108, 108, 32]⟩ : ByteArray).size = 5 := rfl; omega)
  have a2 : ∀ W : World, (Op.stringOp .add ⟨#[105, 110, 116, 32]⟩ si).run Tryz.prog W = .ok (.string (⟨#[105, 110, 116, 32]⟩ ++ si)) W := fun W => run_string_add_sum (w := W) _ _ (by have : (⟨#[105, 110, 116, 32]⟩ : ByteArray).size = 4 := rfl; omega)
  cases hc : b.cell
  all_goals
    rw [hc] at hw hB0
    have HW := Lib.hid hw
    clear hw hs
    go_enter Tryz.func72, Tryz.ntmps72
    go_wp2_with (go_at_call 97; refine (HI.out _).mono ?_; rintro e w2 ⟨rfl, hB2⟩)
    go_ret
    exact ⟨by rw [HW.out]; rfl, hB0.trans (hB2.mono hB0.size)⟩
end Go.Proofs.YtepdlghobopdbaaGreatDoor
