/-
  WALKS: numbers in texts; a text cut in two; signs. (The shelf's contracts that these texts use: Tryz.strconv_Itoa_small Tryz.strconv_Itoa Tryz.strings_Join Tryz.strings_Join_none Tryz.strings_Cut Tryz.strings_Split Tryz.strings_CutSuffix Tryz.strings_TrimPrefix Tryz.strconv_Atoi_ok Tryz.strconv_Atoi_range Tryz.strings_Index_one Tryz.stringslite_Index_one Tryz.cmp_Compare_int)
  WALKS: the text of a move.
  WALKS: Text.
  WALKS: a text cut at a byte; a move read loosely.
-/
import Derived.Test.YtepdlghobopdbaaGreatDoorBb
import Derived.Test.YtepdlghobopdbaaGreatDoorShelf
import Derived.Lib.AtoiErrMem
import Derived.MapKept
import Derived.Lib.AppendIntMem
import Derived.Lib.ItoaLen
import Derived.Deep.RegionHeld3
import Derived.Laws.Concat
import Derived.Lib.IndexLaws
import Derived.BigQuiet
namespace Go.Proofs.YtepdlghobopdbaaGreatDoor
open Go.RowKit Go.MapKept Go.Shelf

/-- What a later world keeps of strconv's two errors: each holds nil or an error. -/
def EvAt (g : Nat) (w : World) : Prop := g < w.heap.size ∧ ∃ ev, w.cell? ⟨g, 0, none⟩ = some ev ∧ (ev = .nilIface ∨ ∃ te pe, ev = .iface te pe)
theorem EvAt.below {g : Nat} {w w' : World} (h : EvAt g w) (hb : Below w.heap.size w w') : EvAt g w' := by
  obtain ⟨h1, ev, h2, h3⟩ := h
  exact ⟨Nat.lt_of_lt_of_le h1 hb.size, ev, (hb.cell (p := ⟨g, 0, none⟩) h1).trans h2, h3⟩
def GV (w : World) : Prop := EvAt 3 w ∧ EvAt 2 w
theorem GV.below {w w' : World} (h : GV w) (hb : Below w.heap.size w w') : GV w' := ⟨h.1.below hb, h.2.below hb⟩
namespace Ar
def numOf (s : ByteArray) : Int := match Lib.atoiAll s.data.toList with | .ok v => v | .range => Lib.atoiSat s.data.toList | _ => 0
end Ar

theorem atoi_any (s : ByteArray) (hs : s.size ≤ 281474976710656) (w : World) (hG : GV w) :
    Calls Tryz.prog 101 #[.string s] w fun e w' => (∃ er, e = .returned (.tuple #[.int .i64 (Ar.numOf s), er]) ∧ (er = .nilIface ∨ ∃ te pe, er = .iface te pe)) ∧ Below w.heap.size w w' := by
  obtain ⟨⟨_, ev, hv, hev⟩, ⟨_, ev2, hv2, hev2⟩⟩ := hG
  by_cases h1 : ∃ v, Lib.atoiAll s.data.toList = .ok v
  · obtain ⟨v, h⟩ := h1
    have hn : Ar.numOf s = v := by unfold Ar.numOf; rw [h]
    rw [hn]
    refine (Tryz.strconv_Atoi_ok s (by omega) v h w).mono fun e w' ⟨he, hw⟩ => ⟨⟨_, he, .inl rfl⟩, ?_⟩
    rcases hw with rfl | ⟨q, rfl⟩
    · exact Below.refl _ _
    · exact Lib.bytesWorld_below _ _ _
  · by_cases h2 : Lib.atoiAll s.data.toList = .range
    · have hn : Ar.numOf s = Lib.atoiSat s.data.toList := by unfold Ar.numOf; rw [h2]
      rw [hn]
      exact (Tryz.strconv_Atoi_range s hs h2 ev w hv hev).mono fun e w' ⟨N, he, _, _, hb⟩ => ⟨⟨_, he, .inr ⟨_, _, rfl⟩⟩, hb⟩
    · have hn : Ar.numOf s = 0 := by
        unfold Ar.numOf
        revert h1 h2
        cases Lib.atoiAll s.data.toList <;> simp
      rw [hn]
      exact (Any.strconv_Atoi_syntax Tryz.laysC172 s hs (by revert h1 h2; cases Lib.atoiAll s.data.toList <;> simp) ev2 w hv2 hev2).mono fun e w' ⟨N, he, _, _, hb⟩ => ⟨⟨_, he, .inr ⟨_, _, rfl⟩⟩, hb⟩

set_option maxRecDepth 100000 in
set_option maxHeartbeats 1000000 in
theorem readNumber_any (s : ByteArray) (hs : s.size ≤ 281474976710656) (w : World) (hG : GV w) :
    Calls Tryz.prog 86 #[.string s] w fun e w' => e = .returned (.int .i64 (Ar.numOf s)) ∧ Below w.heap.size w w' := by
  have HA := Lib.hid (atoi_any s hs w hG)
  clear hG
  generalize Ar.numOf s = nn at *
  go_enter Tryz.func86, Tryz.ntmps86
  go_wp2_with (go_at_call 101; refine HA.out.mono ?_; rintro e w' ⟨⟨er, rfl, rfl | ⟨te, pe, rfl⟩⟩, hb⟩)
  all_goals
    go_ret
    exact ⟨rfl, hb⟩

/-- A text cut at a byte. -/
def cutOf (s : ByteArray) (c : UInt8) : ByteArray × ByteArray := if 0 ≤ Lib.indexByte s.data.toList c then (s.extract 0 (Lib.indexByte s.data.toList c).toNat, s.extract ((Lib.indexByte s.data.toList c).toNat + 1) s.size) else (s, ⟨#[]⟩)
def signObj : Obj := .map #[{ key := .int .u8 1, val := .string ⟨#[63]⟩, born := 0 }, { key := .int .u8 2, val := .string ⟨#[61]⟩, born := 1 }, { key := .int .u8 3, val := .string ⟨#[33]⟩, born := 2 }] 3
theorem push_set {W : World} {o o' : Obj} : ({ W.alloc o with heap := (W.alloc o).heap.setIfInBounds W.heap.size o' } : World) = W.alloc o' := by
  have h : (W.alloc o).heap.setIfInBounds W.heap.size o' = (W.alloc o').heap := by
    show (W.heap.push o).setIfInBounds W.heap.size o' = W.heap.push o'
    apply Array.ext_getElem?
    intro i
    by_cases hi : i = W.heap.size
    · subst hi; simp
    · simp [Ne.symm hi, Array.getElem?_push, hi]
  rw [h]; rfl
theorem run_insert_new (W : World) (es : Array MapEntry) (c : Nat) (k : Int) (v : Value) (hk : IsKey (.int .u8) (.int .u8 k)) (hf : Instr.findNow (.int .u8) (.int .u8 k) es.toList 0 = some none) :
    (Instr.mapUpdate 91 (.map (some W.heap.size)) (.int .u8 k) v).run Tryz.prog (W.alloc (.map es c)) = .ok () (W.alloc (.map (es.push { key := .int .u8 k, val := v, born := c }) (c + 1))) := by
  have hb : (W.alloc (.map es c)).heap[W.heap.size]? = some (.map es c) := Go.heap_alloc_new W _
  simp [Instr.mapUpdate, run_underlying Tryz.underlying91, MapKept.run_getObj_map hb, run_checkKey Tryz.underlying5 hk, run_findKey Tryz.underlying5 hf, run_setObj_map _ hb, Result.andThen]
  exact push_set
set_option maxRecDepth 100000 in
theorem wpList_insert_new {W : World} {ops : Array Oper} {rest : List Oper} {o : Oper} {a : Act} {Q : Exit → Act → World → Prop} (es : Array MapEntry) (c : Nat) (m : Operand) (k : Int) (v : Value)
    (hg : o.guard = none) (hop : o.op = Op.insert 91 m (.const (.int .u8 k)) (.const v)) (hm : a.eval m = .map (some W.heap.size)) (hk : IsKey (.int .u8) (.int .u8 k)) (hf : Instr.findNow (.int .u8) (.int .u8 k) es.toList 0 = some none)
    (hK : wpList Tryz.prog ops Q rest (a.put o.dst undef) (W.alloc (.map (es.push { key := .int .u8 k, val := v, born := c }) (c + 1)))) :
    wpList Tryz.prog ops Q (o :: rest) a (W.alloc (.map es c)) := by
  refine wpList_plain hg fun K hK' => ?_
  have hr := run_insert_new W es c k v hk hf
  have e1 : a.eval (.const (.int .u8 k)) = .int .u8 k := rfl
  have e2 : a.eval (.const v) = v := rfl
  unfold Oper.wp
  simp [execOp, hop, hm, e1, e2, hr, Result.andThen]
  exact hK' _ _ hK
set_option maxRecDepth 100000 in
set_option maxHeartbeats 4000000 in
theorem signs_any (w : World) : Calls Tryz.prog 51 #[] w fun e w' => e = .returned (.map (some w.heap.size)) ∧ w' = w.alloc signObj := by
  have hmm := @run_makeMap Tryz.prog
  go_enter Tryz.func51, Tryz.ntmps51
  go_wp2_with (refine wpList_insert_new _ _ _ _ _ rfl rfl rfl (by simp [IsKey]) rfl ?_)
  go_ret
  exact ⟨rfl, rfl⟩
end Go.Proofs.YtepdlghobopdbaaGreatDoor

namespace Go.Proofs.YtepdlghobopdbaaGreatDoor
open Go.RowKit Go.MapKept Go.Shelf

/-- The table of powers of ten reads as its text lays it. -/
def GT (w : World) : Prop := Lib.TabIs Tryz.prog w "internal/strconv.uint64pow10" .u64 Lib.pow10Tab
theorem GT.below {w w' : World} (h : GT w) (hb : Below w.heap.size w w') : GT w' := by
  unfold GT Lib.TabIs World.var? at h ⊢
  rw [show Tryz.prog.globalNamed "internal/strconv.uint64pow10" = some 1 by kernel_rfl] at h ⊢
  simp only [Option.bind_some] at h ⊢
  have hlt : 1 < w.heap.size := by
    rcases Nat.lt_or_ge 1 w.heap.size with h' | h'
    · exact h'
    · rw [Array.getElem?_eq_none h'] at h; cases h
  rw [hb.block _ hlt]; exact h
theorem itoa_any (n : Int) (h0 : -9223372036854775808 ≤ n) (h1 : n ≤ 9223372036854775807) (w : World) (hT : GT w) :
    Calls Tryz.prog 54 #[.int .i64 n] w fun e w' => e = .returned (.string ⟨(Lib.itoa n).toArray⟩) ∧ Below w.heap.size w w' :=
  (Tryz.strconv_Itoa n h0 h1 w hT).mono fun e w' ⟨he, k, os, hw⟩ => ⟨he, by subst hw; exact Lib.below_grow _ _ (Nat.le_refl _) _ _⟩
theorem itoa_len (n : Int) (h0 : 0 ≤ n) (h1 : n ≤ 9223372036854775807) : (Lib.itoa n).length ≤ 100 := Nat.le_trans (Lib.itoa_length_le n (by omega) h1) (by omega)

namespace Ar
def hasText (m : Mv) : Bool := if m.id < 0 ∨ m.arg < 0 then false else if m.kind = 1 then decide (m.n = 0) else if m.kind = 2 then decide (0 ≤ m.n) else if m.kind = 3 then (decide (0 ≤ m.n) || decide (m.n = -1)) else false
def itoaB (n : Int) : ByteArray := ⟨(Lib.itoa n).toArray⟩
def valueT (m : Mv) : ByteArray := if m.kind = 1 then ⟨#[]⟩ else if m.n = -1 then ⟨#[42]⟩ else itoaB m.n
def signT (m : Mv) : ByteArray := if m.kind = 1 then ⟨#[63]⟩ else if m.kind = 2 then ⟨#[61]⟩ else ⟨#[33]⟩
def placeT (m : Mv) : ByteArray := if 0 < m.arg then itoaB m.id ++ (⟨#[46]⟩ ++ itoaB m.arg) else itoaB m.id
def textOf (m : Mv) : ByteArray := placeT m ++ signT m ++ valueT m
def textRes (m : Mv) : ByteArray × Nat := if hasText m = true then (textOf m, 0) else (⟨#[]⟩, 4)
end Ar

set_option maxRecDepth 100000 in
set_option maxHeartbeats 4000000 in
theorem hasText_any (m : Ar.Mv) (w : World) : Calls Tryz.prog 53 #[mvV m] w fun e w' => e = .returned (.bool (Ar.hasText m)) ∧ Below w.heap.size w w' := by
  have hw : Ar.hasText m = if m.id < 0 ∨ m.arg < 0 then false else if m.kind = 1 then decide (m.n = 0) else if m.kind = 2 then decide (0 ≤ m.n) else if m.kind = 3 then (decide (0 ≤ m.n) || decide (m.n = -1)) else false := rfl
  have HW := Lib.hid hw; clear hw
  unfold mvV
  have hB0 : Below w.heap.size w (w.alloc (.cells #[.int .i64 m.id, .int .i64 m.arg, .int .u8 m.kind, .int .i64 m.n] 37)) := (Below.refl _ _).alloc (Nat.le_refl _) _
  go_enter Tryz.func53, Tryz.ntmps53
  go_wp2
  all_goals
    go_ret
    refine ⟨ret_bool ?_, hB0⟩
    rw [HW.out]
    try simp only [beq_iff_eq, beq_eq_false_iff_ne, ne_eq] at *
    (repeat' split) <;> simp_all
    all_goals first | omega | (exfalso; omega) | exact Bool.eq_iff_iff.2 (by simp) | rfl

set_option maxRecDepth 100000 in
set_option maxHeartbeats 4000000 in
theorem valueText_any (m : Ar.Mv) (w : World) (hT : GT w) (h0 : -9223372036854775808 ≤ m.n) (h1 : m.n ≤ 9223372036854775807) : Calls Tryz.prog 55 #[mvV m] w fun e w' => e = .returned (.string (Ar.valueT m)) ∧ Below w.heap.size w w' := by
  have hB0 : Below w.heap.size w (w.alloc (.cells #[.int .i64 m.id, .int .i64 m.arg, .int .u8 m.kind, .int .i64 m.n] 37)) := (Below.refl _ _).alloc (Nat.le_refl _) _
  have HI := Lib.hid (itoa_any m.n h0 h1 _ (hT.below hB0))
  have hv : Ar.valueT m = if m.kind = 1 then ⟨#[]⟩ else if m.n = -1 then ⟨#[42]⟩ else Ar.itoaB m.n := rfl
  clear hT
  unfold mvV
  by_cases hk : m.kind = 1
  · have HV : Hid (Ar.valueT m = ⟨#[]⟩) := by rw [Hid, hv, if_pos hk]
    have e1 : (m.kind == 1) = true := by rw [beq_iff_eq]; exact hk
    clear hv hk
    go_enter Tryz.func55, Tryz.ntmps55
    go_wp2
    go_ret
    exact ⟨by rw [HV.out]; rfl, hB0⟩
  · have e1 : (m.kind == 1) = false := by rw [beq_eq_false_iff_ne]; exact hk
    by_cases hn : m.n = -1
    · have HV : Hid (Ar.valueT m = ⟨#[42]⟩) := by rw [Hid, hv, if_neg hk, if_pos hn]
      have e2 : (m.n == -1) = true := by rw [beq_iff_eq]; exact hn
      clear hv hk hn
      go_enter Tryz.func55, Tryz.ntmps55
      go_wp2
      go_ret
      exact ⟨by rw [HV.out]; rfl, hB0⟩
    · have HV : Hid (Ar.valueT m = Ar.itoaB m.n) := by rw [Hid, hv, if_neg hk, if_neg hn]
      have e2 : (m.n == -1) = false := by rw [beq_eq_false_iff_ne]; exact hn
      clear hv hk hn
      go_enter Tryz.func55, Tryz.ntmps55
      go_wp2_with (go_at_call 54; refine HI.out.mono ?_; rintro e w2 ⟨rfl, hB2⟩)
      go_ret
      exact ⟨by rw [HV.out]; rfl, hB0.trans (hB2.mono hB0.size)⟩

theorem run_lookup_sign (w : World) (b : Nat) (m : Ar.Mv) (hk : m.kind = 1 ∨ m.kind = 2 ∨ m.kind = 3) (hb : w.heap[b]? = some signObj) :
    (Instr.lookup 91 (.map (some b)) (.int .u8 m.kind) false).run Tryz.prog w = .ok (.string (Ar.signT m)) w := by
  unfold signObj at hb
  unfold Ar.signT
  rcases hk with h | h | h <;> rw [h]
  · have hk : IsKey (.int .u8) (.int .u8 1) := by simp [IsKey]
    have hf : Instr.findNow (.int .u8) (.int .u8 1) [{ key := .int .u8 1, val := .string ⟨#[63]⟩, born := 0 }, { key := .int .u8 2, val := .string ⟨#[61]⟩, born := 1 }, { key := .int .u8 3, val := .string ⟨#[33]⟩, born := 2 }] 0 = some (some (0, .string ⟨#[63]⟩)) := by rfl
    simp [Instr.lookup, run_underlying Tryz.underlying91, MapKept.run_getObj_map hb, run_checkKey Tryz.underlying5 hk, run_findKey Tryz.underlying5 hf, Result.andThen]
  · have hk : IsKey (.int .u8) (.int .u8 2) := by simp [IsKey]
    have hf : Instr.findNow (.int .u8) (.int .u8 2) [{ key := .int .u8 1, val := .string ⟨#[63]⟩, born := 0 }, { key := .int .u8 2, val := .string ⟨#[61]⟩, born := 1 }, { key := .int .u8 3, val := .string ⟨#[33]⟩, born := 2 }] 0 = some (some (1, .string ⟨#[61]⟩)) := by rfl
    simp [Instr.lookup, run_underlying Tryz.underlying91, MapKept.run_getObj_map hb, run_checkKey Tryz.underlying5 hk, run_findKey Tryz.underlying5 hf, Result.andThen]
  · have hk : IsKey (.int .u8) (.int .u8 3) := by simp [IsKey]
    have hf : Instr.findNow (.int .u8) (.int .u8 3) [{ key := .int .u8 1, val := .string ⟨#[63]⟩, born := 0 }, { key := .int .u8 2, val := .string ⟨#[61]⟩, born := 1 }, { key := .int .u8 3, val := .string ⟨#[33]⟩, born := 2 }] 0 = some (some (2, .string ⟨#[33]⟩)) := by rfl
    simp [Instr.lookup, run_underlying Tryz.underlying91, MapKept.run_getObj_map hb, run_checkKey Tryz.underlying5 hk, run_findKey Tryz.underlying5 hf, Result.andThen]
end Go.Proofs.YtepdlghobopdbaaGreatDoor

namespace Go.Proofs.YtepdlghobopdbaaGreatDoor
open Go.RowKit Go.MapKept Go.Shelf

def MvOk (m : Ar.Mv) : Prop := -9223372036854775808 ≤ m.id ∧ m.id ≤ 9223372036854775807 ∧ -9223372036854775808 ≤ m.arg ∧ m.arg ≤ 9223372036854775807 ∧ -9223372036854775808 ≤ m.n ∧ m.n ≤ 9223372036854775807
theorem itoa_b (n : Int) (h0 : -9223372036854775808 ≤ n) (h1 : n ≤ 9223372036854775807) (w : World) (hT : GT w) :
    Calls Tryz.prog 54 #[.int .i64 n] w fun e w' => e = .returned (.string (Ar.itoaB n)) ∧ Below w.heap.size w w' := itoa_any n h0 h1 w hT
theorem itoaB_size (n : Int) (h0 : 0 ≤ n) (h1 : n ≤ 9223372036854775807) : (Ar.itoaB n).size ≤ 100 := by
  have := itoa_len n h0 h1
  show ((Lib.itoa n).toArray).size ≤ 100
  simpa using this
theorem signT_size (m : Ar.Mv) : (Ar.signT m).size ≤ 1 := by
  unfold Ar.signT
  split
  · exact Nat.le_refl _
  · split <;> exact Nat.le_refl _
theorem hasText_parts {m : Ar.Mv} (h : Ar.hasText m = true) : 0 ≤ m.id ∧ 0 ≤ m.arg ∧ (m.kind = 1 ∨ m.kind = 2 ∨ m.kind = 3) ∧ (0 ≤ m.n ∨ m.n = -1) := by
  unfold Ar.hasText at h
  split at h
  · cases h
  · refine ⟨by omega, by omega, ?_⟩
    split at h
    · simp only [decide_eq_true_eq] at h
      exact ⟨.inl (by assumption), by omega⟩
    · split at h
      · simp only [decide_eq_true_eq] at h
        exact ⟨.inr (.inl (by assumption)), by omega⟩
      · split at h
        · simp only [Bool.or_eq_true, decide_eq_true_eq] at h
          exact ⟨.inr (.inr (by assumption)), by omega⟩
        · cases h
theorem valueT_size (m : Ar.Mv) (h : Ar.hasText m = true) (hm : MvOk m) : (Ar.valueT m).size ≤ 100 := by
  unfold Ar.valueT
  obtain ⟨_, _, _, h4⟩ := hasText_parts h
  split
  · exact Nat.zero_le _
  · split
    · show 1 ≤ 100; omega
    · rcases h4 with h | h
      · exact itoaB_size _ h hm.2.2.2.2.2
      · exact absurd h (by assumption)
def TS (w : World) (b : Nat) (id arg kind n : Int) (W : World) : Prop := Below w.heap.size w W ∧ W.cell? ⟨b, 0, none⟩ = some (.int .i64 id) ∧ W.cell? ⟨b, 1, none⟩ = some (.int .i64 arg) ∧ W.cell? ⟨b, 2, none⟩ = some (.int .u8 kind) ∧ W.cell? ⟨b, 3, none⟩ = some (.int .i64 n)
theorem TS.next {w W W' : World} {b : Nat} {id arg kind n : Int} (h : TS w b id arg kind n W) (hB : Below W.heap.size W W') : TS w b id arg kind n W' :=
  ⟨h.1.trans (hB.mono h.1.size), keep_cell hB h.2.1, keep_cell hB h.2.2.1, keep_cell hB h.2.2.2.1, keep_cell hB h.2.2.2.2⟩

theorem below_of_alloc {W V : World} {o : Obj} (h : V = W.alloc o) : Below W.heap.size W V := by subst h; exact (Below.refl _ _).alloc (Nat.le_refl _) _
theorem heap_of_alloc {W V : World} {o : Obj} (h : V = W.alloc o) : V.heap[W.heap.size]? = some o := by subst h; exact Go.heap_alloc_new W _

set_option maxRecDepth 100000 in
set_option maxHeartbeats 8000000 in
theorem text_any (m : Ar.Mv) (w : World) (hT : GT w) (hm : MvOk m) : Calls Tryz.prog 20 #[mvV m] w fun e w' => e = .returned (.tuple #[.string (Ar.textRes m).1, .int .i64 ((Ar.textRes m).2 : Int)]) ∧ Below w.heap.size w w' := by
  have hB0 : Below w.heap.size w (w.alloc (.cells #[.int .i64 m.id, .int .i64 m.arg, .int .u8 m.kind, .int .i64 m.n] 37)) := (Below.refl _ _).alloc (Nat.le_refl _) _
  have HH := Lib.hid (fun W => hasText_any m W)
  have j0 := Lib.hid (World.alloc_heap_new w (.cells #[.int .i64 m.id, .int .i64 m.arg, .int .u8 m.kind, .int .i64 m.n] 37 (0, 0)))
  cases hh : Ar.hasText m
  · have hr : Ar.textRes m = (⟨#[]⟩, 4) := by unfold Ar.textRes; rw [if_neg (by rw [hh]; simp)]
    rw [hh] at HH
    have HR := Lib.hid hr
    clear hh hr hT hm
    unfold mvV at HH ⊢
    go_enter Tryz.func20, Tryz.ntmps20
    go_wp2_with (go_at_call 53; refine (HH.out _).mono ?_; rintro e w2 ⟨rfl, hB2⟩)
    exact bodyPost_ret (v := .tuple #[.string ⟨#[]⟩, .int .i64 4]) (by simp [results, Tryz.results20, go_sem]) rfl ⟨by rw [HR.out]; rfl, hB0.trans (hB2.mono hB0.size)⟩
  · obtain ⟨p1, p2, hk, _⟩ := hasText_parts hh
    have v1 := valueT_size m hh hm
    have v2 := signT_size m
    have v3 := itoaB_size m.id p1 hm.2.1
    have v4 := itoaB_size m.arg p2 hm.2.2.2.1
    have HI := Lib.hid (fun W (hB : Below w.heap.size w W) => itoa_b m.id hm.1 hm.2.1 W (hT.below hB))
    have HJ := Lib.hid (fun W (hB : Below w.heap.size w W) => itoa_b m.arg hm.2.2.1 hm.2.2.2.1 W (hT.below hB))
    have HV := Lib.hid (fun W (hB : Below w.heap.size w W) => valueText_any m W (hT.below hB) hm.2.2.2.2.1 hm.2.2.2.2.2)
    have HL := Lib.hid (fun W b => run_lookup_sign W b m hk)
    rw [hh] at HH
    have hr : Ar.textRes m = (Ar.placeT m ++ Ar.signT m ++ Ar.valueT m, 0) := by unfold Ar.textRes Ar.textOf; rw [if_pos hh]
    have hpl : Ar.placeT m = if 0 < m.arg then Ar.itoaB m.id ++ (⟨#[46]⟩ ++ Ar.itoaB m.arg) else Ar.itoaB m.id := rfl
    generalize Ar.valueT m = vt at *
    generalize Ar.signT m = st at *
    generalize Ar.itoaB m.id = si at *
    generalize Ar.itoaB m.arg = sj at *
    generalize Ar.placeT m = pt at *
    unfold mvV at HH HV ⊢
    clear hh hT hm hk
    have hdot : (⟨#[46]⟩ : ByteArray).size = 1 := rfl
    by_cases ha : 0 < m.arg
    · rw [if_pos ha] at hpl
      subst hpl
      have HR := Lib.hid hr
      have ad1 : ∀ W : World, (Op.stringOp .add ⟨#[46]⟩ sj).run Tryz.prog W = .ok (.string (⟨#[46]⟩ ++ sj)) W := fun W => run_string_add_sum (w := W) _ _ (by omega)
      have z1 : (⟨#[46]⟩ ++ sj : ByteArray).size ≤ 101 := by rw [ByteArray.size_append]; omega
      have ad2 : ∀ W : World, (Op.stringOp .add si (⟨#[46]⟩ ++ sj)).run Tryz.prog W = .ok (.string (si ++ (⟨#[46]⟩ ++ sj))) W := fun W => run_string_add_sum (w := W) _ _ (by omega)
      have z2 : (si ++ (⟨#[46]⟩ ++ sj) : ByteArray).size ≤ 201 := by rw [ByteArray.size_append]; omega
      have ad3 : ∀ W : World, (Op.stringOp .add (si ++ (⟨#[46]⟩ ++ sj)) st).run Tryz.prog W = .ok (.string (si ++ (⟨#[46]⟩ ++ sj) ++ st)) W := fun W => run_string_add_sum (w := W) _ _ (by omega)
      have z3 : (si ++ (⟨#[46]⟩ ++ sj) ++ st : ByteArray).size ≤ 202 := by rw [ByteArray.size_append]; omega
      have ad4 : ∀ W : World, (Op.stringOp .add (si ++ (⟨#[46]⟩ ++ sj) ++ st) vt).run Tryz.prog W = .ok (.string (si ++ (⟨#[46]⟩ ++ sj) ++ st ++ vt)) W := fun W => run_string_add_sum (w := W) _ _ (by omega)
      clear z1 z2 z3 v1 v2 v3 v4 hr hdot
      go_enter Tryz.func20, Tryz.ntmps20
      go_wp2_with (first
        | (go_at_call 54; refine (HJ.out _ hBw3).mono ?_; rintro e w4 ⟨rfl, hB4⟩; have hBw4 := hBw3.trans (hB4.mono hBw3.size); have j4 := Lib.hid ((hB4.block _ (lt_of_heap j3.out)).trans j3.out); obtain ⟨r0, r1, r2, r3, s0, s1, s2, s3⟩ := cells4 j4.out)
        | (go_at_call 54; refine (HI.out _ hBw2).mono ?_; rintro e w3 ⟨rfl, hB3⟩; have hBw3 := hBw2.trans (hB3.mono hBw2.size); have j3 := Lib.hid ((hB3.block _ (lt_of_heap j2.out)).trans j2.out); obtain ⟨r0, r1, r2, r3, s0, s1, s2, s3⟩ := cells4 j3.out)
        | (go_at_call 53; refine (HH.out _).mono ?_; rintro e w2 ⟨rfl, hB2⟩; have hBw2 := hB0.trans (hB2.mono hB0.size); have j2 := Lib.hid ((hB2.block _ (lt_of_heap j0.out)).trans j0.out); obtain ⟨r0, r1, r2, r3, s0, s1, s2, s3⟩ := cells4 j2.out))
      have hS0 : TS w w.heap.size m.id m.arg m.kind m.n w4.drew := ⟨hBw4.drew, r0, r1, r2, r3⟩
      have HS0 := Lib.hid hS0
      clear hS0 hB0 hB2 hB3 hB4 hBw2 hBw3 r0 r1 r2 r3 s0 s1 s2 s3
      go_region_held3 (fun w' => Below w.heap.size w w' ∧ w'.cell? ⟨w.heap.size, 0, none⟩ = some (.int .i64 m.id) ∧ w'.cell? ⟨w.heap.size, 1, none⟩ = some (.int .i64 m.arg) ∧ w'.cell? ⟨w.heap.size, 2, none⟩ = some (.int .u8 m.kind) ∧ w'.cell? ⟨w.heap.size, 3, none⟩ = some (.int .i64 m.n))
        (first
          | exact HS0.out
          | exact TS.next (by assumption) hB8
          | exact TS.next (by assumption) hB7
          | go_keep)
        ((first
          | (go_at_call 51; refine (signs_any _).mono ?_; rintro e w7 ⟨rfl, hw7⟩; have hB7 := below_of_alloc hw7; have hm7 := heap_of_alloc hw7; (first | have hL := HL.out w7 w4.heap.size hm7 | have hL := HL.out _ _ hm7); clear hw7)
          | (go_at_call 55; refine (HV.out _ (SI_below (by assumption))).mono ?_; rintro e w8 ⟨rfl, hB8⟩; try have hm8 := (hB8.block _ (lt_of_heap hm7)).trans hm7; (first | have hL := HL.out w8 w4.heap.size hm8 | have hL := HL.out _ _ hm8 | skip))))
      all_goals go_wp2
      all_goals
        refine bodyPost_ret (v := .tuple #[.string (si ++ (⟨#[46]⟩ ++ sj) ++ st ++ vt), .int .i64 0]) (by simp [results, Tryz.results20, go_sem]) rfl ⟨by rw [HR.out]; rfl, ?_⟩
        first
          | exact hBw4.drew.trans ((hB7.trans (hB8.mono hB7.size)).mono hBw4.size)
          | exact hBw4.drew.trans ((hB8.trans (hB7.mono hB8.size)).mono hBw4.size)
    · rw [if_neg ha] at hpl
      rw [hpl] at hr
      clear hpl
      have HR := Lib.hid hr
      have ha0 : ¬ (0 < m.arg) := ha
      have ha1 : decide (0 < m.arg) = false := decide_eq_false ha
      have ad3 : ∀ W : World, (Op.stringOp .add si st).run Tryz.prog W = .ok (.string (si ++ st)) W := fun W => run_string_add_sum (w := W) _ _ (by omega)
      have z3 : (si ++ st : ByteArray).size ≤ 202 := by rw [ByteArray.size_append]; omega
      have ad4 : ∀ W : World, (Op.stringOp .add (si ++ st) vt).run Tryz.prog W = .ok (.string (si ++ st ++ vt)) W := fun W => run_string_add_sum (w := W) _ _ (by omega)
      clear z3 v1 v2 v3 v4 hr hdot
      go_enter Tryz.func20, Tryz.ntmps20
      go_wp2_with (first
        | (go_at_call 54; refine (HI.out _ hBw2).mono ?_; rintro e w3 ⟨rfl, hB3⟩; have hBw3 := hBw2.trans (hB3.mono hBw2.size); have j3 := Lib.hid ((hB3.block _ (lt_of_heap j2.out)).trans j2.out); obtain ⟨r0, r1, r2, r3, s0, s1, s2, s3⟩ := cells4 j3.out)
        | (go_at_call 53; refine (HH.out _).mono ?_; rintro e w2 ⟨rfl, hB2⟩; have hBw2 := hB0.trans (hB2.mono hB0.size); have j2 := Lib.hid ((hB2.block _ (lt_of_heap j0.out)).trans j0.out); obtain ⟨r0, r1, r2, r3, s0, s1, s2, s3⟩ := cells4 j2.out))
      have hS0 : TS w w.heap.size m.id m.arg m.kind m.n w3.drew := ⟨hBw3.drew, r0, r1, r2, r3⟩
      have HS0 := Lib.hid hS0
      clear hS0 hB0 hB2 hB3 hBw2 r0 r1 r2 r3 s0 s1 s2 s3
      go_region_held3 (fun w' => Below w.heap.size w w' ∧ w'.cell? ⟨w.heap.size, 0, none⟩ = some (.int .i64 m.id) ∧ w'.cell? ⟨w.heap.size, 1, none⟩ = some (.int .i64 m.arg) ∧ w'.cell? ⟨w.heap.size, 2, none⟩ = some (.int .u8 m.kind) ∧ w'.cell? ⟨w.heap.size, 3, none⟩ = some (.int .i64 m.n))
        (first
          | exact HS0.out
          | exact TS.next (by assumption) hB8
          | exact TS.next (by assumption) hB7
          | go_keep)
        ((first
          | (go_at_call 51; refine (signs_any _).mono ?_; rintro e w7 ⟨rfl, hw7⟩; have hB7 := below_of_alloc hw7; have hm7 := heap_of_alloc hw7; (first | have hL := HL.out w7 w3.heap.size hm7 | have hL := HL.out _ _ hm7); clear hw7)
          | (go_at_call 55; refine (HV.out _ (SI_below (by assumption))).mono ?_; rintro e w8 ⟨rfl, hB8⟩; try have hm8 := (hB8.block _ (lt_of_heap hm7)).trans hm7; (first | have hL := HL.out w8 w3.heap.size hm8 | have hL := HL.out _ _ hm8 | skip))))
      all_goals go_wp2
      all_goals
        refine bodyPost_ret (v := .tuple #[.string (si ++ st ++ vt), .int .i64 0]) (by simp [results, Tryz.results20, go_sem]) rfl ⟨by rw [HR.out]; rfl, ?_⟩
        first
          | exact hBw3.drew.trans ((hB7.trans (hB8.mono hB7.size)).mono hBw3.size)
          | exact hBw3.drew.trans ((hB8.trans (hB7.mono hB8.size)).mono hBw3.size)
end Go.Proofs.YtepdlghobopdbaaGreatDoor

namespace Go.Proofs.YtepdlghobopdbaaGreatDoor
open Go.RowKit Go.MapKept Go.Shelf

theorem drewN_below {b : Nat} {w W : World} (h : Below b w W) : ∀ n, Below b w (W.drewN n)
  | 0 => h
  | n + 1 => (drewN_below h n).drew
theorem cutOf_none {s : ByteArray} {c : UInt8} (h : ¬ 0 ≤ Lib.indexByte s.data.toList c) : cutOf s c = (s, ⟨#[]⟩) := by unfold cutOf; rw [if_neg h]
theorem cutOf_some {s : ByteArray} {c : UInt8} {o : Nat} (h : Lib.indexByte s.data.toList c = (o : Int)) : cutOf s c = (s.extract 0 o, s.extract (o + 1) s.size) := by
  unfold cutOf; rw [if_pos (by omega), h]; rfl
theorem index_lt {s : ByteArray} {c : UInt8} {o : Nat} (h : Lib.indexByte s.data.toList c = (o : Int)) : o < s.size := by
  have := (Lib.indexByte_some h).1
  obtain ⟨h1, _⟩ := List.getElem?_eq_some_iff.1 this
  simpa using h1
theorem cut_size (s : ByteArray) (c : UInt8) : (cutOf s c).1.size ≤ s.size ∧ (cutOf s c).2.size ≤ s.size := by
  unfold cutOf
  split
  · simp only [ByteArray.size_extract]; omega
  · exact ⟨Nat.le_refl _, Nat.zero_le _⟩

set_option maxRecDepth 100000 in
set_option maxHeartbeats 4000000 in
theorem cutlite_any (s : ByteArray) (c : UInt8) (hs : s.size ≤ 281474976710656) (w : World) : Calls Tryz.prog 100 #[.string s, .string ⟨#[c]⟩] w fun e w' =>
    e = .returned (.tuple #[.string (cutOf s c).1, .string (cutOf s c).2, .bool (decide (0 ≤ Lib.indexByte s.data.toList c))]) ∧ Below w.heap.size w w' := by
  have HI := Lib.hid (fun W => Tryz.stringslite_Index_one s c W)
  have hg := Lib.indexByte_ge s.data.toList c
  by_cases h : 0 ≤ Lib.indexByte s.data.toList c
  · obtain ⟨o, ho⟩ := Int.eq_ofNat_of_zero_le h
    have hlt := index_lt ho
    have HC := Lib.hid (cutOf_some ho)
    rw [ho] at HI ⊢
    have b0 : (0 : Int) ≤ (o : Int) := by omega
    have b1 : (o : Int) ≤ (s.size : Int) := by omega
    have b2 : (o : Int) + 1 ≤ (s.size : Int) := by omega
    have b3 : (0 : Int) ≤ (o : Int) + 1 := by omega
    have hw1 : IntKind.i64.wrap ((o : Int) + 1) = (o : Int) + 1 := IntWalk.i64_in _ (by omega)
    have hd : decide ((0 : Int) ≤ (o : Int)) = true := decide_eq_true b0
    have hone : (⟨#[c]⟩ : ByteArray).size = 1 := rfl
    clear h hg ho
    go_enter Tryz.func100, Tryz.ntmps100
    go_wp2_with (go_at_call 111; refine (HI.out _).mono ?_; rintro e w2 ⟨rfl, rfl⟩)
    go_quiet (fail)
    go_wp2
    refine bodyPost_ret (v := .tuple #[.string (s.extract 0 o), .string (s.extract (o + 1) s.size), .bool true]) (by simp [results, Tryz.results100, go_sem]) rfl ⟨by rw [HC.out, hd], ?_⟩
    exact drewN_below (Below.refl _ _) _
  · have HC := Lib.hid (cutOf_none h)
    have he : Lib.indexByte s.data.toList c = -1 := by omega
    have hd : decide (0 ≤ Lib.indexByte s.data.toList c) = false := decide_eq_false h
    rw [he] at HI hd ⊢
    clear h hg he
    go_enter Tryz.func100, Tryz.ntmps100
    go_wp2_with (go_at_call 111; refine (HI.out _).mono ?_; rintro e w2 ⟨rfl, rfl⟩)
    refine bodyPost_ret (v := .tuple #[.string s, .string ⟨#[]⟩, .bool false]) (by simp [results, Tryz.results100, go_sem]) rfl ⟨by rw [HC.out, hd], Below.refl _ _⟩

set_option maxRecDepth 100000 in
set_option maxHeartbeats 4000000 in
theorem cut_any (s : ByteArray) (c : UInt8) (hs : s.size ≤ 281474976710656) (w : World) : Calls Tryz.prog 85 #[.string s, .string ⟨#[c]⟩] w fun e w' =>
    (∃ b, e = .returned (.tuple #[.string (cutOf s c).1, .string (cutOf s c).2, .bool b])) ∧ Below w.heap.size w w' := by
  have HI := Lib.hid (fun W => cutlite_any s c hs W)
  generalize (cutOf s c).1 = x at *
  generalize (cutOf s c).2 = y at *
  generalize decide (0 ≤ Lib.indexByte s.data.toList c) = b at *
  go_enter Tryz.func85, Tryz.ntmps85
  go_wp2_with (go_at_call 100; refine (HI.out _).mono ?_; rintro e w2 ⟨rfl, hB2⟩)
  exact bodyPost_ret (v := .tuple #[.string x, .string y, .bool b]) (by simp [results, Tryz.results85, go_sem]) rfl ⟨⟨b, rfl⟩, hB2⟩

theorem beq_bytes (a b : ByteArray) : (a == b) = decide (a = b) := by
  obtain ⟨a⟩ := a; obtain ⟨b⟩ := b
  show (a == b) = _
  by_cases h : a = b <;> simp [h]
def readMv (s : ByteArray) (kind : Int) (c : UInt8) : Ar.Mv := ⟨Ar.numOf (cutOf (cutOf s c).1 46).1, Ar.numOf (cutOf (cutOf s c).1 46).2, kind, if (cutOf s c).2 = ⟨#[42]⟩ then -1 else Ar.numOf (cutOf s c).2⟩
set_option maxRecDepth 100000 in
set_option maxHeartbeats 4000000 in
theorem readMove_any (s : ByteArray) (kind : Int) (c : UInt8) (hs : s.size ≤ 281474976710656) (w : World) (hG : GV w) : Calls Tryz.prog 52 #[.string s, .int .u8 kind, .string ⟨#[c]⟩] w fun e w' =>
    e = .returned (mvV (readMv s kind c)) ∧ Below w.heap.size w w' := by
  obtain ⟨z1, z2⟩ := cut_size s c
  obtain ⟨z3, z4⟩ := cut_size (cutOf s c).1 46
  have HC1 := Lib.hid (fun W => cut_any s c hs W)
  have HC2 := Lib.hid (fun W => cut_any (cutOf s c).1 46 (by omega) W)
  have HN1 := Lib.hid (fun W (hB : Below w.heap.size w W) => readNumber_any (cutOf (cutOf s c).1 46).1 (by omega) W (hG.below hB))
  have HN2 := Lib.hid (fun W (hB : Below w.heap.size w W) => readNumber_any (cutOf (cutOf s c).1 46).2 (by omega) W (hG.below hB))
  have HN3 := Lib.hid (fun W (hB : Below w.heap.size w W) => readNumber_any (cutOf s c).2 (by omega) W (hG.below hB))
  have HR : Hid (readMv s kind c = ⟨Ar.numOf (cutOf (cutOf s c).1 46).1, Ar.numOf (cutOf (cutOf s c).1 46).2, kind, if (cutOf s c).2 = ⟨#[42]⟩ then -1 else Ar.numOf (cutOf s c).2⟩) := rfl
  generalize Ar.numOf (cutOf (cutOf s c).1 46).1 = id at *
  generalize Ar.numOf (cutOf (cutOf s c).1 46).2 = arg at *
  generalize Ar.numOf (cutOf s c).2 = val at *
  generalize (cutOf (cutOf s c).1 46).1 = sid at *
  generalize (cutOf (cutOf s c).1 46).2 = sarg at *
  generalize (cutOf s c).1 = sat at *
  generalize (cutOf s c).2 = sval at *
  have hB0 : Below w.heap.size w (w.alloc (.cells #[.int .i64 0, .int .i64 0, .int .u8 0, .int .i64 0] 37 (0, 0))) := (Below.refl _ _).alloc (Nat.le_refl _) _
  have j0 := Lib.hid (World.alloc_heap_new w (.cells #[.int .i64 0, .int .i64 0, .int .u8 0, .int .i64 0] 37 (0, 0)))
  clear z1 z2 z3 z4 hG
  by_cases hv : sval = ⟨#[42]⟩
  · have HR2 : Hid (mvV (readMv s kind c) = .agg #[.int .i64 id, .int .i64 arg, .int .u8 kind, .int .i64 (-1)]) := by rw [Hid, HR.out, if_pos hv]; rfl
    subst hv
    clear HR
    go_enter Tryz.func52, Tryz.ntmps52
    go_wp2_with (first
      | (go_at_call 86; refine (HN3.out _ hBw5).mono ?_; rintro e w6 ⟨rfl, hB6⟩; have hBw6 := hBw5.trans (hB6.mono hBw5.size); have j6 := Lib.hid ((hB6.block _ (lt_of_heap j5.out)).trans j5.out); have hBw7 := hBw6.alloc hBw6.size (.cells #[.int .i64 id, .int .i64 arg, .int .u8 kind, .int .i64 (-1)] 37 (0, 0)); have j7 := Lib.hid ((Below.heap_alloc w6 (.cells #[.int .i64 id, .int .i64 arg, .int .u8 kind, .int .i64 (-1)] 37 (0, 0)) _ (lt_of_heap j6.out)).trans j6.out); obtain ⟨r0, r1, r2, r3, s0, s1, s2, s3⟩ := cells4 j7.out; have n1 : w6.heap.size ≠ w.heap.size := by have := lt_of_heap j6.out; omega)
      | (go_at_call 86; refine (HN2.out _ hBw4).mono ?_; rintro e w5 ⟨rfl, hB5⟩; have hBw5 := hBw4.trans (hB5.mono hBw4.size); have j5 := Lib.hid ((hB5.block _ (lt_of_heap j4.out)).trans j4.out))
      | (go_at_call 86; refine (HN1.out _ hBw3).mono ?_; rintro e w4 ⟨rfl, hB4⟩; have hBw4 := hBw3.trans (hB4.mono hBw3.size); have j4 := Lib.hid ((hB4.block _ (lt_of_heap j3.out)).trans j3.out))
      | (go_at_call 85; have _t := hBw2; refine (HC2.out _).mono ?_; rintro e w3 ⟨⟨b3, rfl⟩, hB3⟩; have hBw3 := hBw2.trans (hB3.mono hBw2.size); have j3 := Lib.hid ((hB3.block _ (lt_of_heap j2.out)).trans j2.out))
      | (go_at_call 85; refine (HC1.out _).mono ?_; rintro e w2 ⟨⟨b2, rfl⟩, hB2⟩; have hBw2 := hB0.trans (hB2.mono hB0.size); have j2 := Lib.hid ((hB2.block _ (lt_of_heap j0.out)).trans j0.out)))
    refine bodyPost_ret (v := .agg #[.int .i64 id, .int .i64 arg, .int .u8 kind, .int .i64 (-1)]) (by simp [results, Tryz.results52, go_sem, World.cell?_setCell_same', r0, r1, r2, r3]) rfl ⟨by rw [HR2.out], ?_⟩
    iterate 4 (refine Below.setCell ?_ (by simp) _)
    exact hBw7
  · have HR2 : Hid (mvV (readMv s kind c) = .agg #[.int .i64 id, .int .i64 arg, .int .u8 kind, .int .i64 val]) := by rw [Hid, HR.out, if_neg hv]; rfl
    have e1 : (sval.toList == [42]) = false := by
      rw [beq_eq_false_iff_ne, ByteArray.toList_eq]
      intro h
      exact hv (by apply ByteArray.ext; apply Array.toList_inj.1; simpa using h)
    clear HR hv
    go_enter Tryz.func52, Tryz.ntmps52
    go_wp2_with (first
      | (go_at_call 86; refine (HN3.out _ hBw5).mono ?_; rintro e w6 ⟨rfl, hB6⟩; have hBw6 := hBw5.trans (hB6.mono hBw5.size); have j6 := Lib.hid ((hB6.block _ (lt_of_heap j5.out)).trans j5.out); have hBw7 := hBw6.alloc hBw6.size (.cells #[.int .i64 id, .int .i64 arg, .int .u8 kind, .int .i64 val] 37 (0, 0)); have j7 := Lib.hid ((Below.heap_alloc w6 (.cells #[.int .i64 id, .int .i64 arg, .int .u8 kind, .int .i64 val] 37 (0, 0)) _ (lt_of_heap j6.out)).trans j6.out); obtain ⟨r0, r1, r2, r3, s0, s1, s2, s3⟩ := cells4 j7.out; have n1 : w6.heap.size ≠ w.heap.size := by have := lt_of_heap j6.out; omega)
      | (go_at_call 86; refine (HN2.out _ hBw4).mono ?_; rintro e w5 ⟨rfl, hB5⟩; have hBw5 := hBw4.trans (hB5.mono hBw4.size); have j5 := Lib.hid ((hB5.block _ (lt_of_heap j4.out)).trans j4.out))
      | (go_at_call 86; refine (HN1.out _ hBw3).mono ?_; rintro e w4 ⟨rfl, hB4⟩; have hBw4 := hBw3.trans (hB4.mono hBw3.size); have j4 := Lib.hid ((hB4.block _ (lt_of_heap j3.out)).trans j3.out))
      | (go_at_call 85; have _t := hBw2; refine (HC2.out _).mono ?_; rintro e w3 ⟨⟨b3, rfl⟩, hB3⟩; have hBw3 := hBw2.trans (hB3.mono hBw2.size); have j3 := Lib.hid ((hB3.block _ (lt_of_heap j2.out)).trans j2.out))
      | (go_at_call 85; refine (HC1.out _).mono ?_; rintro e w2 ⟨⟨b2, rfl⟩, hB2⟩; have hBw2 := hB0.trans (hB2.mono hB0.size); have j2 := Lib.hid ((hB2.block _ (lt_of_heap j0.out)).trans j0.out)))
    refine bodyPost_ret (v := .agg #[.int .i64 id, .int .i64 arg, .int .u8 kind, .int .i64 val]) (by simp [results, Tryz.results52, go_sem, World.cell?_setCell_same', r0, r1, r2, r3]) rfl ⟨by rw [HR2.out], ?_⟩
    iterate 4 (refine Below.setCell ?_ (by simp) _)
    exact hBw7
end Go.Proofs.YtepdlghobopdbaaGreatDoor
