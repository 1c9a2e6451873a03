/-
  WALKS: numbers in texts; a text cut in two; signs. (The shelf's contracts that these texts use: Tryz.strconv_Itoa_small Tryz.strconv_Itoa Tryz.strings_Join Tryz.strings_Join_none Tryz.strings_Cut Tryz.strings_Split Tryz.strings_CutSuffix Tryz.strings_TrimPrefix Tryz.strconv_Atoi_ok Tryz.strconv_Atoi_range Tryz.strings_Index_one Tryz.stringslite_Index_one Tryz.cmp_Compare_int)
-/
import Derived.Test.YtoeabencbbjboaaGreatDoorBb
import Derived.Test.YtoeabencbbjboaaGreatDoorShelf
import Derived.Lib.AtoiErrMem
import Derived.MapKept
namespace Go.Proofs.YtoeabencbbjboaaGreatDoor
open Go.RowKit Go.MapKept Go.Shelf

/-- What a later world keeps of strconv's two errors: each holds nil or an error. -/
def EvAt (g : Nat) (w : World) : Prop := g < w.heap.size ∧ ∃ ev, w.cell? ⟨g, 0, none⟩ = some ev ∧ (ev = .nilIface ∨ ∃ te pe, ev = .iface te pe)
theorem EvAt.below {g : Nat} {w w' : World} (h : EvAt g w) (hb : Below w.heap.size w w') : EvAt g w' := by
  obtain ⟨h1, ev, h2, h3⟩ := h
  exact ⟨Nat.lt_of_lt_of_le h1 hb.size, ev, (hb.cell (p := ⟨g, 0, none⟩) h1).trans h2, h3⟩
def GV (w : World) : Prop := EvAt 3 w ∧ EvAt 2 w
theorem GV.below {w w' : World} (h : GV w) (hb : Below w.heap.size w w') : GV w' := ⟨h.1.below hb, h.2.below hb⟩
namespace Ar
def numOf (s : ByteArray) : Int := match Lib.atoiAll s.data.toList with | .ok v => v | .range => Lib.atoiSat s.data.toList | _ => 0
end Ar

theorem atoi_any (s : ByteArray) (hs : s.size ≤ 281474976710656) (w : World) (hG : GV w) :
    Calls Tryz.prog 141 #[.string s] w fun e w' => (∃ er, e = .returned (.tuple #[.int .i64 (Ar.numOf s), er]) ∧ (er = .nilIface ∨ ∃ te pe, er = .iface te pe)) ∧ Below w.heap.size w w' := by
  obtain ⟨⟨_, ev, hv, hev⟩, ⟨_, ev2, hv2, hev2⟩⟩ := hG
  by_cases h1 : ∃ v, Lib.atoiAll s.data.toList = .ok v
  · obtain ⟨v, h⟩ := h1
    have hn : Ar.numOf s = v := by unfold Ar.numOf; rw [h]
    rw [hn]
    refine (Tryz.strconv_Atoi_ok s (by omega) v h w).mono fun e w' ⟨he, hw⟩ => ⟨⟨_, he, .inl rfl⟩, ?_⟩
    rcases hw with rfl | ⟨q, rfl⟩
    · exact Below.refl _ _
    · exact Lib.bytesWorld_below _ _ _
  · by_cases h2 : Lib.atoiAll s.data.toList = .range
    · have hn : Ar.numOf s = Lib.atoiSat s.data.toList := by unfold Ar.numOf; rw [h2]
      rw [hn]
      exact (Tryz.strconv_Atoi_range s hs h2 ev w hv hev).mono fun e w' ⟨N, he, _, _, hb⟩ => ⟨⟨_, he, .inr ⟨_, _, rfl⟩⟩, hb⟩
    · have hn : Ar.numOf s = 0 := by
        unfold Ar.numOf
        revert h1 h2
        cases Lib.atoiAll s.data.toList <;> simp
      rw [hn]
      exact (Any.strconv_Atoi_syntax Tryz.laysC172 s hs (by revert h1 h2; cases Lib.atoiAll s.data.toList <;> simp) ev2 w hv2 hev2).mono fun e w' ⟨N, he, _, _, hb⟩ => ⟨⟨_, he, .inr ⟨_, _, rfl⟩⟩, hb⟩

set_option maxRecDepth 100000 in
set_option maxHeartbeats 1000000 in
theorem readNumber_any (s : ByteArray) (hs : s.size ≤ 281474976710656) (w : World) (hG : GV w) :
    Calls Tryz.prog 126 #[.string s] w fun e w' => e = .returned (.int .i64 (Ar.numOf s)) ∧ Below w.heap.size w w' := by
  have HA := Lib.hid (atoi_any s hs w hG)
  clear hG
  generalize Ar.numOf s = nn at *
  go_enter Tryz.func126, Tryz.ntmps126
  go_wp2_with (go_at_call 141; refine HA.out.mono ?_; rintro e w' ⟨⟨er, rfl, rfl | ⟨te, pe, rfl⟩⟩, hb⟩)
  all_goals
    go_ret
    exact ⟨rfl, hb⟩

/-- A text cut at a byte. -/
def cutOf (s : ByteArray) (c : UInt8) : ByteArray × ByteArray := if 0 ≤ Lib.indexByte s.data.toList c then (s.extract 0 (Lib.indexByte s.data.toList c).toNat, s.extract ((Lib.indexByte s.data.toList c).toNat + 1) s.size) else (s, ⟨#[]⟩)
def signObj : Obj := .map #[{ key := .int .u8 1, val := .string ⟨#[63]⟩, born := 0 }, { key := .int .u8 2, val := .string ⟨#[61]⟩, born := 1 }, { key := .int .u8 3, val := .string ⟨#[33]⟩, born := 2 }] 3
theorem push_set {W : World} {o o' : Obj} : ({ W.alloc o with heap := (W.alloc o).heap.setIfInBounds W.heap.size o' } : World) = W.alloc o' := by
  have h : (W.alloc o).heap.setIfInBounds W.heap.size o' = (W.alloc o').heap := by
    show (W.heap.push o).setIfInBounds W.heap.size o' = W.heap.push o'
    apply Array.ext_getElem?
    intro i
    by_cases hi : i = W.heap.size
    · subst hi; simp
    · simp [Ne.symm hi, Array.getElem?_push, hi]
  rw [h]; rfl
theorem run_insert_new (W : World) (es : Array MapEntry) (c : Nat) (k : Int) (v : Value) (hk : IsKey (.int .u8) (.int .u8 k)) (hf : Instr.findNow (.int .u8) (.int .u8 k) es.toList 0 = some none) :
    (Instr.mapUpdate 118 (.map (some W.heap.size)) (.int .u8 k) v).run Tryz.prog (W.alloc (.map es c)) = .ok () (W.alloc (.map (es.push { key := .int .u8 k, val := v, born := c }) (c + 1))) := by
  have hb : (W.alloc (.map es c)).heap[W.heap.size]? = some (.map es c) := Go.heap_alloc_new W _
  simp [Instr.mapUpdate, run_underlying Tryz.underlying118, MapKept.run_getObj_map hb, run_checkKey Tryz.underlying5 hk, run_findKey Tryz.underlying5 hf, run_setObj_map _ hb, Result.andThen]
  exact push_set
set_option maxRecDepth 100000 in
theorem wpList_insert_new {W : World} {ops : Array Oper} {rest : List Oper} {o : Oper} {a : Act} {Q : Exit → Act → World → Prop} (es : Array MapEntry) (c : Nat) (m : Operand) (k : Int) (v : Value)
    (hg : o.guard = none) (hop : o.op = Op.insert 118 m (.const (.int .u8 k)) (.const v)) (hm : a.eval m = .map (some W.heap.size)) (hk : IsKey (.int .u8) (.int .u8 k)) (hf : Instr.findNow (.int .u8) (.int .u8 k) es.toList 0 = some none)
    (hK : wpList Tryz.prog ops Q rest (a.put o.dst undef) (W.alloc (.map (es.push { key := .int .u8 k, val := v, born := c }) (c + 1)))) :
    wpList Tryz.prog ops Q (o :: rest) a (W.alloc (.map es c)) := by
  refine wpList_plain hg fun K hK' => ?_
  have hr := run_insert_new W es c k v hk hf
  have e1 : a.eval (.const (.int .u8 k)) = .int .u8 k := rfl
  have e2 : a.eval (.const v) = v := rfl
  unfold Oper.wp
  simp [execOp, hop, hm, e1, e2, hr, Result.andThen]
  exact hK' _ _ hK
set_option maxRecDepth 100000 in
set_option maxHeartbeats 4000000 in
theorem signs_any (w : World) : Calls Tryz.prog 95 #[] w fun e w' => e = .returned (.map (some w.heap.size)) ∧ w' = w.alloc signObj := by
  have hmm := @run_makeMap Tryz.prog
  go_enter Tryz.func95, Tryz.ntmps95
  go_wp2_with (refine wpList_insert_new _ _ _ _ _ rfl rfl rfl (by simp [IsKey]) rfl ?_)
  go_ret
  exact ⟨rfl, rfl⟩
end Go.Proofs.YtoeabencbbjboaaGreatDoor
