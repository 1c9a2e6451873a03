/-
  WALKS: the keywords' map; a comment's end; signs; names.
-/
import Derived.Test.YtchkngabppmbkaaDoorLexB
import Derived.Test.YtchkngabppmbkaaDoorSpecB
import Derived.Carry
import Derived.MapKept
namespace Go.Proofs.YtchkngabppmbkaaDoor
open Go.RowKit Go.MapKept

/-- What the keywords' map holds. -/
def kwFrom : Nat → List ByteArray → List MapEntry
  | _, [] => []
  | c, k :: ks => { key := .string k, val := .bool true, born := c } :: kwFrom (c + 1) ks
def kwObj : Obj := .map (kwFrom 0 Lx.words).toArray 30

theorem push_set {W : World} {o o' : Obj} : ({ W.alloc o with heap := (W.alloc o).heap.setIfInBounds W.heap.size o' } : World) = W.alloc o' := by
  have h : (W.alloc o).heap.setIfInBounds W.heap.size o' = (W.alloc o').heap := by
    show (W.heap.push o).setIfInBounds W.heap.size o' = W.heap.push o'
    apply Array.ext_getElem?
    intro i
    by_cases hi : i = W.heap.size
    · subst hi; simp
    · simp [Ne.symm hi, Array.getElem?_push, hi]
  rw [h]; rfl

theorem run_insert_new (W : World) (es : Array MapEntry) (c : Nat) (k : ByteArray) (v : Value) (hf : Instr.findNow .string (.string k) es.toList 0 = some none) :
    (Instr.mapUpdate 109 (.map (some W.heap.size)) (.string k) v).run Tryd.prog (W.alloc (.map es c)) = .ok () (W.alloc (.map (es.push { key := .string k, val := v, born := c }) (c + 1))) := by
  have hb : (W.alloc (.map es c)).heap[W.heap.size]? = some (.map es c) := Go.heap_alloc_new W _
  have hk : IsKey .string (.string k) := by simp [IsKey]
  simp [Instr.mapUpdate, run_underlying Tryd.underlying109, MapKept.run_getObj_map hb, run_checkKey Tryd.underlying9 hk, run_findKey Tryd.underlying9 hf, run_setObj_map _ hb, Result.andThen]
  exact push_set

set_option maxRecDepth 100000 in
theorem wpList_insert_new {W : World} {ops : Array Oper} {rest : List Oper} {o : Oper} {a : Act} {Q : Exit → Act → World → Prop} (es : Array MapEntry) (c : Nat) (m : Operand) (k : ByteArray) (v : Value)
    (hg : o.guard = none) (hop : o.op = Op.insert 109 m (.const (.string k)) (.const v)) (hm : a.eval m = .map (some W.heap.size)) (hf : Instr.findNow .string (.string k) es.toList 0 = some none)
    (hK : wpList Tryd.prog ops Q rest (a.put o.dst undef) (W.alloc (.map (es.push { key := .string k, val := v, born := c }) (c + 1)))) :
    wpList Tryd.prog ops Q (o :: rest) a (W.alloc (.map es c)) := by
  refine wpList_plain hg fun K hK' => ?_
  have hr := run_insert_new W es c k v hf
  have e1 : a.eval (.const (.string k)) = .string k := rfl
  have e2 : a.eval (.const v) = v := rfl
  unfold Oper.wp
  simp [execOp, hop, hm, e1, e2, hr, Result.andThen]
  exact hK' _ _ hK

set_option maxRecDepth 100000 in
set_option maxHeartbeats 4000000 in
theorem keywords_any (w : World) : Calls Tryd.prog 81 #[] w fun e w' => e = .returned (.map (some w.heap.size)) ∧ w' = w.alloc kwObj := by
  have hmm := @run_makeMap Tryd.prog
  go_enter Tryd.func81, Tryd.ntmps81
  go_wp2_with (refine wpList_insert_new _ _ _ _ _ rfl rfl rfl rfl ?_)
  go_ret
  exact ⟨rfl, rfl⟩

theorem kw_find (s : ByteArray) : ∀ (c : Nat) (ks : List ByteArray) (i : Nat), (ks.contains s = false ∧ Instr.findNow .string (.string s) (kwFrom c ks) i = some none) ∨ (ks.contains s = true ∧ ∃ j, Instr.findNow .string (.string s) (kwFrom c ks) i = some (some (j, .bool true)))
  | _, [], _ => .inl ⟨rfl, rfl⟩
  | c, k :: ks, i => by
    by_cases h : s = k
    · subst h
      exact .inr ⟨by simp [MapKept.bytes_beq], i, by simp [kwFrom, Instr.findNow, Instr.sameNow, (MapKept.bytes_beq s s).2 rfl]⟩
    · have hb : (s == k) = false := by
        cases hh : (s == k)
        · rfl
        · exact absurd ((MapKept.bytes_beq s k).1 hh) h
      rcases kw_find s (c + 1) ks (i + 1) with ⟨h1, h2⟩ | ⟨h1, j, h2⟩
      · exact .inl ⟨by simp [List.contains_cons, hb, h1], by simp [kwFrom, Instr.findNow, Instr.sameNow, hb, h2]⟩
      · exact .inr ⟨by simp [List.contains_cons, hb, h1], j, by simp [kwFrom, Instr.findNow, Instr.sameNow, hb, h2]⟩

theorem run_lookup_kw (w : World) (b : Nat) (s : ByteArray) (hb : w.heap[b]? = some kwObj) :
    (Instr.lookup 109 (.map (some b)) (.string s) false).run Tryd.prog w = .ok (.bool (Lx.isWord s)) w := by
  have hk : MapKept.IsKey .string (.string s) := by simp [MapKept.IsKey]
  have hz : (zeroValue 4).run Tryd.prog w = .ok (.bool false) w := Tryd.zeroValue4 w
  unfold kwObj at hb
  rcases kw_find s 0 Lx.words 0 with ⟨h1, h2⟩ | ⟨h1, j, h2⟩
  · rw [show Lx.isWord s = false from h1]
    simp [Instr.lookup, run_underlying Tryd.underlying109, MapKept.run_getObj_map hb, MapKept.run_checkKey Tryd.underlying9 hk, MapKept.run_findKey Tryd.underlying9 h2, Result.andThen, hz]
  · rw [show Lx.isWord s = true from h1]
    simp [Instr.lookup, run_underlying Tryd.underlying109, MapKept.run_getObj_map hb, MapKept.run_checkKey Tryd.underlying9 hk, MapKept.run_findKey Tryd.underlying9 h2, Result.andThen]
end Go.Proofs.YtchkngabppmbkaaDoor
