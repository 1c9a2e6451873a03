/-
  PLAIN: the text of a move is read again, by the reference's way of reading; both ways come to the same.
-/
import Derived.Test.YtepdlghobopdbaaGreatDoorFq
namespace Go.Proofs.YtepdlghobopdbaaGreatDoor
open Go.RowKit Go.MapKept Go.Shelf
namespace Ar
def refKind (c : UInt8) : Int := if c = 63 then 1 else if c = 61 then 2 else if c = 33 then 3 else 0
def idPart (L : List UInt8) : Int × List UInt8 := ((digN 19 0 L).1, L.drop (digN 19 0 L).2)
def argPart (L : List UInt8) : Int × List UInt8 := if L[0]? = some 46 then ((digN 19 0 (L.drop 1)).1, L.drop (1 + (digN 19 0 (L.drop 1)).2)) else (0, L)
def refRest (L : List UInt8) : List UInt8 := (argPart (idPart L).2).2
def refN (L : List UInt8) : Int := if L = [33, 42] then -1 else (digN 19 0 (L.drop 1)).1
def readRef (L : List UInt8) : Option Mv :=
  match (refRest L)[0]? with
  | none => none
  | some c => some ⟨(idPart L).1, (argPart (idPart L).2).1, refKind c, refN (refRest L)⟩
def parseRes (s : ByteArray) : Mv × Nat := match readRef s.data.toList with
  | none => (⟨0, 0, 0, 0⟩, 4)
  | some m => if textRes m = (s, 0) then (m, 0) else (⟨0, 0, 0, 0⟩, 4)
theorem id_back {n : Int} (h0 : 0 ≤ n) (h1 : n ≤ 9223372036854775807) {c : UInt8} (hc : ¬ isDig c) (r : List UInt8) : idPart ((itoaB n).data.toList ++ c :: r) = (n, c :: r) := by
  unfold idPart
  rw [digN_dec h0 h1 (c :: r) (.inr ⟨c, rfl, hc⟩)]
  simp
theorem arg_back {n : Int} (h0 : 0 ≤ n) (h1 : n ≤ 9223372036854775807) {c : UInt8} (hc : ¬ isDig c) (r : List UInt8) : argPart (46 :: ((itoaB n).data.toList ++ c :: r)) = (n, c :: r) := by
  unfold argPart
  rw [if_pos (by rfl), List.drop_succ_cons, List.drop_zero, digN_dec h0 h1 (c :: r) (.inr ⟨c, rfl, hc⟩)]
  simp [Nat.add_comm 1]
theorem arg_none {c : UInt8} (hc : c ≠ 46) (r : List UInt8) : argPart (c :: r) = (0, c :: r) := by
  unfold argPart
  rw [if_neg (by intro e; exact hc (Option.some.inj e))]
theorem sign_dig {k : Int} (hk : isKind k) : ¬ isDig (sg k) ∧ sg k ≠ 46 ∧ refKind (sg k) = k := by
  rcases hk with rfl | rfl | rfl <;> decide
theorem star_list {n : Int} (h : 0 ≤ n) : (itoaB n).data.toList ≠ [42] := fun e => by
  have := itoa_digit h 42 (by rw [e]; exact List.mem_singleton.2 rfl)
  have e : (42 : UInt8).toNat = 42 := rfl
  omega
theorem refN_value {n : Int} (h0 : 0 ≤ n) (h1 : n ≤ 9223372036854775807) (c : UInt8) : refN (c :: (itoaB n).data.toList) = n := by
  unfold refN
  rw [if_neg (by
    intro e
    injection e with _ e
    exact star_list h0 e), List.drop_succ_cons, List.drop_zero]
  have := digN_dec h0 h1 [] (.inl rfl)
  rw [List.append_nil] at this
  rw [this]
theorem value_back {m : Mv} (h : hasText m = true) (hm : MvOk m) : refN (sg m.kind :: (valueT m).data.toList) = m.n := by
  obtain ⟨p1, p2, hk, p4⟩ := hasText_parts h
  obtain ⟨_, _, _, _, _, b3⟩ := hm
  unfold hasText at h
  rw [if_neg (by omega)] at h
  unfold valueT
  by_cases k1 : m.kind = 1
  · rw [if_pos k1] at h ⊢
    have hn := of_decide_eq_true h
    rw [k1, hn]
    rfl
  · rw [if_neg k1] at h ⊢
    by_cases hn : m.n = -1
    · by_cases k2 : m.kind = 2
      · rw [if_pos k2] at h
        have := of_decide_eq_true h
        omega
      · have k3 : m.kind = 3 := by
          rcases hk with e | e | e
          · exact absurd e k1
          · exact absurd e k2
          · exact e
        rw [if_pos hn, k3, hn]
        rfl
    · rw [if_neg hn]
      exact refN_value (by omega) b3 _
theorem text_list {m : Mv} (hk : isKind m.kind) : (textOf m).data.toList = (placeT m).data.toList ++ sg m.kind :: (valueT m).data.toList := by
  unfold textOf
  rw [sign_text hk]
  rw [ByteArray.data_append, ByteArray.data_append]
  simp
/-- The text of a move is read as this move. -/
theorem ref_back {m : Mv} (h : hasText m = true) (hm : MvOk m) : readRef (textOf m).data.toList = some m := by
  obtain ⟨p1, p2, hk, p4⟩ := hasText_parts h
  have hm' := hm
  obtain ⟨_, b1, _, b2, _, b3⟩ := hm
  obtain ⟨s1, s2, s3⟩ := sign_dig hk
  have hv := value_back h hm'
  have hp : idPart (textOf m).data.toList = (m.id, (if 0 < m.arg then 46 :: ((itoaB m.arg).data.toList ++ sg m.kind :: (valueT m).data.toList) else sg m.kind :: (valueT m).data.toList)) := by
    rw [text_list hk]
    unfold placeT
    by_cases ha : 0 < m.arg
    · rw [if_pos ha, if_pos ha]
      have e : (itoaB m.id ++ (⟨#[46]⟩ ++ itoaB m.arg)).data.toList = (itoaB m.id).data.toList ++ 46 :: (itoaB m.arg).data.toList := by
        rw [ByteArray.data_append, ByteArray.data_append]
        simp
      rw [e, List.append_assoc, List.cons_append]
      exact id_back p1 b1 (by decide) _
    · rw [if_neg ha, if_neg ha]
      exact id_back p1 b1 s1 _
  have hq : argPart (idPart (textOf m).data.toList).2 = (m.arg, sg m.kind :: (valueT m).data.toList) := by
    rw [hp]
    simp only
    by_cases ha : 0 < m.arg
    · rw [if_pos ha]
      exact arg_back p2 b2 s1 _
    · rw [if_neg ha, arg_none s2]
      have : m.arg = 0 := by omega
      rw [this]
  have hr : refRest (textOf m).data.toList = sg m.kind :: (valueT m).data.toList := by
    unfold refRest
    rw [hq]
  unfold readRef
  rw [hr, hq, hp]
  simp only [List.getElem?_cons_zero]
  rw [s3, hv]
theorem readRef_ok {L : List UInt8} {m : Mv} (h : readRef L = some m) : MvOk m := by
  have z : -9223372036854775808 ≤ (0 : Int) ∧ (0 : Int) ≤ 9223372036854775807 := by omega
  unfold readRef at h
  split at h
  · cases h
  · obtain rfl := Option.some.inj h
    refine ⟨(digN_range 19 0 _ z).1, (digN_range 19 0 _ z).2, ?_, ?_, ?_, ?_⟩
    · show _ ≤ (argPart _).1
      unfold argPart
      split
      · exact (digN_range 19 0 _ z).1
      · exact z.1
    · show (argPart _).1 ≤ _
      unfold argPart
      split
      · exact (digN_range 19 0 _ z).2
      · exact z.2
    · show _ ≤ refN _
      unfold refN
      split
      · omega
      · exact (digN_range 19 0 _ z).1
    · show refN _ ≤ _
      unfold refN
      split
      · omega
      · exact (digN_range 19 0 _ z).2
theorem textRes_some {m : Mv} {s : ByteArray} (h : textRes m = (s, 0)) : hasText m = true ∧ textOf m = s := by
  unfold textRes at h
  split at h
  · rename_i ht
    exact ⟨ht, congrArg Prod.fst h⟩
  · exact absurd (congrArg Prod.snd h) (show ¬ ((4 : Nat) = 0) by decide)
theorem textRes_of {m : Mv} (h : hasText m = true) : textRes m = (textOf m, 0) := by unfold textRes; rw [if_pos h]
end Ar
/-- What the program's reading comes to. -/
theorem parse_res {s : ByteArray} {e : Ending} (h : ParsePost s e) : e = .returned (.tuple #[mvV (Ar.parseRes s).1, .int .i64 ((Ar.parseRes s).2 : Int)]) := by
  unfold Ar.parseRes
  rcases h with ⟨k, hk, hm, he⟩ | ⟨hm, he⟩
  · have ht : Ar.textRes (readMv s k (sg k)) = (s, 0) := Classical.byContradiction hm
    obtain ⟨h1, h2⟩ := Ar.textRes_some ht
    have hb := Ar.ref_back h1 (readMv_ok s k (sg k))
    rw [h2] at hb
    rw [hb]
    simp only
    rw [if_pos ht]
    exact he
  · cases hr : Ar.readRef s.data.toList with
    | none => exact he
    | some m =>
      simp only
      by_cases ht : Ar.textRes m = (s, 0)
      · obtain ⟨h1, h2⟩ := Ar.textRes_some ht
        have hk := (hasText_parts h1).2.2.1
        have hb := Ar.read_back h1 (Ar.readRef_ok hr)
        rw [h2] at hb
        exact absurd (by rw [hb]; exact ht) (hm m.kind hk)
      · rw [if_neg ht]
        exact he
end Go.Proofs.YtepdlghobopdbaaGreatDoor
