/-
  PLAIN: the text of an arena is read again, by the reference's way of reading; both ways of reading come to the same.
-/
import Derived.Test.YtepdlghobopdbaaGreatDoorHa
import Derived.Test.YtepdlghobopdbaaGreatDoorFq
import Derived.Test.YtepdlghobopdbaaGreatDoorBv
namespace Go.Proofs.YtepdlghobopdbaaGreatDoor
namespace Ar
def cellL : List UInt8 := [99, 101, 108, 108, 32]
def intL : List UInt8 := [105, 110, 116, 32]
/-- The number behind the first so many bytes of a text. -/
def numAt (s : ByteArray) (k : Nat) : Int := (digN 19 0 (s.extract k s.size).data.toList).1
def refBs (s : ByteArray) : Bs := if Lib.hasPrefix s.data.toList cellL = true then ⟨true, numAt s 5⟩ else if Lib.hasPrefix s.data.toList intL = true then ⟨false, numAt s 4⟩ else ⟨false, 0⟩
def refTy (s : ByteArray) : Ty :=
  ⟨if Lib.hasPrefix s.data.toList [40] = true then (splitBs (((splitBs s ⟨#[41, 32, 45, 62, 32]⟩).headD ⟨#[]⟩).extract 1 ((splitBs s ⟨#[41, 32, 45, 62, 32]⟩).headD ⟨#[]⟩).size) ⟨#[44, 32]⟩).map refBs else [],
   refBs ((splitBs s ⟨#[41, 32, 45, 62, 32]⟩).getLastD ⟨#[]⟩)⟩
def jumpsB : ByteArray := ⟨#[106, 117, 109, 112, 115]⟩
def refTail (l : List ByteArray) : List ByteArray := if l.getLast? = some jumpsB then l.dropLast else l
def refTails (s : ByteArray) : List ByteArray := refTail ((splitBs s ⟨#[59, 32]⟩).drop 1)
def refAr (s : ByteArray) : Are := ⟨(refTails s).map refTy, refBs ((splitBs s ⟨#[59, 32]⟩).headD ⟨#[]⟩), decide (((splitBs s ⟨#[59, 32]⟩).drop 1).getLast? = some jumpsB)⟩
theorem ext_data (s : ByteArray) (k : Nat) : (s.extract k s.size).data.toList = s.data.toList.drop k := by
  rw [Lib.extract_data, List.take_of_length_le]
  rw [List.length_drop]
  exact Nat.le_refl _
theorem refBs_base {b : Bs} (h0 : 0 ≤ b.n) (h1 : b.n ≤ 9223372036854775807) : refBs (baseB b) = b := by
  have hd := digN_dec h0 h1 [] (.inl rfl)
  rw [List.append_nil] at hd
  obtain ⟨bc, bn⟩ := b
  cases bc with
  | true =>
    have e : (baseB ⟨true, bn⟩).data.toList = cellL ++ (itoaB bn).data.toList := by rw [base_list]; rfl
    have h : Lib.hasPrefix (baseB ⟨true, bn⟩).data.toList cellL = true := by rw [e]; exact List.isPrefixOf_iff_prefix.2 (List.prefix_append _ _)
    unfold refBs numAt
    rw [if_pos h, ext_data, e, List.drop_left' (by rfl), hd]
  | false =>
    have e : (baseB ⟨false, bn⟩).data.toList = intL ++ (itoaB bn).data.toList := by rw [base_list]; rfl
    have h : Lib.hasPrefix (baseB ⟨false, bn⟩).data.toList intL = true := by rw [e]; exact List.isPrefixOf_iff_prefix.2 (List.prefix_append _ _)
    have h' : ¬ Lib.hasPrefix (baseB ⟨false, bn⟩).data.toList cellL = true := by
      rw [e]
      unfold Lib.hasPrefix cellL intL
      simp [List.isPrefixOf]
    unfold refBs numAt
    rw [if_neg h', if_pos h, ext_data, e, List.drop_left' (by rfl), hd]
theorem openP_list (t : Ty) : (⟨#[40]⟩ ++ joinB (t.params.map baseB) ⟨#[44, 32]⟩ : ByteArray).data.toList = 40 :: (joinB (t.params.map baseB) ⟨#[44, 32]⟩).data.toList := by
  rw [ByteArray.data_append]; simp
theorem refTy_type {t : Ty} (h : TyR t) : refTy (typeB t) = t := by
  have hb0 := h.result
  by_cases h0 : t.params.length = 0
  · have hb : typeB t = baseB t.result := by unfold typeB; rw [if_pos h0]
    have hn : (40 : UInt8) ∉ (baseB t.result).data.toList := base_not hb0.1 (by decide)
    have hp : ¬ Lib.hasPrefix (baseB t.result).data.toList [40] = true := fun hp => by
      obtain ⟨r, hr⟩ := List.isPrefixOf_iff_prefix.1 hp
      exact hn (by rw [← hr]; simp)
    have hs : splitBs (baseB t.result) ⟨#[41, 32, 45, 62, 32]⟩ = [baseB t.result] := by
      have := splitBs_join (c := 41) (t := [32, 45, 62, 32]) (l := [baseB t.result]) (sep := ⟨#[41, 32, 45, 62, 32]⟩) rfl (fun x hx => by
        obtain rfl := List.mem_singleton.1 hx
        exact base_not hb0.1 (by decide)) (by simp)
      rwa [show joinB [baseB t.result] ⟨#[41, 32, 45, 62, 32]⟩ = baseB t.result from bytes_inj (by rw [joinB_list, List.map_singleton, Lib.join_one])] at this
    unfold refTy
    rw [hb, if_neg hp, hs]
    show (⟨[], refBs (baseB t.result)⟩ : Ty) = t
    rw [refBs_base hb0.1 hb0.2]
    obtain ⟨p, r⟩ := t
    simp only [List.length_eq_zero_iff] at h0
    rw [h0]
  · have hb : typeB t = joinB [⟨#[40]⟩ ++ joinB (t.params.map baseB) ⟨#[44, 32]⟩, baseB t.result] ⟨#[41, 32, 45, 62, 32]⟩ := by
      refine bytes_inj ?_
      rw [type_list h0, joinB_list [_, _], List.map_cons, List.map_singleton, Lib.join_cons, openP_list]
      simp [Lib.joinTail]
    have hp : Lib.hasPrefix (typeB t).data.toList [40] = true := by
      rw [type_list h0]
      unfold Lib.hasPrefix
      simp [List.isPrefixOf]
    have hs : splitBs (typeB t) ⟨#[41, 32, 45, 62, 32]⟩ = [⟨#[40]⟩ ++ joinB (t.params.map baseB) ⟨#[44, 32]⟩, baseB t.result] := by
      rw [hb]
      refine splitBs_join (c := 41) (t := [32, 45, 62, 32]) rfl (fun x hx => ?_) (by simp)
      rcases List.mem_cons.1 hx with rfl | hx
      · rw [openP_list]
        intro hm
        rcases List.mem_cons.1 hm with e | hm
        · revert e; decide
        · exact params_not (fun b hb => (h.params b hb).1) (by decide) hm
      · obtain rfl := List.mem_singleton.1 hx
        exact base_not hb0.1 (by decide)
    unfold refTy
    rw [if_pos hp, hs]
    have he : ((⟨#[40]⟩ ++ joinB (t.params.map baseB) ⟨#[44, 32]⟩ : ByteArray).extract 1 (⟨#[40]⟩ ++ joinB (t.params.map baseB) ⟨#[44, 32]⟩ : ByteArray).size) = joinB (t.params.map baseB) ⟨#[44, 32]⟩ := by
      refine bytes_inj ?_
      rw [ext_data, openP_list]
      rfl
    show (⟨(splitBs ((⟨#[40]⟩ ++ joinB (t.params.map baseB) ⟨#[44, 32]⟩ : ByteArray).extract 1 (⟨#[40]⟩ ++ joinB (t.params.map baseB) ⟨#[44, 32]⟩ : ByteArray).size) ⟨#[44, 32]⟩).map refBs, refBs (baseB t.result)⟩ : Ty) = t
    rw [he, splitBs_join (c := 44) (t := [32]) rfl (fun x hx => by
      obtain ⟨y, hy, rfl⟩ := List.mem_map.1 hx
      exact base_not (h.params y hy).1 (by decide)) (by
      intro e
      exact h0 (by rw [List.map_eq_nil_iff.1 e]; rfl)), refBs_base hb0.1 hb0.2, List.map_map]
    have : t.params.map (refBs ∘ baseB) = t.params := by
      conv => rhs; rw [← List.map_id t.params]
      exact List.map_congr_left (fun b hb => refBs_base (h.params b hb).1 (h.params b hb).2)
    rw [this]
theorem jumps_no : ¬ endsDig jumpsB.data.toList := fun ⟨x, d, e, h1, h2⟩ => by
  have h := congrArg List.getLast? e
  rw [List.getLast?_append] at h
  have e2 : (115 : UInt8) = d := by simpa [jumpsB] using h
  subst e2
  have : (115 : UInt8).toNat = 115 := rfl
  omega
/-- The text of an arena is read as this arena, by the reference too. -/
theorem refAr_show {a : Are} (h : AreR a) : refAr (showB a) = a := by
  have hsp : splitBs (showB a) ⟨#[59, 32]⟩ = partsB a := by
    unfold showB
    refine splitBs_join (c := 59) (t := [32]) rfl (fun x hx => ?_) (by unfold partsB; simp)
    unfold partsB at hx
    rcases List.mem_append.1 hx with hx | hx
    · rcases List.mem_append.1 hx with hx | hx
      · obtain rfl := List.mem_singleton.1 hx
        exact base_not h.root.1 (by decide)
      · obtain ⟨t, ht, rfl⟩ := List.mem_map.1 hx
        exact type_not (h.ids t ht)
    · split at hx
      · obtain rfl := List.mem_singleton.1 hx
        decide
      · cases hx
  have hid : (a.ids.map typeB).map refTy = a.ids := by
    rw [List.map_map]
    conv => rhs; rw [← List.map_id a.ids]
    exact List.map_congr_left (fun t ht => refTy_type (h.ids t ht))
  have hr : refBs (baseB a.root) = a.root := refBs_base h.root.1 h.root.2
  unfold refAr refTails
  rw [hsp]
  unfold partsB refTail
  obtain ⟨ids, root, jm⟩ := a
  simp only at hid hr ⊢
  cases jm with
  | true =>
    have e1 : ([baseB root] ++ ids.map typeB ++ (if true = true then [(⟨#[106, 117, 109, 112, 115]⟩ : ByteArray)] else [])).drop 1 = ids.map typeB ++ [jumpsB] := rfl
    have e2 : ([baseB root] ++ ids.map typeB ++ (if true = true then [(⟨#[106, 117, 109, 112, 115]⟩ : ByteArray)] else [])).headD ⟨#[]⟩ = baseB root := rfl
    rw [e1, e2]
    have e3 : (ids.map typeB ++ [jumpsB]).getLast? = some jumpsB := by simp
    rw [if_pos e3, List.dropLast_concat, hid, hr, decide_eq_true e3]
  | false =>
    have e1 : ([baseB root] ++ ids.map typeB ++ (if false = true then [(⟨#[106, 117, 109, 112, 115]⟩ : ByteArray)] else [])).drop 1 = ids.map typeB := by simp
    have e2 : ([baseB root] ++ ids.map typeB ++ (if false = true then [(⟨#[106, 117, 109, 112, 115]⟩ : ByteArray)] else [])).headD ⟨#[]⟩ = baseB root := rfl
    rw [e1, e2]
    have e3 : ¬ (ids.map typeB).getLast? = some jumpsB := fun e => by
      obtain ⟨t, ht, e'⟩ := List.mem_map.1 (List.mem_of_getLast? e)
      exact jumps_no (by rw [← e']; exact endsDig_type (h.ids t ht))
    rw [if_neg e3, hid, hr, decide_eq_false e3]
/-- What is made of what was read. -/
def fitsA (s : ByteArray) (a : Are) : Are × Nat := if showRes a = (s, 0) then (a, 0) else (noAre, 4)
def readRes (s : ByteArray) : Are × Nat := fitsA s (readAr s)
theorem showRes_ok {a : Are} {s : ByteArray} (h : showRes a = (s, 0)) : checkOf a = 0 ∧ showB a = s := by
  unfold showRes at h
  split at h
  · rename_i hk
    exact ⟨hk, congrArg Prod.fst h⟩
  · rename_i hk
    exact absurd (congrArg Prod.snd h) hk
/-- Both ways of reading come to the same. -/
theorem fits_both (s : ByteArray) : fitsA s (refAr s) = readRes s := by
  unfold readRes fitsA
  by_cases h1 : showRes (refAr s) = (s, 0)
  · obtain ⟨k1, k2⟩ := showRes_ok h1
    have e := readAr_show (areR_of_right (right_of_check k1))
    rw [k2] at e
    rw [e]
  · rw [if_neg h1]
    by_cases h2 : showRes (readAr s) = (s, 0)
    · obtain ⟨k1, k2⟩ := showRes_ok h2
      have e := refAr_show (areR_of_right (right_of_check k1))
      rw [k2] at e
      rw [← e] at h2
      exact absurd h2 h1
    · rw [if_neg h2]
theorem readRes_show {a : Are} (h : checkOf a = 0) : readRes (showB a) = (a, 0) := by
  unfold readRes fitsA
  rw [readAr_show (areR_of_right (right_of_check h))]
  unfold showRes
  rw [if_pos h, if_pos rfl]
theorem readRes_ok {s : ByteArray} (h : (readRes s).2 = 0) : showB (readRes s).1 = s := by
  unfold readRes fitsA at h ⊢
  split at h
  · rename_i h1
    rw [if_pos h1]
    exact (showRes_ok h1).2
  · cases h
end Ar
end Go.Proofs.YtepdlghobopdbaaGreatDoor
