/-
  PLAIN: what leads from one text to another does so; the way back.
-/
import Derived.Test.YtchkngabppmbkaaDoorSpecH
import Derived.Test.YtchkngabppmbkaaDoorSpecI
namespace Go.Proofs.YtchkngabppmbkaaDoor.Lx

theorem cnt_all (p : Nat → Bool) : ∀ (f k i : Nat), k ≤ i → i < cnt p f k → p i = true
  | 0, k, i, h1, h2 => by rw [cnt] at h2; omega
  | f + 1, k, i, h1, h2 => by
    rw [cnt] at h2
    split at h2
    · rename_i hp
      by_cases e : k = i
      · subst e; exact hp
      · exact cnt_all p f (k + 1) i (by omega) h2
    · omega
theorem cnt_congr {p q : Nat → Bool} (h : ∀ i, p i = q i) (f k : Nat) : cnt p f k = cnt q f k := by rw [funext h]
theorem most_comm (a b : ByteArray) : most a b = most b a := Nat.min_comm _ _
theorem headLen_comm (a b : ByteArray) : headLen a b = headLen b a := by
  unfold headLen
  rw [most_comm]
  exact cnt_congr (fun i => by unfold headP; exact Bool.beq_comm) _ _
theorem tailLen_comm (a b : ByteArray) : tailLen a b = tailLen b a := by
  unfold tailLen
  rw [most_comm, headLen_comm]
  exact cnt_congr (fun i => by unfold tailP; exact Bool.beq_comm) _ _

theorem get_of_byteAt {a b : ByteArray} {i j : Nat} (hi : i < a.size) (hj : j < b.size) (h : byteAt a i = byteAt b j) : a.data.toList[i]? = b.data.toList[j]? := by
  unfold byteAt at h
  rw [List.getElem?_eq_getElem (by simpa using hi), List.getElem?_eq_getElem (by simpa using hj)] at h ⊢
  simpa using h
theorem head_same (a b : ByteArray) : (a.extract 0 (headLen a b)).data.toList = (b.extract 0 (headLen a b)).data.toList := by
  have hle := headLen_le a b
  have h1 : headLen a b ≤ a.size := Nat.le_trans hle (Nat.min_le_left _ _)
  have h2 : headLen a b ≤ b.size := Nat.le_trans hle (Nat.min_le_right _ _)
  apply List.ext_getElem?
  intro i
  rw [extract_toList, extract_toList, List.drop_zero, List.drop_zero, Nat.sub_zero]
  by_cases hi : i < headLen a b
  · rw [List.getElem?_take_of_lt hi, List.getElem?_take_of_lt hi]
    have hp := cnt_all (headP a b) (most a b) 0 i (Nat.zero_le _) hi
    exact get_of_byteAt (by omega) (by omega) (by simpa [headP] using hp)
  · rw [List.getElem?_eq_none (by simp; omega), List.getElem?_eq_none (by simp; omega)]
theorem tail_same (a b : ByteArray) : (a.extract (a.size - tailLen a b) a.size).data.toList = (b.extract (b.size - tailLen a b) b.size).data.toList := by
  have hle := tailLen_le a b
  have h1 : most a b ≤ a.size := Nat.min_le_left _ _
  have h2 : most a b ≤ b.size := Nat.min_le_right _ _
  apply List.ext_getElem?
  intro i
  rw [extract_toList, extract_toList]
  by_cases hi : i < tailLen a b
  · rw [List.getElem?_take_of_lt (by omega), List.getElem?_take_of_lt (by omega), List.getElem?_drop, List.getElem?_drop]
    have hp := cnt_all (tailP a b) (most a b - headLen a b) 0 (tailLen a b - 1 - i) (Nat.zero_le _) (by unfold tailLen at hi ⊢; omega)
    have hb : byteAt a (a.size - 1 - (tailLen a b - 1 - i)) = byteAt b (b.size - 1 - (tailLen a b - 1 - i)) := by simpa [tailP] using hp
    rw [show a.size - tailLen a b + i = a.size - 1 - (tailLen a b - 1 - i) by omega, show b.size - tailLen a b + i = b.size - 1 - (tailLen a b - 1 - i) by omega]
    exact get_of_byteAt (by omega) (by omega) hb
  · rw [List.getElem?_eq_none (by simp; omega), List.getElem?_eq_none (by simp; omega)]

theorem diffOf_ok {a b : ByteArray} (h : (diffOf a b).2 = 0) : (textErr a).2 = 0 ∧ (textErr b).2 = 0 ∧ ((a = b ∧ (diffOf a b).1 = []) ∨ (a ≠ b ∧ (diffOf a b).1 = [diffSpl a b])) := by
  unfold diffOf at h ⊢
  split at h
  · rename_i h1; exact absurd h h1
  · rename_i h1
    rw [if_neg h1]
    split at h
    · rename_i h2; exact absurd h h2
    · rename_i h2
      rw [if_neg h2]
      refine ⟨by omega, by omega, ?_⟩
      by_cases e : a = b
      · rw [if_pos e]; exact .inl ⟨e, rfl⟩
      · rw [if_neg e]; exact .inr ⟨e, rfl⟩
theorem diffOf_back {a b : ByteArray} (h : (diffOf a b).2 = 0) : (diffOf b a).2 = 0 := by
  obtain ⟨h1, h2, _⟩ := diffOf_ok h
  unfold diffOf
  rw [if_neg (by omega), if_neg (by omega)]
  split <;> rfl
theorem changes_one {s : ByteArray} {x : Spl} (ht : (textErr s).2 = 0) (h0 : 0 ≤ x.lo) (h1 : x.lo ≤ x.hi) (h2 : x.hi ≤ s.size) (hb : badText x = false) (h3 : s.size + growBy s x ≤ 2500) : changesOf s [x] = (chgs s 0 [x], 0) := by
  unfold changesOf
  have hr : rightFrom s.size 0 [x] = true := by
    simp only [rightFrom, decide_eq_false (show ¬ x.lo < 0 by omega), decide_eq_false (show ¬ x.hi < x.lo by omega), decide_eq_false (show ¬ (s.size : Int) < x.hi by omega)]
    rfl
  rw [if_neg (by omega), if_neg (by simp), if_neg (by simp [hr]), if_neg (by simp [hb]), if_neg (by simp only [grow]; omega)]
theorem changes_none {s : ByteArray} (ht : (textErr s).2 = 0) : changesOf s [] = ([], 0) := by
  unfold changesOf
  have := textErr_le ht
  rw [if_neg (by omega), if_neg (by simp), if_neg (by simp [rightFrom]), if_neg (by simp), if_neg (by simp only [grow]; omega)]
  rfl

theorem difference {a b : ByteArray} (h : (diffOf a b).2 = 0) : applyOf a (diffOf a b).1 = (b, 0) ∧ undoOf a (diffOf a b).1 = ((diffOf b a).1, 0) := by
  obtain ⟨ha, hb, hc⟩ := diffOf_ok h
  obtain ⟨hb2, ha2, hc2⟩ := diffOf_ok (diffOf_back h)
  rcases hc with ⟨rfl, hl⟩ | ⟨hne, hl⟩
  · have hl2 : (diffOf a a).1 = [] := hl
    rw [hl]
    unfold applyOf undoOf
    rw [changes_none ha]
    refine ⟨?_, by simp [chgs]⟩
    simp [spliceOut]
  · have hl2 : (diffOf b a).1 = [diffSpl b a] := by
      rcases hc2 with ⟨e, _⟩ | ⟨_, e⟩
      · exact absurd e.symm hne
      · exact e
    rw [hl, hl2]
    obtain ⟨sa, ta⟩ := textErr_all ha
    obtain ⟨sb, tb⟩ := textErr_all hb
    have hle := tailLen_le a b
    have h1 : most a b ≤ a.size := Nat.min_le_left _ _
    have h2 : most a b ≤ b.size := Nat.min_le_right _ _
    have hts : (diffSpl a b).text.size = b.size - tailLen a b - headLen a b := by unfold diffSpl; simp only; rw [ByteArray.size_extract]; omega
    have hlo : (diffSpl a b).lo = headLen a b := rfl
    have hhi : (diffSpl a b).hi = (a.size : Int) - tailLen a b := rfl
    have htx : (diffSpl a b).text = b.extract (headLen a b) (b.size - tailLen a b) := rfl
    have hos := outOf_size (s := a) (x := diffSpl a b) (by omega) (by omega) (by omega)
    have hch := changes_one ha (x := diffSpl a b) (by omega) (by omega) (by omega) (badText_none (by rw [htx]; exact allText_extract tb _ _)) (by unfold growBy; omega)
    unfold applyOf undoOf
    rw [hch]
    constructor
    · rw [if_neg (by simp)]
      congr 1
      apply ByteArray.ext
      apply Array.toList_inj.1
      simp only [spliceOut]
      have e3 : ((a.size : Int) - tailLen a b).toNat = a.size - tailLen a b := by omega
      rw [hlo, hhi, htx, e3, Int.toNat_natCast, show (Int.toNat 0) = 0 from rfl, head_same, tail_same]
      rw [drop_split b _ _ (by omega) (by omega), drop_split b _ _ (by omega) (by omega)]
      simp
    · rw [if_neg (by simp)]
      have e3 : ((a.size : Int) - tailLen a b).toNat = a.size - tailLen a b := by omega
      have e4 : outOf a (diffSpl a b) = (diffSpl b a).text := by
        show a.extract (Int.toNat (headLen a b : Int)) ((a.size : Int) - tailLen a b).toNat = a.extract (headLen b a) (a.size - tailLen b a)
        rw [e3, headLen_comm b a, tailLen_comm b a]; rfl
      have e5 : (diffSpl a b).lo + 0 = (diffSpl b a).lo := by
        show (headLen a b : Int) + 0 = (headLen b a : Int)
        rw [headLen_comm b a]; omega
      have e6 : (diffSpl a b).lo + 0 + (diffSpl a b).text.size = (diffSpl b a).hi := by
        show (headLen a b : Int) + 0 + (diffSpl a b).text.size = (b.size : Int) - tailLen b a
        rw [tailLen_comm b a, hts]; omega
      have e7 : Chg.back { spl := diffSpl a b, pos := (diffSpl a b).lo + 0, out := outOf a (diffSpl a b) } = diffSpl b a := by
        show Spl.mk ((diffSpl a b).lo + 0) ((diffSpl a b).lo + 0 + (diffSpl a b).text.size) (outOf a (diffSpl a b)) = diffSpl b a
        rw [e6, e5, e4]
      simp only [chgs, List.map_cons, List.map_nil, e7]
end Go.Proofs.YtchkngabppmbkaaDoor.Lx
