/-
  PLAIN: a text cut and split at a separator; the text of an arena is read again, by the program's way of reading.
-/
import Derived.Test.YtepdlghobopdbaaGreatDoorFp
import Derived.Test.YtepdlghobopdbaaGreatDoorBn
import Derived.Lib.SplitLaws
namespace Go.Proofs.YtepdlghobopdbaaGreatDoor
namespace Ar
theorem index_at {c : UInt8} {t x : List UInt8} (y : List UInt8) (h : c ∉ x) : Lib.index (x ++ c :: t ++ y) (c :: t) = x.length := by
  refine Lib.index_first (by simp) ?_ (fun j hj => ?_)
  · unfold Lib.occAt
    rw [List.append_assoc, List.drop_left' rfl]
    exact List.isPrefixOf_iff_prefix.2 (List.prefix_append _ _)
  · cases ho : Lib.occAt (x ++ c :: t ++ y) (c :: t) j with
    | false => rfl
    | true =>
      have h1 := Lib.occAt_head rfl ho
      rw [List.append_assoc, List.getElem?_append_left hj] at h1
      exact absurd (List.mem_of_getElem? h1) h
theorem index_not {c : UInt8} {t x : List UInt8} (h : c ∉ x) : Lib.index x (c :: t) = -1 := Lib.index_none (fun j _ => by
  cases ho : Lib.occAt x (c :: t) j with
  | false => rfl
  | true => exact absurd (List.mem_of_getElem? (Lib.occAt_head rfl ho)) h)
theorem drop_at {x s y : List UInt8} : (x ++ s ++ y).drop (x.length + s.length) = y := by
  rw [← List.length_append]; exact List.drop_left' rfl
theorem cut_at {c : UInt8} {t x : List UInt8} (y : List UInt8) (h : c ∉ x) : Lib.cut (x ++ c :: t ++ y) (c :: t) = (x, y, true) := by
  unfold Lib.cut
  rw [index_at y h, if_pos (by omega), Int.toNat_natCast, drop_at]
  rw [List.append_assoc, List.take_left' rfl]
theorem cut_not {c : UInt8} {t x : List UInt8} (h : c ∉ x) : Lib.cut x (c :: t) = (x, [], false) := by
  unfold Lib.cut
  rw [index_not h, if_neg (by omega)]
theorem split_at {c : UInt8} {t x : List UInt8} (y : List UInt8) (h : c ∉ x) : Lib.split (x ++ c :: t ++ y) (c :: t) = x :: Lib.split y (c :: t) := by
  unfold Lib.split
  rw [Lib.count_hit (by simp) (index_at y h), drop_at, Nat.add_comm 1, Lib.splitK, index_at y h, if_neg (by rw [beq_iff_eq]; omega), Int.toNat_natCast, drop_at]
  rw [Nat.add_zero, List.append_assoc, List.take_left' rfl]
theorem split_not {c : UInt8} {t x : List UInt8} (h : c ∉ x) : Lib.split x (c :: t) = [x] := by
  unfold Lib.split
  rw [Lib.count_miss (index_not h), Lib.splitK]
theorem split_join {c : UInt8} {t : List UInt8} : ∀ l : List (List UInt8), (∀ x ∈ l, c ∉ x) → l ≠ [] → Lib.split (Lib.join l (c :: t)) (c :: t) = l
  | [], _, h => absurd rfl h
  | [x], h, _ => by rw [Lib.join_one]; exact split_not (h x (by simp))
  | x :: y :: l, h, _ => by
    have e : Lib.join (x :: y :: l) (c :: t) = x ++ c :: t ++ Lib.join (y :: l) (c :: t) := by
      rw [Lib.join_cons, Lib.join_cons]
      simp [Lib.joinTail]
    rw [e, split_at _ (h x (by simp)), split_join (y :: l) (fun z hz => h z (by simp [hz])) (by simp)]

/-- A text split at a separator. -/
def splitBs (s sep : ByteArray) : List ByteArray := Lib.splitB sep 0 (Lib.countB s sep) s
/-- A text cut at a separator. -/
def cutBs (s sep : ByteArray) : ByteArray × ByteArray × Bool := (⟨(Lib.cut s.data.toList sep.data.toList).1.toArray⟩, ⟨(Lib.cut s.data.toList sep.data.toList).2.1.toArray⟩, (Lib.cut s.data.toList sep.data.toList).2.2)
theorem bytes_inj {x y : ByteArray} (h : x.data.toList = y.data.toList) : x = y := by
  apply ByteArray.ext; apply Array.toList_inj.1; exact h
theorem bytes_mk (x : ByteArray) : (⟨x.data.toList.toArray⟩ : ByteArray) = x := by apply ByteArray.ext; simp
theorem splitBs_list (s sep : ByteArray) : (splitBs s sep).map (·.data.toList) = Lib.split s.data.toList sep.data.toList := Lib.splitB_data sep 0 _ s
theorem joinB_list (l : List ByteArray) (sep : ByteArray) : (joinB l sep).data.toList = Lib.join (l.map (·.data.toList)) sep.data.toList := by
  unfold joinB; rw [List.toList_toArray]
theorem splitBs_join {c : UInt8} {t : List UInt8} {l : List ByteArray} {sep : ByteArray} (hs : sep.data.toList = c :: t) (h : ∀ x ∈ l, c ∉ x.data.toList) (hne : l ≠ []) : splitBs (joinB l sep) sep = l := by
  refine (List.map_inj_right (f := fun x : ByteArray => x.data.toList) (fun _ _ => bytes_inj)).1 ?_
  rw [splitBs_list, joinB_list, hs]
  exact split_join _ (fun x hx => by obtain ⟨y, hy, rfl⟩ := List.mem_map.1 hx; exact h y hy) (by simpa using hne)
theorem splitBs_ne (s sep : ByteArray) : ∃ x l, splitBs s sep = x :: l := by
  unfold splitBs
  cases h : Lib.countB s sep with
  | zero => exact ⟨_, _, rfl⟩
  | succ k => unfold Lib.splitB; split <;> exact ⟨_, _, rfl⟩
theorem splitB_size (sep : ByteArray) : ∀ (k : Nat) (s : ByteArray), ∀ x ∈ Lib.splitB sep 0 k s, x.size ≤ s.size
  | 0, s, x, hx => by rw [Lib.splitB_zero, List.mem_singleton] at hx; rw [hx]; exact Nat.le_refl _
  | k + 1, s, x, hx => by
    unfold Lib.splitB at hx
    split at hx
    · rw [List.mem_singleton] at hx; rw [hx]; exact Nat.le_refl _
    · rcases List.mem_cons.1 hx with rfl | hx
      · rw [ByteArray.size_extract]; omega
      · have := splitB_size sep k _ x hx
        rw [ByteArray.size_extract] at this; omega
theorem splitBs_size {s sep x : ByteArray} (h : x ∈ splitBs s sep) : x.size ≤ s.size := splitB_size sep _ s x h
theorem splitBs_len {s sep : ByteArray} (h : 1 ≤ sep.size) : (splitBs s sep).length ≤ s.size + 1 := by
  have h1 := Lib.splitB_all sep h 0 _ s rfl
  have h2 := Lib.countB_le sep h s.size s (Nat.le_refl _)
  unfold splitBs; omega
theorem cut_le (s sep : List UInt8) : (Lib.cut s sep).1.length ≤ s.length ∧ (Lib.cut s sep).2.1.length ≤ s.length := by
  unfold Lib.cut
  split
  · exact ⟨by simp only [List.length_take]; omega, by simp only [List.length_drop]; omega⟩
  · exact ⟨Nat.le_refl _, Nat.zero_le _⟩
theorem size_mk (l : List UInt8) : (⟨l.toArray⟩ : ByteArray).size = l.length := by show l.toArray.size = _; simp
theorem cutBs_size (s sep : ByteArray) : (cutBs s sep).1.size ≤ s.size ∧ (cutBs s sep).2.1.size ≤ s.size := by
  obtain ⟨h1, h2⟩ := cut_le s.data.toList sep.data.toList
  unfold cutBs
  exact ⟨by rw [size_mk]; exact h1, by rw [size_mk]; exact h2⟩

def readBs (s : ByteArray) : Bs := ⟨(cutBs s ⟨#[32]⟩).1.data.toList == [99, 101, 108, 108], numOf (cutBs s ⟨#[32]⟩).2.1⟩
def openB (s : ByteArray) : ByteArray := ⟨(Lib.trimPrefix s.data.toList [40]).toArray⟩
def readTy (s : ByteArray) : Ty :=
  if (cutBs (openB s) ⟨#[41, 32, 45, 62, 32]⟩).2.2 = true then ⟨(splitBs (cutBs (openB s) ⟨#[41, 32, 45, 62, 32]⟩).1 ⟨#[44, 32]⟩).map readBs, readBs (cutBs (openB s) ⟨#[41, 32, 45, 62, 32]⟩).2.1⟩ else ⟨[], readBs s⟩
def jumpsL : List UInt8 := [59, 32, 106, 117, 109, 112, 115]
def bodyB (s : ByteArray) : ByteArray := ⟨(Lib.trimSuffix s.data.toList jumpsL).toArray⟩
def readAr (s : ByteArray) : Are := ⟨((splitBs (bodyB s) ⟨#[59, 32]⟩).drop 1).map readTy, readBs ((splitBs (bodyB s) ⟨#[59, 32]⟩).headD ⟨#[]⟩), Lib.hasSuffix s.data.toList jumpsL⟩
theorem openB_size (s : ByteArray) : (openB s).size ≤ s.size := by
  unfold openB; rw [size_mk]; exact Lib.trimPrefix_le _ _
theorem bodyB_size (s : ByteArray) : (bodyB s).size ≤ s.size := by
  unfold bodyB; rw [size_mk]; exact Lib.trimSuffix_le _ _

theorem base_list (b : Bs) : (baseB b).data.toList = (if b.cell = true then [99, 101, 108, 108] else [105, 110, 116]) ++ 32 :: [] ++ (itoaB b.n).data.toList := by
  unfold baseB kindB
  rw [ByteArray.data_append]
  split <;> simp
theorem base_not {b : Bs} (h : 0 ≤ b.n) {c : UInt8} (hc : (c.toNat < 48 ∧ c ≠ 32) ∨ (57 < c.toNat ∧ c.toNat < 99)) : c ∉ (baseB b).data.toList := by
  have h99 : (99 : UInt8).toNat = 99 := rfl
  have h101 : (101 : UInt8).toNat = 101 := rfl
  have h108 : (108 : UInt8).toNat = 108 := rfl
  have h105 : (105 : UInt8).toNat = 105 := rfl
  have h110 : (110 : UInt8).toNat = 110 := rfl
  have h116 : (116 : UInt8).toNat = 116 := rfl
  have h32 : (32 : UInt8).toNat = 32 := rfl
  rw [base_list]
  intro hm
  rcases List.mem_append.1 hm with hm | hm
  · split at hm
    · simp only [List.cons_append, List.nil_append, List.mem_cons, List.not_mem_nil, or_false] at hm
      rcases hm with rfl | rfl | rfl | rfl | rfl <;> first | omega | (rcases hc with hc | hc; exact hc.2 rfl; omega)
    · simp only [List.cons_append, List.nil_append, List.mem_cons, List.not_mem_nil, or_false] at hm
      rcases hm with rfl | rfl | rfl | rfl <;> first | omega | (rcases hc with hc | hc; exact hc.2 rfl; omega)
  · exact itoa_not h (by omega) hm
theorem readBs_base {b : Bs} (h0 : 0 ≤ b.n) (h1 : b.n ≤ 9223372036854775807) : readBs (baseB b) = b := by
  have hc : cutBs (baseB b) ⟨#[32]⟩ = (⟨(if b.cell = true then [99, 101, 108, 108] else [105, 110, 116] : List UInt8).toArray⟩, itoaB b.n, true) := by
    unfold cutBs
    rw [base_list, cut_at (c := 32) (t := []) _ (by split <;> decide)]
  unfold readBs
  rw [hc]
  simp only [numOf_itoa h0 h1]
  obtain ⟨bc, bn⟩ := b
  cases bc <;> rfl
theorem mem_join {b : UInt8} {sep : List UInt8} : ∀ l : List (List UInt8), b ∈ Lib.join l sep → (∃ x ∈ l, b ∈ x) ∨ b ∈ sep
  | [], h => by cases h
  | [x], h => by rw [Lib.join_one] at h; exact .inl ⟨x, by simp, h⟩
  | x :: y :: l, h => by
    have e : Lib.join (x :: y :: l) sep = x ++ (sep ++ Lib.join (y :: l) sep) := by
      rw [Lib.join_cons, Lib.join_cons]
      simp [Lib.joinTail]
    rw [e] at h
    rcases List.mem_append.1 h with h | h
    · exact .inl ⟨x, by simp, h⟩
    · rcases List.mem_append.1 h with h | h
      · exact .inr h
      · rcases mem_join (y :: l) h with ⟨z, hz, hb⟩ | h
        · exact .inl ⟨z, by simp only [List.mem_cons] at hz ⊢; exact .inr hz, hb⟩
        · exact .inr h
theorem params_not {t : Ty} (h : ∀ b ∈ t.params, 0 ≤ b.n) {c : UInt8} (hc : (c.toNat < 44 ∧ c ≠ 32) ∨ (57 < c.toNat ∧ c.toNat < 99)) : c ∉ (joinB (t.params.map baseB) ⟨#[44, 32]⟩).data.toList := by
  rw [joinB_list]
  intro hm
  rcases mem_join _ hm with ⟨x, hx, hb⟩ | hb
  · rw [List.map_map] at hx
    obtain ⟨y, hy, rfl⟩ := List.mem_map.1 hx
    exact base_not (h y hy) (hc.elim (fun e => .inl ⟨by omega, e.2⟩) .inr) hb
  · have h44 : (44 : UInt8).toNat = 44 := rfl
    have h32 : (32 : UInt8).toNat = 32 := rfl
    simp only [List.mem_cons, List.not_mem_nil, or_false] at hb
    rcases hb with rfl | rfl
    · omega
    · rcases hc with hc | hc
      · exact hc.2 rfl
      · omega
theorem type_list {t : Ty} (h : t.params.length ≠ 0) : (typeB t).data.toList = 40 :: ((joinB (t.params.map baseB) ⟨#[44, 32]⟩).data.toList ++ 41 :: [32, 45, 62, 32] ++ (baseB t.result).data.toList) := by
  unfold typeB
  rw [if_neg h, ByteArray.data_append, ByteArray.data_append, ByteArray.data_append]
  simp
structure TyR (t : Ty) : Prop where
  params : ∀ b ∈ t.params, 0 ≤ b.n ∧ b.n ≤ 9223372036854775807
  result : 0 ≤ t.result.n ∧ t.result.n ≤ 9223372036854775807
theorem readTy_type {t : Ty} (h : TyR t) : readTy (typeB t) = t := by
  have hb0 := h.result
  by_cases h0 : t.params.length = 0
  · have hb : typeB t = baseB t.result := by unfold typeB; rw [if_pos h0]
    have hn : (40 : UInt8) ∉ (baseB t.result).data.toList := base_not hb0.1 (by decide)
    have ho : openB (baseB t.result) = baseB t.result := by
      unfold openB Lib.trimPrefix
      rw [if_neg, bytes_mk]
      unfold Lib.hasPrefix
      intro hp
      obtain ⟨r, hr⟩ := List.isPrefixOf_iff_prefix.1 hp
      exact hn (by rw [← hr]; simp)
    have hc : (cutBs (baseB t.result) ⟨#[41, 32, 45, 62, 32]⟩).2.2 = false := by
      unfold cutBs
      show (Lib.cut _ (41 :: [32, 45, 62, 32])).2.2 = false
      rw [cut_not (base_not hb0.1 (by decide))]
    unfold readTy
    rw [hb, ho, hc, if_neg (by decide), readBs_base hb0.1 hb0.2]
    obtain ⟨p, r⟩ := t
    simp only [List.length_eq_zero_iff] at h0
    rw [h0]
  · have ho : (openB (typeB t)).data.toList = (joinB (t.params.map baseB) ⟨#[44, 32]⟩).data.toList ++ 41 :: [32, 45, 62, 32] ++ (baseB t.result).data.toList := by
      unfold openB Lib.trimPrefix
      rw [List.toList_toArray, type_list h0]
      have : Lib.hasPrefix (40 :: ((joinB (t.params.map baseB) ⟨#[44, 32]⟩).data.toList ++ 41 :: [32, 45, 62, 32] ++ (baseB t.result).data.toList)) [40] = true := by
        unfold Lib.hasPrefix
        simp [List.isPrefixOf]
      rw [if_pos this]
      simp
    have hc : cutBs (openB (typeB t)) ⟨#[41, 32, 45, 62, 32]⟩ = (joinB (t.params.map baseB) ⟨#[44, 32]⟩, baseB t.result, true) := by
      unfold cutBs
      rw [ho]
      show (_, _, (Lib.cut _ (41 :: [32, 45, 62, 32])).2.2) = _
      rw [cut_at (c := 41) (t := [32, 45, 62, 32]) _ (params_not (fun b hb => (h.params b hb).1) (by decide))]
    unfold readTy
    rw [hc, if_pos rfl]
    simp only
    rw [splitBs_join (c := 44) (t := [32]) rfl (fun x hx => by
      obtain ⟨y, hy, rfl⟩ := List.mem_map.1 hx
      exact base_not (h.params y hy).1 (by decide)) (by
      intro e
      exact h0 (by rw [List.map_eq_nil_iff.1 e]; rfl)), readBs_base hb0.1 hb0.2, List.map_map]
    have : t.params.map (readBs ∘ baseB) = t.params := by
      conv => rhs; rw [← List.map_id t.params]
      exact List.map_congr_left (fun b hb => readBs_base (h.params b hb).1 (h.params b hb).2)
    rw [this]
theorem type_not {t : Ty} (h : TyR t) : (59 : UInt8) ∉ (typeB t).data.toList := by
  by_cases h0 : t.params.length = 0
  · unfold typeB
    rw [if_pos h0]
    exact base_not h.result.1 (by decide)
  · rw [type_list h0]
    intro hm
    rcases List.mem_cons.1 hm with e | hm
    · revert e; decide
    · rcases List.mem_append.1 hm with hm | hm
      · rcases List.mem_append.1 hm with hm | hm
        · exact params_not (fun b hb => (h.params b hb).1) (by decide) hm
        · revert hm; decide
      · exact base_not h.result.1 (by decide) hm

/-- A text that ends in a digit. -/
def endsDig (l : List UInt8) : Prop := ∃ x d, l = x ++ [d] ∧ 48 ≤ d.toNat ∧ d.toNat ≤ 57
theorem endsDig_app (x : List UInt8) {y : List UInt8} (h : endsDig y) : endsDig (x ++ y) := by
  obtain ⟨z, d, rfl, hd⟩ := h
  exact ⟨x ++ z, d, by simp, hd⟩
theorem endsDig_base {b : Bs} (h : 0 ≤ b.n) : endsDig (baseB b).data.toList := by
  rw [base_list]
  refine endsDig_app _ ?_
  have hne : (itoaB b.n).data.toList ≠ [] := by rw [itoa_list h]; exact dec_ne _
  refine ⟨_, _, (List.dropLast_concat_getLast hne).symm, ?_⟩
  exact itoa_digit h _ (List.getLast_mem hne)
theorem endsDig_type {t : Ty} (h : TyR t) : endsDig (typeB t).data.toList := by
  by_cases h0 : t.params.length = 0
  · unfold typeB
    rw [if_pos h0]
    exact endsDig_base h.result.1
  · rw [type_list h0, ← List.cons_append]
    exact endsDig_app _ (endsDig_base h.result.1)
theorem endsDig_join (sep : List UInt8) : ∀ l : List (List UInt8), (∀ x ∈ l, endsDig x) → l ≠ [] → endsDig (Lib.join l sep)
  | [], _, h => absurd rfl h
  | [x], h, _ => by rw [Lib.join_one]; exact h x (by simp)
  | x :: y :: l, h, _ => by
    have e : Lib.join (x :: y :: l) sep = (x ++ sep) ++ Lib.join (y :: l) sep := by
      rw [Lib.join_cons, Lib.join_cons]
      simp [Lib.joinTail]
    rw [e]
    exact endsDig_app _ (endsDig_join sep (y :: l) (fun z hz => h z (by simp only [List.mem_cons] at hz ⊢; exact .inr hz)) (by simp))
theorem endsDig_no {l : List UInt8} (h : endsDig l) : Lib.hasSuffix l jumpsL = false := by
  obtain ⟨x, d, rfl, h1, h2⟩ := h
  cases hs : Lib.hasSuffix (x ++ [d]) jumpsL with
  | false => rfl
  | true =>
    unfold Lib.hasSuffix at hs
    obtain ⟨r, hr⟩ := List.isSuffixOf_iff_suffix.1 hs
    have e := congrArg List.getLast? hr
    rw [List.getLast?_append, List.getLast?_append] at e
    have e2 : (115 : UInt8) = d := by simpa [jumpsL] using e
    subst e2
    have : (115 : UInt8).toNat = 115 := rfl
    omega
theorem join_snocL (sep x : List UInt8) : ∀ l : List (List UInt8), l ≠ [] → Lib.join (l ++ [x]) sep = Lib.join l sep ++ (sep ++ x)
  | [], h => absurd rfl h
  | [y], _ => by rw [Lib.join_one]; simp [Lib.join_cons, Lib.joinTail]
  | y :: z :: l, _ => by
    rw [List.cons_append, Lib.join_cons, Lib.join_cons]
    simp [Lib.joinTail]
/-- An arena whose numbers are none below 0. -/
structure AreR (a : Are) : Prop where
  root : 0 ≤ a.root.n ∧ a.root.n ≤ 9223372036854775807
  ids : ∀ t ∈ a.ids, TyR t
/-- The text of an arena is read as this arena. -/
theorem readAr_show {a : Are} (h : AreR a) : readAr (showB a) = a := by
  have hP : ∀ x ∈ [baseB a.root] ++ a.ids.map typeB, (59 : UInt8) ∉ x.data.toList ∧ endsDig x.data.toList := fun x hx => by
    rcases List.mem_append.1 hx with hx | hx
    · obtain rfl := List.mem_singleton.1 hx
      exact ⟨base_not h.root.1 (by decide), endsDig_base h.root.1⟩
    · obtain ⟨t, ht, rfl⟩ := List.mem_map.1 hx
      exact ⟨type_not (h.ids t ht), endsDig_type (h.ids t ht)⟩
  have hsp : splitBs (joinB ([baseB a.root] ++ a.ids.map typeB) ⟨#[59, 32]⟩) ⟨#[59, 32]⟩ = [baseB a.root] ++ a.ids.map typeB :=
    splitBs_join (c := 59) (t := [32]) rfl (fun x hx => (hP x hx).1) (by simp)
  have hbody : bodyB (showB a) = joinB ([baseB a.root] ++ a.ids.map typeB) ⟨#[59, 32]⟩ ∧ Lib.hasSuffix (showB a).data.toList jumpsL = a.jumps := by
    unfold bodyB showB partsB
    cases hj : a.jumps with
    | false =>
      have hd : Lib.hasSuffix (joinB ([baseB a.root] ++ a.ids.map typeB) ⟨#[59, 32]⟩).data.toList jumpsL = false := by
        refine endsDig_no ?_
        rw [joinB_list]
        exact endsDig_join _ _ (fun x hx => by obtain ⟨y, hy, rfl⟩ := List.mem_map.1 hx; exact (hP y hy).2) (by simp)
      rw [if_neg (by decide), List.append_nil]
      refine ⟨?_, hd⟩
      unfold Lib.trimSuffix
      rw [hd, if_neg (by decide), bytes_mk]
    | true =>
      rw [if_pos rfl]
      have e : (joinB ([baseB a.root] ++ a.ids.map typeB ++ [⟨#[106, 117, 109, 112, 115]⟩]) ⟨#[59, 32]⟩).data.toList = (joinB ([baseB a.root] ++ a.ids.map typeB) ⟨#[59, 32]⟩).data.toList ++ jumpsL := by
        rw [joinB_list, joinB_list, List.map_append, List.map_singleton, join_snocL _ _ _ (by simp)]
        rfl
      have hd : Lib.hasSuffix (joinB ([baseB a.root] ++ a.ids.map typeB ++ [⟨#[106, 117, 109, 112, 115]⟩]) ⟨#[59, 32]⟩).data.toList jumpsL = true := by
        rw [e]
        exact List.isSuffixOf_iff_suffix.2 (List.suffix_append _ _)
      refine ⟨?_, hd⟩
      unfold Lib.trimSuffix
      rw [hd, if_pos rfl, e, List.length_append, Nat.add_sub_cancel, List.take_left' rfl, bytes_mk]
  unfold readAr
  rw [hbody.1, hbody.2, hsp]
  have e1 : (([baseB a.root] ++ a.ids.map typeB).drop 1).map readTy = a.ids := by
    show (a.ids.map typeB).map readTy = a.ids
    rw [List.map_map]
    conv => rhs; rw [← List.map_id a.ids]
    exact List.map_congr_left (fun t ht => readTy_type (h.ids t ht))
  have e2 : readBs (([baseB a.root] ++ a.ids.map typeB).headD ⟨#[]⟩) = a.root := readBs_base h.root.1 h.root.2
  rw [e1, e2]
theorem areR_of_right {a : Are} (h : Right a) : AreR a :=
  ⟨by have := h.root; omega, fun t ht => ⟨fun b hb => by have := h.params t ht b hb; omega, by have := h.result t ht; omega⟩⟩
end Ar
end Go.Proofs.YtepdlghobopdbaaGreatDoor
