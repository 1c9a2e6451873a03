/-
  PLAIN: the text of a move is read again, by the program's way of reading.
-/
import Derived.Test.YtepdlghobopdbaaGreatDoorBh
namespace Go.Proofs.YtepdlghobopdbaaGreatDoor
open Go.RowKit Go.MapKept Go.Shelf
namespace Ar
theorem ofNat_toNat {n : Nat} (h : n < 256) : (UInt8.ofNat n).toNat = n := by
  rw [UInt8.toNat_ofNat']
  exact Nat.mod_eq_of_lt h
theorem dec_digit : ∀ (n : Nat), ∀ b ∈ Lib.decDigits n, 48 ≤ b.toNat ∧ b.toNat ≤ 57 := by
  intro n
  induction n using Nat.strongRecOn with
  | ind n ih =>
    intro b hb
    rw [Lib.decDigits] at hb
    split at hb
    · obtain rfl := List.mem_singleton.1 hb
      rw [ofNat_toNat (by omega)]
      omega
    · rcases List.mem_append.1 hb with hb | hb
      · exact ih (n / 10) (by omega) b hb
      · obtain rfl := List.mem_singleton.1 hb
        rw [ofNat_toNat (by omega)]
        omega
theorem dec_ne (n : Nat) : Lib.decDigits n ≠ [] := by
  intro h
  have h1 := Lib.decDigits_length n
  have h2 := Lib.nDigits_pos n
  rw [h, List.length_nil] at h1
  omega
theorem parse_append : ∀ (l : List UInt8) (acc u d : Nat), Lib.parseUint10 acc l = .ok u → d < 10 → u * 10 + d < 18446744073709551616 → Lib.parseUint10 acc (l ++ [UInt8.ofNat (48 + d)]) = .ok (u * 10 + d)
  | [], acc, u, d, h, hd, hu => by
    simp only [Lib.parseUint10] at h
    injection h with h
    subst h
    have e : (UInt8.ofNat (48 + d)).toNat = 48 + d := ofNat_toNat (by omega)
    rw [List.nil_append, Lib.parseUint10, e, if_pos (by omega), if_neg (by omega), if_neg (by omega), Lib.parseUint10]
    congr 1
    omega
  | c :: r, acc, u, d, h, hd, hu => by
    rw [List.cons_append, Lib.parseUint10]
    rw [Lib.parseUint10] at h
    split at h
    · rename_i h1
      rw [if_pos h1]
      split at h
      · cases h
      · rename_i h2
        rw [if_neg h2]
        split at h
        · cases h
        · rename_i h3
          rw [if_neg h3]
          exact parse_append r _ u d h hd hu
    · cases h
theorem parse_dec : ∀ (n : Nat), n < 18446744073709551616 → Lib.parseUint10 0 (Lib.decDigits n) = .ok n := by
  intro n
  induction n using Nat.strongRecOn with
  | ind n ih =>
    intro hn
    rw [Lib.decDigits]
    split
    · have := parse_append [] 0 0 n rfl (by omega) (by omega)
      simpa using this
    · have := parse_append (Lib.decDigits (n / 10)) 0 (n / 10) (n % 10) (ih (n / 10) (by omega) (by omega)) (by omega) (by omega)
      rwa [show n / 10 * 10 + n % 10 = n by omega] at this
theorem atoi_dec {n : Nat} (h : n ≤ 9223372036854775807) : Lib.atoiAll (Lib.decDigits n) = .ok (n : Int) := by
  have hp := parse_dec n (by omega)
  obtain ⟨c, r, e⟩ : ∃ c r, Lib.decDigits n = c :: r := by
    cases hd : Lib.decDigits n with
    | nil => exact absurd hd (dec_ne n)
    | cons c r => exact ⟨c, r, rfl⟩
  obtain ⟨c1, c2⟩ := dec_digit n c (by rw [e]; exact List.mem_cons_self)
  rw [e, Lib.atoiAll_plain c r (by omega) (by omega)]
  rw [e] at hp
  unfold Lib.parseMag
  rw [if_neg (by simp), hp]
  show (if 9223372036854775808 ≤ n then Lib.NumEnd.range else .ok (n : Int)) = _
  rw [if_neg (by omega)]
theorem itoa_list {n : Int} (h : 0 ≤ n) : (itoaB n).data.toList = Lib.decDigits n.toNat := by
  unfold itoaB Lib.itoa
  rw [if_neg (by omega)]
theorem numOf_itoa {n : Int} (h0 : 0 ≤ n) (h1 : n ≤ 9223372036854775807) : numOf (itoaB n) = n := by
  unfold numOf
  rw [itoa_list h0, atoi_dec (n := n.toNat) (by omega)]
  show ((n.toNat : Nat) : Int) = n
  omega
theorem numOf_nil : numOf ⟨#[]⟩ = 0 := rfl
theorem itoa_digit {n : Int} (h : 0 ≤ n) : ∀ b ∈ (itoaB n).data.toList, 48 ≤ b.toNat ∧ b.toNat ≤ 57 := by
  rw [itoa_list h]
  exact dec_digit _
theorem itoa_not {n : Int} (h : 0 ≤ n) {c : UInt8} (hc : c.toNat < 48 ∨ 57 < c.toNat) : c ∉ (itoaB n).data.toList := fun hm => by
  have := itoa_digit h c hm
  omega
theorem index_out : ∀ {x : List UInt8} {c : UInt8}, c ∉ x → Lib.indexByte x c = -1
  | [], _, _ => rfl
  | b :: x, c, h => by
    unfold Lib.indexByte
    rw [if_neg (by
      intro e
      rw [beq_iff_eq] at e
      exact h (by rw [e]; exact List.mem_cons_self)), index_out (fun hm => h (List.mem_cons_of_mem _ hm))]
    rfl
theorem index_split : ∀ {x : List UInt8} {c : UInt8} (y : List UInt8), c ∉ x → Lib.indexByte (x ++ c :: y) c = x.length
  | [], c, y, _ => by
    unfold Lib.indexByte
    rw [List.nil_append]
    simp
  | b :: x, c, y, h => by
    have ih := index_split y (fun hm => h (List.mem_cons_of_mem b hm) : c ∉ x)
    rw [List.cons_append]
    unfold Lib.indexByte
    rw [if_neg (by
      intro e
      rw [beq_iff_eq] at e
      exact h (by rw [e]; exact List.mem_cons_self)), ih, if_neg (by rw [beq_iff_eq]; omega), List.length_cons]
    omega
end Ar
theorem cut_out {x : ByteArray} {c : UInt8} (h : c ∉ x.data.toList) : cutOf x c = (x, ⟨#[]⟩) := by
  unfold cutOf
  rw [Ar.index_out h, if_neg (by omega)]
theorem cut_split {x : ByteArray} {c : UInt8} (y : ByteArray) (h : c ∉ x.data.toList) : cutOf (x ++ ⟨#[c]⟩ ++ y) c = (x, y) := by
  have e : (x ++ ⟨#[c]⟩ ++ y).data.toList = x.data.toList ++ c :: y.data.toList := by
    rw [ByteArray.data_append, ByteArray.data_append]
    simp
  have hl : x.data.toList.length = x.size := rfl
  unfold cutOf
  rw [e, Ar.index_split _ h, if_pos (by omega)]
  have e1 : (x ++ ⟨#[c]⟩ ++ y).size = x.size + 1 + y.size := by
    rw [ByteArray.size_append, ByteArray.size_append]; rfl
  refine Prod.ext ?_ ?_
  · apply ByteArray.ext
    apply Array.toList_inj.1
    rw [ByteArray.data_extract, Array.toList_extract, e]
    simp [hl]
  · apply ByteArray.ext
    apply Array.toList_inj.1
    show ((x ++ ⟨#[c]⟩ ++ y).extract _ _).data.toList = _
    rw [ByteArray.data_extract, Array.toList_extract, e, e1]
    simp [hl]
    rw [show x.data.toList ++ c :: y.data.toList = (x.data.toList ++ [c]) ++ y.data.toList by simp, List.drop_left' (by simp [hl]), List.take_of_length_le (show y.data.toList.length ≤ y.size from Nat.le_refl _)]
namespace Ar
theorem place_not {m : Mv} (h1 : 0 ≤ m.id) (h2 : 0 ≤ m.arg) {c : UInt8} (hc : c.toNat < 46 ∨ 57 < c.toNat) : c ∉ (placeT m).data.toList := by
  unfold placeT
  split
  · intro hm
    have e : (itoaB m.id ++ (⟨#[46]⟩ ++ itoaB m.arg)).data.toList = (itoaB m.id).data.toList ++ 46 :: (itoaB m.arg).data.toList := by
      rw [ByteArray.data_append, ByteArray.data_append]
      simp
    rw [e] at hm
    rcases List.mem_append.1 hm with hm | hm
    · exact itoa_not h1 (by omega) hm
    · rcases List.mem_cons.1 hm with rfl | hm
      · have : (46 : UInt8).toNat = 46 := rfl
        omega
      · exact itoa_not h2 (by omega) hm
  · exact itoa_not h1 (by omega)
theorem star_not {n : Int} (h : 0 ≤ n) : itoaB n ≠ ⟨#[42]⟩ := fun e => by
  have := itoa_digit h 42 (by rw [e]; exact List.mem_singleton.2 rfl)
  have e : (42 : UInt8).toNat = 42 := rfl
  omega
theorem sign_byte {k : Int} (hk : isKind k) : (sg k).toNat < 46 ∨ 57 < (sg k).toNat := by
  rcases hk with rfl | rfl | rfl <;> decide
theorem sign_text {m : Mv} (hk : isKind m.kind) : signT m = ⟨#[sg m.kind]⟩ := by
  unfold signT sg
  rcases hk with h | h | h <;> rw [h] <;> rfl
/-- The text of a move is read as this move. -/
theorem read_back {m : Mv} (h : hasText m = true) (hm : MvOk m) : readMv (textOf m) m.kind (sg m.kind) = m := by
  obtain ⟨p1, p2, hk, p4⟩ := hasText_parts h
  obtain ⟨_, b1, _, b2, _, b3⟩ := hm
  have hc : cutOf (textOf m) (sg m.kind) = (placeT m, valueT m) := by
    unfold textOf
    rw [sign_text hk]
    exact cut_split _ (place_not p1 p2 (sign_byte hk))
  unfold readMv
  rw [hc]
  simp only
  have hp : cutOf (placeT m) 46 = (itoaB m.id, if 0 < m.arg then itoaB m.arg else ⟨#[]⟩) := by
    unfold placeT
    split
    · have e : itoaB m.id ++ (⟨#[46]⟩ ++ itoaB m.arg) = itoaB m.id ++ ⟨#[46]⟩ ++ itoaB m.arg := (ByteArray.append_assoc).symm
      rw [e]
      exact cut_split _ (itoa_not p1 (by decide))
    · exact cut_out (itoa_not p1 (by decide))
  rw [hp]
  simp only
  have ha : numOf (if 0 < m.arg then itoaB m.arg else ⟨#[]⟩) = m.arg := by
    split
    · exact numOf_itoa p2 b2
    · rw [numOf_nil]; omega
  have hv : (if valueT m = ⟨#[42]⟩ then -1 else numOf (valueT m)) = m.n := by
    unfold hasText at h
    rw [if_neg (by omega)] at h
    unfold valueT
    by_cases k1 : m.kind = 1
    · rw [if_pos k1] at h ⊢
      have hn := of_decide_eq_true h
      rw [if_neg (by intro e; have := congrArg ByteArray.size e; cases this), numOf_nil, hn]
    · rw [if_neg k1]
      by_cases hn : m.n = -1
      · rw [if_pos hn, if_pos rfl, hn]
      · have h0 : 0 ≤ m.n := by omega
        rw [if_neg hn, if_neg (star_not h0), numOf_itoa h0 b3]
  rw [numOf_itoa p1 b1, ha, hv]
end Ar
end Go.Proofs.YtepdlghobopdbaaGreatDoor
