/-
  PLAIN: tokens stand in order; a text in which a name is another one.
-/
import Derived.Test.YtchkngabppmbkaaDoorSpecF
namespace Go.Proofs.YtchkngabppmbkaaDoor.Lx

def inOrder (n : Nat) : Nat → List Item → Prop
  | _, [] => True
  | k, x :: xs => k ≤ x.pos ∧ x.pos + x.text.size ≤ n ∧ inOrder n (x.pos + x.text.size) xs
theorem inOrder_mono {n : Nat} : ∀ {l : List Item} {k k' : Nat}, inOrder n k' l → k ≤ k' → inOrder n k l
  | [], _, _, _, _ => trivial
  | _ :: _, _, _, h, hk => ⟨Nat.le_trans hk h.1, h.2⟩
theorem piecesFrom_order (s : ByteArray) : ∀ (f k : Nat), inOrder s.size k (piecesFrom s f k)
  | 0, _ => trivial
  | f + 1, k => by
    unfold piecesFrom
    split
    · rename_i hk
      split
      · exact inOrder_mono (piecesFrom_order s f (k + 1)) (by omega)
      · have ha := after_gt hk
        have hp : (itemAt s k).pos = k := rfl
        have hle : (itemAt s k).pos + (itemAt s k).text.size ≤ after (itemAt s k) := by unfold after; omega
        exact ⟨by omega, by omega, inOrder_mono (piecesFrom_order s f _) hle⟩
    · trivial
theorem inOrder_filter {n : Nat} (p : Item → Bool) : ∀ {l : List Item} {k : Nat}, inOrder n k l → inOrder n k (l.filter p)
  | [], _, _ => trivial
  | x :: xs, k, h => by
    rw [List.filter_cons]
    split
    · exact ⟨h.1, h.2.1, inOrder_filter p h.2.2⟩
    · exact inOrder_mono (inOrder_filter p h.2.2) (by have := h.1; omega)
theorem tokScan_ok : ∀ (l acc : List Item), acc.length ≤ 900 → (tokScan acc l).2.2 = 0 → (tokScan acc l).1 = acc ++ l.filter isTok ∧ (tokScan acc l).1.length ≤ 900
  | [], acc, h9, _ => by simpa [tokScan] using h9
  | x :: xs, acc, h9, h => by
    by_cases h5 : x.kind = 5
    · rw [scan_note xs h5] at h ⊢
      have := tokScan_ok xs acc h9 h
      rw [List.filter_cons, if_neg (by simp [isTok, h5])]; exact this
    · by_cases he : x.err = 0
      · by_cases hf : acc.length = 900
        · rw [scan_full xs h5 he hf] at h; cases h
        · rw [scan_tok xs h5 he hf] at h ⊢
          have := tokScan_ok xs (acc ++ [x]) (by rw [List.length_append, List.length_singleton]; omega) h
          rw [List.filter_cons, if_pos (by simp [isTok, h5])]
          exact ⟨by rw [this.1]; simp, this.2⟩
      · rw [scan_err xs h5 he] at h; exact absurd h he
theorem tokScan_bad : ∀ (l acc : List Item), (tokScan acc l).2.2 ≠ 0 → (tokScan acc l).1 = []
  | [], acc, h => by simp [tokScan] at h
  | x :: xs, acc, h => by
    by_cases h5 : x.kind = 5
    · rw [scan_note xs h5] at h ⊢; exact tokScan_bad xs acc h
    · by_cases he : x.err = 0
      · by_cases hf : acc.length = 900
        · rw [scan_full xs h5 he hf]
        · rw [scan_tok xs h5 he hf] at h ⊢; exact tokScan_bad xs _ h
      · rw [scan_err xs h5 he]
theorem tokensOf_bad {s : ByteArray} (h : (tokensOf s).2.2 ≠ 0) : (tokensOf s).1 = [] := by
  unfold tokensOf at h ⊢
  split
  · rfl
  · rename_i h1
    rw [if_neg h1] at h
    exact tokScan_bad _ _ h
theorem tokensOf_ok {s : ByteArray} (h : (tokensOf s).2.2 = 0) : s.size ≤ 2500 ∧ (textErr s).2 = 0 ∧ (tokensOf s).1 = (pieces s).filter isTok ∧ (tokensOf s).1.length ≤ 900 ∧ inOrder s.size 0 (tokensOf s).1 := by
  unfold tokensOf at h ⊢
  split at h
  · rename_i h1; exact absurd h h1
  · rename_i h1
    rw [if_neg h1]
    have h2 := tokScan_ok (pieces s) [] (by simp) h
    have h3 : (tokScan [] (pieces s)).1 = (pieces s).filter isTok := by rw [h2.1]; rfl
    have h4 : (textErr s).2 = 0 := by omega
    have h5 : s.size ≤ 2500 := by
      unfold textErr at h4
      split at h4
      · cases h4
      · omega
    refine ⟨h5, h4, h3, h2.2, ?_⟩
    rw [h3]
    exact inOrder_filter _ (piecesFrom_order s _ _)

/-- Places at which m bytes stand, in order and apart. -/
def apart (n m : Int) : Int → List Int → Prop
  | _, [] => True
  | q, p :: ps => q ≤ p ∧ p + m ≤ n ∧ apart n m (p + m) ps
theorem apart_mono {n m : Int} : ∀ {l : List Int} {q q' : Int}, apart n m q' l → q ≤ q' → apart n m q l
  | [], _, _, _, _ => trivial
  | _ :: _, _, _, h, hk => ⟨by have := h.1; omega, h.2⟩
theorem places_apart (n : Nat) (t : Tk) : ∀ (l : List Item) (k : Nat), inOrder n k l → apart n t.text.size k (placesOf t (l.map Item.tk))
  | [], _, _ => trivial
  | x :: xs, k, h => by
    have ih := places_apart n t xs _ h.2.2
    rw [placesOf, List.map_cons, List.filter_cons]
    split
    · rename_i hc
      have hx : x.text = t.text := by simpa [Item.tk] using (of_decide_eq_true hc).2
      have h1 := h.1; have h2 := h.2.1
      rw [hx] at h2 ih
      refine ⟨by show (k : Int) ≤ (x.pos : Int); omega, by show (x.pos : Int) + _ ≤ _; omega, ?_⟩
      exact apart_mono ih (by show (x.pos : Int) + _ ≤ _; omega)
    · have h1 := h.1
      exact apart_mono ih (by omega)

def renOut (s name : ByteArray) (m : Int) : Int → List Int → List UInt8
  | q, [] => (s.extract q.toNat s.size).data.toList
  | q, p :: ps => (s.extract q.toNat p.toNat).data.toList ++ (name.data.toList ++ renOut s name m (p + m) ps)
def nameTk (t : ByteArray) : Tk := ⟨1, t, 0⟩
def toksOf (s : ByteArray) : List Tk := (tokensOf s).1.map Item.tk
def renameOf (s old name : ByteArray) : ByteArray × Nat :=
  if (tokensOf s).2.2 ≠ 0 then (⟨#[]⟩, (tokensOf s).2.2)
  else if [nameTk old, nameTk name].all tokOk = false then (⟨#[]⟩, 2)
  else if (placesOf (nameTk old) (toksOf s)).length = 0 then (⟨#[]⟩, 7)
  else if 0 < (placesOf (nameTk name) (toksOf s)).length then (⟨#[]⟩, 6)
  else if 2500 < (s.size : Int) + (placesOf (nameTk old) (toksOf s)).length * ((name.size : Int) - old.size) then (⟨#[]⟩, 5)
  else (⟨(renOut s name old.size 0 (placesOf (nameTk old) (toksOf s))).toArray⟩, 0)
end Go.Proofs.YtchkngabppmbkaaDoor.Lx
