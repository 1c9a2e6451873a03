/-
  PLAIN: what leads back; where bytes go.
-/
import Derived.Test.YtchkngabppmbkaaDoorSpecE
namespace Go.Proofs.YtchkngabppmbkaaDoor.Lx

def Chg.back (c : Chg) : Spl := ⟨c.pos, c.pos + c.spl.text.size, c.out⟩
def undoOf (s : ByteArray) (l : List Spl) : List Spl × Nat := if (changesOf s l).2 ≠ 0 then ([], (changesOf s l).2) else ((chgs s 0 l).map Chg.back, 0)
def movedScan (p : Int) : Int → List Chg → Int × Nat
  | m, [] => (m, 0)
  | m, c :: cs => if c.spl.lo ≤ p ∧ p < c.spl.hi then (0, 7) else movedScan p (if c.spl.hi ≤ p then c.pos + c.spl.text.size + p - c.spl.hi else m) cs
def movedOf (s : ByteArray) (l : List Spl) (p : Int) : Int × Nat :=
  if (changesOf s l).2 ≠ 0 then (0, (changesOf s l).2) else if p < 0 ∨ (s.size : Int) < p then (0, 3) else movedScan p p (chgs s 0 l)

/-- Bounds of changes. -/
theorem chgs_bounds (s : ByteArray) (hs : s.size ≤ 2500) : ∀ {l : List Spl} {q g : Int}, rightFrom s.size q l = true → 0 ≤ q → (∀ x ∈ l, x.text.size ≤ 1099511627776) →
    ∀ c ∈ chgs s g l, 0 ≤ c.spl.lo ∧ c.spl.lo ≤ c.spl.hi ∧ c.spl.hi ≤ s.size ∧ c.spl.text.size ≤ 1099511627776 ∧ c.out.size ≤ 2500 ∧ g - 2500 * (l.length : Int) ≤ c.pos ∧ c.pos ≤ g + 2500 + 1099511627776 * (l.length : Int)
  | [], _, _, _, _, _ => by simp [chgs]
  | x :: xs, q, g, h, hq, ht => by
    intro c hc
    have ha := rightFrom_all h x (by simp)
    unfold rightFrom at h
    rw [Bool.and_eq_true] at h
    have hx := ht x (by simp)
    have hg := growBy_bounds s x hx hs
    have ho : (outOf s x).size ≤ 2500 := by unfold outOf; rw [ByteArray.size_extract]; omega
    rcases List.mem_cons.1 (show c ∈ _ :: _ from hc) with rfl | hc
    · simp only [List.length_cons]; refine ⟨?_, ?_, ?_, hx, ho, ?_, ?_⟩ <;> omega
    · have := chgs_bounds s hs h.2 (by omega) (fun y hy => ht y (by simp [hy])) c hc
      simp only [List.length_cons]
      obtain ⟨h1, h2, h3, h4, h5, h6, h7⟩ := this
      exact ⟨h1, h2, h3, h4, h5, by omega, by omega⟩

theorem chgs_mem (s : ByteArray) : ∀ {l : List Spl} {g : Int} (c : Chg), c ∈ chgs s g l → c.out = outOf s c.spl ∧ c.spl ∈ l
  | [], _, _, h => by simp [chgs] at h
  | x :: xs, g, c, h => by
    rcases List.mem_cons.1 (show c ∈ _ :: _ from h) with rfl | h
    · exact ⟨rfl, .head _⟩
    · have := chgs_mem s c h; exact ⟨this.1, .tail _ this.2⟩

/-- All bytes are of a text. -/
def allText (l : List UInt8) : Prop := ∀ c ∈ l, isText c = true
theorem runEnd_all {s : ByteArray} (h : allText s.data.toList) : runEnd isText s 0 = s.size := by
  unfold runEnd
  have h1 : s.data.toList.takeWhile isText = s.data.toList := by
    have : ∀ l : List UInt8, allText l → l.takeWhile isText = l := fun l => by
      induction l with
      | nil => intro _; rfl
      | cons c l ih => intro hl; rw [List.takeWhile_cons, if_pos (hl c (.head _)), ih (fun x hx => hl x (.tail _ hx))]
    exact this _ h
  rw [List.drop_zero, h1]
  simp
theorem textErr_all {s : ByteArray} (h : (textErr s).2 = 0) : s.size ≤ 2500 ∧ allText s.data.toList := by
  refine ⟨textErr_le h, ?_⟩
  unfold textErr at h
  split at h
  · cases h
  · split at h
    · cases h
    · have h1 := runEnd_le (p := isText) (s := s) (k := 0) (Nat.zero_le _)
      exact all_of_run (by omega)
theorem textErr_none {s : ByteArray} (h : s.size ≤ 2500) (ha : allText s.data.toList) : textErr s = (0, 0) := by
  unfold textErr
  rw [if_neg (by omega), if_neg (by rw [runEnd_all ha]; omega)]
theorem badText_all {x : Spl} (h : badText x = false) : allText x.text.data.toList := by
  unfold badText at h
  have h1 := runEnd_le (p := isText) (s := x.text) (k := 0) (Nat.zero_le _)
  have h2 : ¬ runEnd isText x.text 0 < x.text.size := by simpa using h
  exact all_of_run (by omega)
theorem badText_none {x : Spl} (h : allText x.text.data.toList) : badText x = false := by
  unfold badText; rw [runEnd_all h]; simp

theorem extract_toList (s : ByteArray) (i j : Nat) : (s.extract i j).data.toList = (s.data.toList.drop i).take (j - i) := by
  simp [ByteArray.data_extract, Array.toList_extract, List.extract_eq_take_drop]
theorem bytes_length (s : ByteArray) : s.data.toList.length = s.size := by simp
theorem allText_append {a b : List UInt8} (h : allText a) (k : allText b) : allText (a ++ b) := fun c hc => by
  rcases List.mem_append.1 hc with hc | hc
  · exact h c hc
  · exact k c hc
theorem allText_extract {s : ByteArray} (h : allText s.data.toList) (i j : Nat) : allText (s.extract i j).data.toList := fun c hc => by
  rw [extract_toList] at hc
  exact h c (List.mem_of_mem_drop (List.mem_of_mem_take hc))

theorem spliceOut_all {s : ByteArray} (hs : allText s.data.toList) : ∀ {l : List Spl} {q : Int}, l.any badText = false → allText (spliceOut s q l)
  | [], q, _ => allText_extract hs _ _
  | x :: xs, q, h => by
    rw [List.any_cons, Bool.or_eq_false_iff] at h
    exact allText_append (allText_extract hs _ _) (allText_append (badText_all h.1) (spliceOut_all hs h.2))
theorem outOf_size {s : ByteArray} {x : Spl} (h0 : 0 ≤ x.lo) (h1 : x.lo ≤ x.hi) (h2 : x.hi ≤ s.size) : ((outOf s x).size : Int) = x.hi - x.lo := by
  unfold outOf; rw [ByteArray.size_extract]; omega
theorem spliceOut_length {s : ByteArray} : ∀ {l : List Spl} {q g : Int}, rightFrom s.size q l = true → 0 ≤ q → q ≤ s.size → ((spliceOut s q l).length : Int) = s.size - q + (grow s g l - g)
  | [], q, g, _, h0, h1 => by
    unfold spliceOut grow
    rw [bytes_length, ByteArray.size_extract]; omega
  | x :: xs, q, g, h, h0, h1 => by
    have ha := rightFrom_all h x (by simp)
    unfold rightFrom at h
    rw [Bool.and_eq_true] at h
    have ih := spliceOut_length (g := g + growBy s x) h.2 (by omega) (by omega)
    have ho := outOf_size (s := s) (x := x) (by omega) (by omega) (by omega)
    unfold spliceOut grow
    rw [List.length_append, List.length_append, bytes_length, bytes_length, ByteArray.size_extract]
    unfold growBy at ih ⊢
    omega

/-- The state of a walk along a text t that splices made of s: behind q bytes of s, and growth g. -/
def Along (s t : ByteArray) (q g : Int) (l : List Spl) : Prop := 0 ≤ q ∧ q ≤ s.size ∧ rightFrom s.size q l = true ∧ ∃ pre, t.data.toList = pre ++ spliceOut s q l ∧ (pre.length : Int) = q + g
theorem Along.start {s : ByteArray} {l : List Spl} (h : rightFrom s.size 0 l = true) : Along s ⟨(spliceOut s 0 l).toArray⟩ 0 0 l := ⟨by omega, by omega, h, [], by simp, rfl⟩
theorem Along.step {s t : ByteArray} {q g : Int} {x : Spl} {xs : List Spl} (h : Along s t q g (x :: xs)) : Along s t x.hi (g + growBy s x) xs ∧ q ≤ x.lo ∧ x.lo ≤ x.hi ∧ x.hi ≤ s.size ∧ ((outOf s x).size : Int) = x.hi - x.lo := by
  obtain ⟨h0, h1, hr, pre, ht, hp⟩ := h
  have ha := rightFrom_all hr x (by simp)
  unfold rightFrom at hr
  rw [Bool.and_eq_true] at hr
  have ho := outOf_size (s := s) (x := x) (by omega) (by omega) (by omega)
  refine ⟨⟨by omega, by omega, hr.2, pre ++ ((s.extract q.toNat x.lo.toNat).data.toList ++ x.text.data.toList), by rw [ht]; simp [spliceOut], ?_⟩, by omega, by omega, by omega, ho⟩
  rw [List.length_append, List.length_append, bytes_length, bytes_length, ByteArray.size_extract]
  unfold growBy
  omega
theorem Along.nonneg {s t : ByteArray} {q g : Int} {l : List Spl} (h : Along s t q g l) : 0 ≤ q + g := by
  obtain ⟨_, _, _, pre, _, hp⟩ := h; omega
theorem Along.le {s t : ByteArray} {q g : Int} {l : List Spl} (h : Along s t q g l) : q + g ≤ t.size := by
  obtain ⟨_, _, _, pre, ht, hp⟩ := h
  have := congrArg List.length ht
  rw [bytes_length, List.length_append] at this; omega
/-- A stretch that stays. -/
theorem Along.stay {s t : ByteArray} {q g : Int} {x : Spl} {xs : List Spl} (h : Along s t q g (x :: xs)) : (t.extract (q + g).toNat (x.lo + g).toNat).data.toList = (s.extract q.toNat x.lo.toNat).data.toList := by
  have hst := h.step
  obtain ⟨h0, h1, hr, pre, ht, hp⟩ := h
  rw [extract_toList, ht, spliceOut, List.drop_append, List.drop_of_length_le (by omega), List.nil_append, show (q + g).toNat - pre.length = 0 by omega, List.drop_zero]
  rw [List.take_append, List.take_of_length_le (by rw [bytes_length, ByteArray.size_extract]; omega)]
  rw [bytes_length, ByteArray.size_extract, show (x.lo + g).toNat - (q + g).toNat - (min x.lo.toNat s.size - q.toNat) = 0 by omega, List.take_zero, List.append_nil]
/-- What was put in. -/
theorem Along.put {s t : ByteArray} {q g : Int} {x : Spl} {xs : List Spl} (h : Along s t q g (x :: xs)) : t.extract (x.lo + g).toNat (x.lo + g + x.text.size).toNat = x.text := by
  have hst := h.step
  obtain ⟨h0, h1, hr, pre, ht, hp⟩ := h
  apply ByteArray.ext
  apply Array.toList_inj.1
  rw [extract_toList, ht, spliceOut, ← List.append_assoc pre, List.drop_append, List.drop_of_length_le (by rw [List.length_append, bytes_length, ByteArray.size_extract]; omega), List.nil_append]
  rw [List.length_append, bytes_length, ByteArray.size_extract, show (x.lo + g).toNat - (pre.length + (min x.lo.toNat s.size - q.toNat)) = 0 by omega, List.drop_zero]
  rw [List.take_append, List.take_of_length_le (by rw [bytes_length]; omega), bytes_length, show (x.lo + g + x.text.size).toNat - (x.lo + g).toNat - x.text.size = 0 by omega, List.take_zero, List.append_nil]
/-- The rest. -/
theorem Along.rest {s t : ByteArray} {q g : Int} (h : Along s t q g []) : (t.extract (q + g).toNat t.size).data.toList = (s.extract q.toNat s.size).data.toList := by
  obtain ⟨h0, h1, hr, pre, ht, hp⟩ := h
  have hl := congrArg List.length ht
  rw [bytes_length, List.length_append] at hl
  rw [extract_toList, ht, spliceOut, List.drop_append, List.drop_of_length_le (by omega), List.nil_append, show (q + g).toNat - pre.length = 0 by omega, List.drop_zero]
  rw [List.take_of_length_le]
  rw [spliceOut] at hl
  omega

theorem drop_split (s : ByteArray) (i j : Nat) (h : i ≤ j) (_hj : j ≤ s.size) : (s.extract i j).data.toList ++ (s.extract j s.size).data.toList = (s.extract i s.size).data.toList := by
  have hd : s.data.toList.drop j = (s.data.toList.drop i).drop (j - i) := by rw [List.drop_drop, show i + (j - i) = j by omega]
  have e1 : (s.data.toList.drop j).take (s.size - j) = s.data.toList.drop j := List.take_of_length_le (by simp)
  have e2 : (s.data.toList.drop i).take (s.size - i) = s.data.toList.drop i := List.take_of_length_le (by simp)
  rw [extract_toList, extract_toList, extract_toList, e1, e2, hd, List.take_append_drop]

theorem back_lists {s t : ByteArray} : ∀ {l : List Spl} {q g : Int}, Along s t q g l →
    spliceOut t (q + g) ((chgs s g l).map Chg.back) = (s.extract q.toNat s.size).data.toList ∧ rightFrom t.size (q + g) ((chgs s g l).map Chg.back) = true ∧
      (∀ g', grow t g' ((chgs s g l).map Chg.back) = g' - (grow s g l - g))
  | [], q, g, h => ⟨h.rest, rfl, fun g' => by simp [chgs, grow]⟩
  | x :: xs, q, g, h => by
    obtain ⟨hst, h1, h2, h3, h4⟩ := h.step
    obtain ⟨i1, i2, i3⟩ := back_lists hst
    have hq : x.hi + (g + growBy s x) = x.lo + g + x.text.size := by unfold growBy; omega
    rw [hq] at i1 i2
    have hle := hst.le
    have hnn := h.nonneg
    have h0 := h.1
    rw [hq] at hle
    have hs1 : (s.extract q.toNat x.lo.toNat).data.toList ++ ((outOf s x).data.toList ++ (s.extract x.hi.toNat s.size).data.toList) = (s.extract q.toNat s.size).data.toList := by
      unfold outOf
      rw [drop_split s x.lo.toNat x.hi.toNat (by omega) (by omega), drop_split s q.toNat x.lo.toNat (by omega) (by omega)]
    refine ⟨?_, ?_, fun g' => ?_⟩
    · simp only [chgs, List.map_cons, spliceOut, Chg.back]
      rw [h.stay, i1, hs1]
    · simp only [chgs, List.map_cons, rightFrom, Chg.back]
      rw [i2, Bool.and_true, Bool.not_eq_true', Bool.or_eq_false_iff, Bool.or_eq_false_iff]
      simp only [decide_eq_false_iff_not]
      omega
    · simp only [chgs, List.map_cons, grow]
      rw [i3]
      have : growBy t (Chg.back { spl := x, pos := x.lo + g, out := outOf s x }) = - growBy s x := by
        unfold growBy Chg.back outOf
        simp only
        rw [h.put]
        omega
      omega

/-- Splices, and those that lead back: the text again. -/
theorem undo_back {s : ByteArray} {l : List Spl} (h : (applyOf s l).2 = 0) : (undoOf s l).2 = 0 ∧ (undoOf s l).1 = (chgs s 0 l).map Chg.back ∧ (undoOf s l).1.length = l.length ∧
    (changesOf (applyOf s l).1 (undoOf s l).1).2 = 0 ∧ applyOf (applyOf s l).1 (undoOf s l).1 = (s, 0) ∧ (applyOf s l).1 = ⟨(spliceOut s 0 l).toArray⟩ := by
  have hc : (changesOf s l).2 = 0 := by
    unfold applyOf at h
    split at h
    · assumption
    · rename_i h1; simpa using h1
  obtain ⟨hL, hte, h40, hr, hb, hg⟩ := changesOf_ok hc
  have ht : (applyOf s l).1 = ⟨(spliceOut s 0 l).toArray⟩ := by unfold applyOf; rw [if_neg (by simp [hc])]
  have hu : undoOf s l = ((chgs s 0 l).map Chg.back, 0) := by unfold undoOf; rw [if_neg (by simp [hc])]
  obtain ⟨hsz, hal⟩ := textErr_all hte
  rw [ht, hu]
  have hlen := spliceOut_length (g := 0) hr (by omega) (by omega)
  have hA := Along.start hr
  obtain ⟨b1, b2, b3⟩ := back_lists hA
  have b1' : spliceOut ⟨(spliceOut s 0 l).toArray⟩ 0 ((chgs s 0 l).map Chg.back) = _ := b1
  have b2' : rightFrom (⟨(spliceOut s 0 l).toArray⟩ : ByteArray).size 0 ((chgs s 0 l).map Chg.back) = true := b2
  have htl : (⟨(spliceOut s 0 l).toArray⟩ : ByteArray).size = (spliceOut s 0 l).length := by simp [ByteArray.size]
  have htx : textErr ⟨(spliceOut s 0 l).toArray⟩ = (0, 0) := textErr_none (by rw [htl]; omega) (by simpa using spliceOut_all hal hb)
  have hch : changesOf ⟨(spliceOut s 0 l).toArray⟩ ((chgs s 0 l).map Chg.back) = (chgs ⟨(spliceOut s 0 l).toArray⟩ 0 ((chgs s 0 l).map Chg.back), 0) := by
    unfold changesOf
    have hany : ((chgs s 0 l).map Chg.back).any badText = false := by
      rw [List.any_eq_false]
      intro y hy
      obtain ⟨c, hc, rfl⟩ := List.mem_map.1 hy
      rw [badText_none (by unfold Chg.back; simp only; rw [(chgs_mem s c hc).1]; exact allText_extract hal _ _)]
      simp
    rw [htx, if_neg (by simp), if_neg (by rw [List.length_map, chgs_length]; omega), if_neg (by rw [b2']; simp), if_neg (by rw [hany]; simp), if_neg (by rw [b3, htl]; omega)]
  refine ⟨rfl, rfl, by rw [List.length_map, chgs_length], by rw [hch], ?_, rfl⟩
  unfold applyOf
  rw [hch, if_neg (by simp)]
  congr 1
  apply ByteArray.ext
  apply Array.toList_inj.1
  simp only
  rw [b1']
  simp

theorem scan_behind {p m v : Int} {c : Chg} {cs : List Chg} (h1 : c.spl.hi ≤ p) (hv : c.pos + c.spl.text.size + p - c.spl.hi = v) : movedScan p m (c :: cs) = movedScan p v cs := by
  rw [movedScan, if_neg (by omega), if_pos h1, hv]
theorem scan_below {p : Int} : ∀ {cs : List Chg} {m : Int}, (∀ c ∈ cs, p < c.spl.lo ∧ c.spl.lo ≤ c.spl.hi) → movedScan p m cs = (m, 0)
  | [], _, _ => rfl
  | c :: cs, m, h => by
    have hc := h c (.head _)
    rw [movedScan, if_neg (by omega), if_neg (by omega), scan_below fun x hx => h x (.tail _ hx)]
theorem chgs_above {s : ByteArray} {l : List Spl} {q g p : Int} (h : rightFrom s.size q l = true) (hp : p < q) : ∀ c ∈ chgs s g l, p < c.spl.lo ∧ c.spl.lo ≤ c.spl.hi := fun c hc => by
  have := rightFrom_all h _ (chgs_mem s c hc).2
  omega
theorem byteAt_of {s t : ByteArray} {i j : Nat} (h : s.data.toList[i]? = t.data.toList[j]?) : byteAt s i = byteAt t j := by unfold byteAt; rw [h]
theorem Along.byte {s t : ByteArray} {q g p : Int} {r : Int} {rest : List UInt8} (h0 : 0 ≤ q) (hr : r ≤ s.size) {pre : List UInt8} (ht : t.data.toList = pre ++ ((s.extract q.toNat r.toNat).data.toList ++ rest)) (hp : (pre.length : Int) = q + g) (h1 : q ≤ p) (h2 : p < r) : byteAt t (p + g).toNat = byteAt s p.toNat := by
  apply byteAt_of
  rw [ht, List.getElem?_append_right (by omega), List.getElem?_append_left (by rw [bytes_length, ByteArray.size_extract]; omega), extract_toList, List.getElem?_take_of_lt (by omega), List.getElem?_drop]
  congr 1; omega

theorem moved_main {s t : ByteArray} : ∀ {l : List Spl} {q g : Int}, Along s t q g l → ∀ {p n : Int}, q ≤ p → p < s.size → movedScan p (p + g) (chgs s g l) = (n, 0) →
    q + g ≤ n ∧ n < t.size ∧ byteAt t n.toNat = byteAt s p.toNat ∧ movedScan n (n - g) (chgs t (-g) ((chgs s g l).map Chg.back)) = (p, 0)
  | [], q, g, h, p, n, h1, h2, hm => by
    have hn : p + g = n := by simpa [chgs, movedScan] using hm
    have hle := h.le
    obtain ⟨h0, _, _, pre, ht, hp⟩ := h
    have hl := congrArg List.length ht
    rw [bytes_length, List.length_append, spliceOut, bytes_length, ByteArray.size_extract] at hl
    subst hn
    refine ⟨by omega, by omega, Along.byte (r := s.size) (rest := []) h0 (by omega) (by rw [ht, spliceOut]; simp) hp h1 h2, ?_⟩
    simp only [chgs, List.map_nil, movedScan]
    congr 1; omega
  | x :: xs, q, g, h, p, n, h1, h2, hm => by
    obtain ⟨hst, a1, a2, a3, a4⟩ := h.step
    have hbl := back_lists h
    have hgb : growBy s x = (x.text.size : Int) - (outOf s x).size := rfl
    have hall := h
    obtain ⟨h0, _, hr, pre, ht, hp⟩ := h
    simp only [chgs, movedScan] at hm
    by_cases c1 : p < x.lo
    · rw [if_neg (by omega), if_neg (by omega), scan_below (chgs_above hst.2.2.1 (by omega))] at hm
      have hn : p + g = n := by simpa using hm
      subst hn
      have hlt : x.lo + g ≤ t.size := by have := hst.le; have := hst.nonneg; omega
      refine ⟨by omega, by omega, Along.byte (r := x.lo) h0 (by omega) (by rw [ht, spliceOut]) hp h1 c1, ?_⟩
      rw [scan_below]
      · congr 1; omega
      · intro c hc
        have hb := (chgs_mem t c hc).2
        have h3 := rightFrom_all hbl.2.1 _ hb
        refine ⟨?_, h3.2.1⟩
        rcases List.mem_cons.1 (show c.spl ∈ _ :: _ from hb) with e | hb
        · rw [e]; simp only [Chg.back]; omega
        · have := rightFrom_all (back_lists hst).2.1 _ hb
          omega
    · by_cases c2 : p < x.hi
      · rw [if_pos (by omega)] at hm
        cases hm
      · rw [if_neg (by omega), if_pos (by omega), show x.lo + g + x.text.size + p - x.hi = p + (g + growBy s x) by omega] at hm
        obtain ⟨i1, i2, i3, i4⟩ := moved_main hst (by omega) h2 hm
        refine ⟨by omega, i2, i3, ?_⟩
        have ho : outOf t (Chg.back { spl := x, pos := x.lo + g, out := outOf s x }) = x.text := by
          unfold outOf Chg.back; exact hall.put
        have hg2 : -g + growBy t (Chg.back { spl := x, pos := x.lo + g, out := outOf s x }) = -(g + growBy s x) := by
          rw [growBy, ho, hgb]; simp only [Chg.back]; omega
        rw [← hg2] at i4
        refine (scan_behind ?_ ?_).trans i4
        · show x.lo + g + x.text.size ≤ n
          omega
        · show x.lo + g + -g + ((outOf s x).size : Int) + n - (x.lo + g + x.text.size) = n - (g + growBy s x)
          omega

theorem moved_mono {s t : ByteArray} : ∀ {l : List Spl} {q g : Int}, Along s t q g l → ∀ {p p' n n' : Int}, q ≤ p → p < p' → p' < s.size → movedScan p (p + g) (chgs s g l) = (n, 0) → movedScan p' (p' + g) (chgs s g l) = (n', 0) → n < n'
  | [], q, g, h, p, p', n, n', h1, h2, h3, e1, e2 => by
    have a1 : p + g = n := by simpa [chgs, movedScan] using e1
    have a2 : p' + g = n' := by simpa [chgs, movedScan] using e2
    omega
  | x :: xs, q, g, h, p, p', n, n', h1, h2, h3, e1, e2 => by
    obtain ⟨hst, a1, a2, a3, a4⟩ := h.step
    have hgb : growBy s x = (x.text.size : Int) - (outOf s x).size := rfl
    simp only [chgs, movedScan] at e1 e2
    by_cases c1 : p < x.lo
    · rw [if_neg (by omega), if_neg (by omega), scan_below (chgs_above hst.2.2.1 (by omega))] at e1
      have hn : p + g = n := by simpa using e1
      by_cases c2 : p' < x.lo
      · rw [if_neg (by omega), if_neg (by omega), scan_below (chgs_above hst.2.2.1 (by omega))] at e2
        have hn : p' + g = n' := by simpa using e2
        omega
      · by_cases c3 : p' < x.hi
        · rw [if_pos (by omega)] at e2; cases e2
        · rw [if_neg (by omega), if_pos (by omega), show x.lo + g + x.text.size + p' - x.hi = p' + (g + growBy s x) by omega] at e2
          have := moved_main hst (by omega) h3 e2
          omega
    · by_cases c2 : p < x.hi
      · rw [if_pos (by omega)] at e1; cases e1
      · rw [if_neg (by omega), if_pos (by omega), show x.lo + g + x.text.size + p - x.hi = p + (g + growBy s x) by omega] at e1
        rw [if_neg (by omega), if_pos (by omega), show x.lo + g + x.text.size + p' - x.hi = p' + (g + growBy s x) by omega] at e2
        exact moved_mono hst (by omega) h2 h3 e1 e2

theorem scan_kinds (p : Int) : ∀ (cs : List Chg) (m : Int), (movedScan p m cs).2 = 0 ∨ movedScan p m cs = (0, 7)
  | [], _ => .inl rfl
  | c :: cs, m => by
    rw [movedScan]
    split
    · exact .inr rfl
    · exact scan_kinds p cs _
theorem movedOf_ok {s : ByteArray} {l : List Spl} (h : (changesOf s l).2 = 0) {p : Int} (h0 : 0 ≤ p) (h1 : p ≤ s.size) : movedOf s l p = movedScan p p (chgs s 0 l) := by
  unfold movedOf; rw [if_neg (by simp [h]), if_neg (by omega)]
/-- A place that stays, and the way back. -/
theorem moved_back {s : ByteArray} {l : List Spl} (h : (applyOf s l).2 = 0) {p : Int} (h0 : 0 ≤ p) (h1 : p < s.size) :
    (movedOf s l p = (0, 7)) ∨ ∃ n : Nat, movedOf s l p = ((n : Int), 0) ∧ n < (applyOf s l).1.size ∧ byteAt (applyOf s l).1 n = byteAt s p.toNat ∧ movedOf (applyOf s l).1 (undoOf s l).1 n = (p, 0) := by
  have hc : (changesOf s l).2 = 0 := by
    unfold applyOf at h
    split at h
    · assumption
    · rename_i h1; simpa using h1
  obtain ⟨hL, hte, h40, hr, hb, hg⟩ := changesOf_ok hc
  obtain ⟨u1, u2, u3, u4, u5, u6⟩ := undo_back h
  rw [movedOf_ok hc h0 (by omega)]
  rcases scan_kinds p (chgs s 0 l) p with hk | hk
  · right
    obtain ⟨n, hn⟩ : ∃ n, (movedScan p p (chgs s 0 l)).1 = n := ⟨_, rfl⟩
    have hm : movedScan p (p + 0) (chgs s 0 l) = (n, 0) := by rw [Int.add_zero, ← hn, ← hk]
    have hA := Along.start hr
    rw [← u6] at hA
    obtain ⟨m1, m2, m3, m4⟩ := moved_main hA h0 h1 hm
    rw [Int.add_zero] at hm
    refine ⟨n.toNat, by rw [hm]; congr 1; omega, by omega, m3, ?_⟩
    rw [movedOf_ok u4 (by omega) (by omega), u2, show ((n.toNat : Nat) : Int) = n by omega]
    simpa using m4
  · exact .inl hk
theorem moved_order {s : ByteArray} {l : List Spl} (h : (applyOf s l).2 = 0) {p p' n n' : Int} (h0 : 0 ≤ p) (h1 : p < p') (h2 : p' < s.size) (e1 : movedOf s l p = (n, 0)) (e2 : movedOf s l p' = (n', 0)) : n < n' := by
  have hc : (changesOf s l).2 = 0 := by
    unfold applyOf at h
    split at h
    · assumption
    · rename_i h1; simpa using h1
  obtain ⟨hL, hte, h40, hr, hb, hg⟩ := changesOf_ok hc
  rw [movedOf_ok hc h0 (by omega)] at e1
  rw [movedOf_ok hc (by omega) (by omega)] at e2
  exact moved_mono (Along.start hr) h0 h1 h2 (by simpa using e1) (by simpa using e2)
end Go.Proofs.YtchkngabppmbkaaDoor.Lx
