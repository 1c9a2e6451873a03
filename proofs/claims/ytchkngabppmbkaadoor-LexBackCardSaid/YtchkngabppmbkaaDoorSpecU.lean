/-
  PLAIN: a blank less in a tight text; the tight text of a text's tokens.
-/
import Derived.Test.YtchkngabppmbkaaDoorSpecT
import Derived.Test.YtchkngabppmbkaaDoorSpecR
namespace Go.Proofs.YtchkngabppmbkaaDoor.Lx

/-- Two tokens that clash make a longer one, where nothing stands between them. -/
theorem clash_longer {u : ByteArray} {x y : Tk} {pre post : List UInt8} (hx : tokOk x = true) (hy : tokOk y = true) (hc : clashT x y = true) (h : u.data.toList = pre ++ (x.text.data.toList ++ (y.text.data.toList ++ post))) :
    pre.length < u.size ∧ isBlank (byteAt u pre.length) = false ∧ isTok (itemAt u pre.length) = true ∧ x.text.size < (itemAt u pre.length).text.size := by
  obtain ⟨hx0, hx1, hx2, hx3⟩ := tokOk_parts hx
  obtain ⟨hxc, hx4, hxaf⟩ := tokOk_cls hx
  obtain ⟨hy0, hy1, hy2, hy3⟩ := tokOk_parts hy
  obtain ⟨hyc, hy4, hyaf⟩ := tokOk_cls hy
  have hlx : x.text.data.toList.length = x.text.size := bytes_length _
  have hly : y.text.data.toList.length = y.text.size := bytes_length _
  have hsz : u.size = pre.length + (x.text.size + (y.text.size + post.length)) := by rw [← bytes_length u, h, List.length_append, List.length_append, List.length_append, hlx, hly]
  have hb : ∀ j, j < x.text.size → byteAt u (pre.length + j) = byteAt x.text j := fun j hj => by rw [byteAt_part h (by omega), byteAt_list hj]
  have hby : byteAt u (pre.length + x.text.size) = byteAt y.text 0 := by
    have h' : u.data.toList = (pre ++ x.text.data.toList) ++ (y.text.data.toList ++ post) := by rw [h, List.append_assoc]
    have := byteAt_part h' (j := 0) (by omega)
    rw [List.length_append, hlx, Nat.add_zero] at this
    rw [this, byteAt_list hy0]
  have hb0 := hb 0 hx0
  rw [Nat.add_zero] at hb0
  have hks : pre.length < u.size := by omega
  have htok : isTok (itemAt u pre.length) = true := by
    unfold isTok
    have hk := (piece_kind u pre.length).1
    have : (itemAt u pre.length).kind ≠ 5 := fun e => by
      have e' : (piece u pre.length).1 = 5 := e
      have := hk.1 e'
      rw [hb0] at this
      omega
    simpa using this
  refine ⟨hks, ?_, htok, ?_⟩
  · rw [hb0]; unfold isBlank
    rcases hxc with h | h | h <;> rw [h] <;> rfl
  · have haf := after_tok htok
    have hpos : (itemAt u pre.length).pos = pre.length := rfl
    unfold clashT at hc
    by_cases h4 : x.kind = 4 ∨ y.kind = 4
    · rw [if_pos h4, decide_eq_true_eq] at hc
      have hxs : x.text.size = 1 := by rw [hc.1]; rfl
      have e0 : byteAt u pre.length = 58 := by rw [hb0, hc.1]; rfl
      have e1 : byteAt u (pre.length + 1) = 61 := by rw [← hxs, hby, hc.2]; rfl
      have h5 : cls (byteAt u pre.length) = 5 := by rw [e0]; decide
      have hse := after_sign hks h5
      unfold signEnd at hse
      rw [if_pos ((two_iff _ _).2 ⟨by omega, .inl ⟨e0, e1⟩⟩)] at hse
      omega
    · have hx24 : cls (byteAt x.text 0) = 2 ∨ cls (byteAt x.text 0) = 4 := by
        rcases hxc with h | h | h
        · exact .inl h
        · exact .inr h
        · exact absurd (.inl (hx4.2 h)) h4
      have hy24 : cls (byteAt y.text 0) = 2 ∨ cls (byteAt y.text 0) = 4 := by
        rcases hyc with h | h | h
        · exact .inl h
        · exact .inr h
        · exact absurd (.inr (hy4.2 h)) h4
      have hw := after_word hks (by rw [hb0]; exact hx24)
      rw [hw] at haf
      have hwx := after_word hx0 hx24
      rw [hxaf] at hwx
      rcases Nat.lt_or_ge (pre.length + x.text.size) (runEnd isAlnum u pre.length) with hlt | hge
      · omega
      · exfalso
        have hge2 := runEnd_ge (p := isAlnum) (s := u) (k := pre.length)
        have hst := runEnd_stops (p := isAlnum) (s := u) _ pre.length rfl (by omega)
        obtain ⟨d, hd⟩ : ∃ d, runEnd isAlnum u pre.length = pre.length + d := ⟨runEnd isAlnum u pre.length - pre.length, by omega⟩
        rw [hd] at hst hge
        by_cases e : d = x.text.size
        · rw [e, hby, cls_alnum hy24] at hst; cases hst
        · rw [hb d (by omega)] at hst
          have := runEnd_mem (p := isAlnum) (s := x.text) _ 0 d rfl (Nat.zero_le _) (by omega) (Nat.zero_le _)
          rw [hst] at this; cases this

theorem no_blank {x : Tk} (hx : tokOk x = true) : (32 : UInt8) ∉ x.text.data.toList := fun h => by
  have := (tokOk_bytes hx h).1
  exact absurd this (by decide)
/-- Where a blank stands behind bytes without one. -/
theorem blank_behind {m rest a b : List UInt8} (hm : (32 : UInt8) ∉ m) (h : m ++ rest = a ++ 32 :: b) : ∃ a', a = m ++ a' ∧ rest = a' ++ 32 :: b := by
  rcases List.append_eq_append_iff.1 h with ⟨c, h1, h2⟩ | ⟨c, h1, h2⟩
  · exact ⟨c, h1, h2⟩
  · match c, h2 with
    | [], h2 => exact ⟨[], by rw [h1]; simp, by simpa using h2.symm⟩
    | z :: c, h2 =>
      exfalso
      apply hm
      rw [List.cons_append, List.cons.injEq] at h2
      rw [h1, h2.1]
      simp
/-- P1.10: without a blank the pieces are not the tokens. -/
theorem less_blank {u : ByteArray} : ∀ (xs : List Tk) (x : Tk) (pre a b : List UInt8), tokOk x = true → xs.all tokOk = true → tightF (some x) xs = a ++ 32 :: b → u.data.toList = pre ++ (x.text.data.toList ++ (a ++ b)) →
    ((piecesAt u pre.length).filter isTok).map Item.kt ≠ (x :: xs).map Tk.kt
  | [], x, pre, a, b, _, _, h, _ => by
    exfalso
    have : (tightF (some x) []) = [] := rfl
    rw [this] at h
    exact absurd h.symm (by simp)
  | y :: ys, x, pre, a, b, hx, hl, h, hu => by
    have hl' := hl
    rw [List.all_cons, Bool.and_eq_true] at hl'
    have htf : tightF (some x) (y :: ys) = (if clashT x y then [32] else []) ++ (y.text.data.toList ++ tightF (some y) ys) := rfl
    have hnext := tight_next hx hl
    have step : ∀ sep a'', a = sep ++ (y.text.data.toList ++ a'') → tightF (some y) ys = a'' ++ 32 :: b → (sep = [] ∨ sep = [32]) → (∀ c, (sep ++ (y.text.data.toList ++ (a'' ++ b))).head? = some c → (tightF (some x) (y :: ys)).head? = some c) → ((piecesAt u pre.length).filter isTok).map Item.kt ≠ (x :: y :: ys).map Tk.kt := fun sep a'' ha ht hs hh => by
      have hu' : u.data.toList = pre ++ (x.text.data.toList ++ (sep ++ (y.text.data.toList ++ (a'' ++ b)))) := by rw [hu, ha]; simp
      obtain ⟨q1, q2, q3, q4⟩ := tok_at hx hu' (fun hk c hc => hnext.1 hk c (hh c hc)) (fun c hc => hnext.2 c (hh c hc))
      rw [byteAt_eq u _ q1] at q2
      rw [piecesAt_item q1 q2, q4]
      have hti : isTok (itemAt u pre.length) = true := by
        unfold isTok
        have : (itemAt u pre.length).kind ≠ 5 := fun e => by
          have e' : (piece u pre.length).1 = 5 := e
          rw [q3] at e'
          have := (piece_kind x.text 0).1.1 e'
          have := (tokOk_cls hx).1
          omega
        simpa using this
      rw [List.filter_cons, if_pos hti, List.map_cons, List.map_cons]
      intro he
      have he2 := (List.cons.inj he).2
      rcases hs with rfl | rfl
      · have ih := less_blank ys y (pre ++ x.text.data.toList) a'' b hl'.1 hl'.2 ht (by rw [hu']; simp)
        rw [List.length_append, bytes_length] at ih
        exact ih he2
      · have hu2 : u.data.toList = (pre ++ x.text.data.toList) ++ ([32] ++ (y.text.data.toList ++ (a'' ++ b))) := by rw [hu']; simp
        have h32 : byteAt u (pre.length + x.text.size) = 32 := by
          have := byteAt_part (m := [32]) hu2 (j := 0) (by simp)
          rw [List.length_append, bytes_length, Nat.add_zero] at this
          rw [this]; rfl
        have hz : pre.length + x.text.size < u.size := by
          rw [← bytes_length u, hu2]
          simp only [List.length_append, bytes_length, List.length_singleton]; omega
        rw [piecesAt_blank hz (by rw [← byteAt_eq u _ hz, h32]; decide)] at he2
        have ih := less_blank ys y (pre ++ x.text.data.toList ++ [32]) a'' b hl'.1 hl'.2 ht (by rw [hu2]; simp)
        rw [List.length_append, List.length_append, bytes_length] at ih
        exact ih he2
    rw [htf] at h
    cases hcl : clashT x y
    · rw [hcl, if_neg (by simp), List.nil_append] at h
      obtain ⟨a'', h1, h2⟩ := blank_behind (no_blank hl'.1) h
      refine step [] a'' (by rw [h1]; rfl) h2 (.inl rfl) fun c hc => ?_
      rw [htf, hcl, if_neg (by simp), List.nil_append]
      have hne : 0 < y.text.data.toList.length := by rw [bytes_length]; exact (tokOk_parts hl'.1).1
      rw [List.nil_append, List.head?_eq_getElem?, List.getElem?_append_left hne] at hc
      rw [List.head?_eq_getElem?, List.getElem?_append_left hne]
      exact hc
    · rw [hcl, if_pos rfl] at h
      match a, h, hu with
      | [], h, hu =>
        rw [List.singleton_append, List.nil_append, List.cons.injEq] at h
        rw [List.nil_append, ← h.2] at hu
        obtain ⟨r1, r2, r3, r4⟩ := clash_longer hx hl'.1 hcl hu
        rw [byteAt_eq u _ r1] at r2
        rw [piecesAt_item r1 r2, List.filter_cons, if_pos r3, List.map_cons, List.map_cons]
        intro he
        have := (List.cons.inj he).1
        have h3 : (itemAt u pre.length).text = x.text := congrArg Prod.snd this
        rw [h3] at r4
        omega
      | z :: a', h, hu =>
        rw [List.singleton_append, List.cons_append, List.cons.injEq] at h
        obtain ⟨a'', h1, h2⟩ := blank_behind (no_blank hl'.1) h.2
        refine step [32] a'' (by rw [h1, ← h.1]; rfl) h2 (.inr rfl) fun c hc => ?_
        rw [htf, hcl, if_pos rfl]
        exact hc
/-- The text of which a byte was taken out. -/
def without (t : ByteArray) (i : Nat) : ByteArray := ⟨(t.data.toList.take i ++ t.data.toList.drop (i + 1)).toArray⟩
theorem back_blank {l : List Tk} (h : (tightOf l).2 = 0) {i : Nat} (hi : i < (tightOf l).1.size) (h32 : byteAt (tightOf l).1 i = 32) (hg : (tokensOf (without (tightOf l).1 i)).2.2 = 0) :
    (toksOf (without (tightOf l).1 i)).map Tk.kt ≠ l.map Tk.kt := by
  obtain ⟨_, _, _, _, hok, _, hd, _⟩ := tokens_tight h
  rw [toksOf_ok hg, List.map_map]
  generalize (tightOf l).1 = t at *
  have hsplit : t.data.toList = t.data.toList.take i ++ 32 :: t.data.toList.drop (i + 1) := by
    have hi' : i < t.data.toList.length := by rw [bytes_length]; exact hi
    have : t.data.toList[i] = 32 := by rw [← h32, byteAt_eq t i hi]; rfl
    rw [← this, ← List.drop_eq_getElem_cons hi', List.take_append_drop]
  match l, hok, hd with
  | [], _, hd =>
    have : t.size = 0 := by rw [← bytes_length t, hd]; rfl
    omega
  | x :: xs, hok, hd =>
    rw [List.all_cons, Bool.and_eq_true] at hok
    have htf : tightF none (x :: xs) = x.text.data.toList ++ tightF (some x) xs := rfl
    rw [hd, htf] at hsplit
    obtain ⟨a', h1, h2⟩ := blank_behind (no_blank hok.1) hsplit
    have := less_blank (u := without t i) xs x [] a' (t.data.toList.drop (i + 1)) hok.1 hok.2 (by rw [h2, hd, htf]) (by
      unfold without
      rw [hd, htf, h1]
      simp)
    exact this
/-- The places of a tight text's tokens rise. -/
theorem pos_rises {s : ByteArray} (hp : ∀ x ∈ pieces s, 0 < x.text.size) {i : Nat} {x y : Item} (h1 : (pieces s)[i]? = some x) (h2 : (pieces s)[i + 1]? = some y) : x.pos < y.pos := by
  have key : ∀ (l : List Item) (q i : Nat), inOrder s.size q l → (∀ x ∈ l, 0 < x.text.size) → ∀ x y, l[i]? = some x → l[i + 1]? = some y → x.pos < y.pos := fun l => by
    induction l with
    | nil => intro q i _ _ x y h; simp at h
    | cons z zs ih =>
      intro q i ho hz x y hx hy
      match i with
      | 0 =>
        rw [List.getElem?_cons_zero] at hx
        cases hx
        rw [List.getElem?_cons_succ] at hy
        match zs, ho, hy with
        | w :: ws, ho, hy =>
          rw [List.getElem?_cons_zero] at hy
          cases hy
          have h3 := ho.2.2.1
          have := hz _ (.head _)
          omega
      | i + 1 =>
        rw [List.getElem?_cons_succ] at hx hy
        exact ih _ i ho.2.2 (fun w hw => hz w (.tail _ hw)) x y hx hy
  exact key _ 0 i (piecesFrom_order s _ _) hp x y h1 h2
end Go.Proofs.YtchkngabppmbkaaDoor.Lx
