/-
  PLAIN: what is renamed, and renamed back, is the text before.
-/
import Derived.Test.YtchkngabppmbkaaDoorSpecW
namespace Go.Proofs.YtchkngabppmbkaaDoor.Lx

theorem renameOf_ok {s old name : ByteArray} (h : (renameOf s old name).2 = 0) : (tokensOf s).2.2 = 0 ∧ tokOk (nameTk old) = true ∧ tokOk (nameTk name) = true ∧ (placesOf (nameTk old) (toksOf s)).length ≠ 0 ∧
    (placesOf (nameTk name) (toksOf s)).length = 0 ∧ (s.size : Int) + (placesOf (nameTk old) (toksOf s)).length * ((name.size : Int) - old.size) ≤ 2500 ∧
    (renameOf s old name).1 = ⟨(renOut s name old.size 0 (placesOf (nameTk old) (toksOf s))).toArray⟩ := by
  unfold renameOf at h ⊢
  split at h
  · rename_i h1; exact absurd h h1
  · rename_i h1
    rw [if_neg h1]
    split at h
    · cases h
    · rename_i h2
      rw [if_neg h2]
      split at h
      · cases h
      · rename_i h3
        rw [if_neg h3]
        split at h
        · cases h
        · rename_i h4
          rw [if_neg h4]
          split at h
          · cases h
          · rename_i h5
            rw [if_neg h5]
            have h2' : [nameTk old, nameTk name].all tokOk = true := by simpa using h2
            simp only [List.all_cons, List.all_nil, Bool.and_true, Bool.and_eq_true] at h2'
            exact ⟨by omega, h2'.1, h2'.2, h3, by omega, by omega, rfl⟩
theorem toksOf_at {s : ByteArray} (h : (tokensOf s).2.2 = 0) : toksOf s = toksAt s 0 := toksOf_ok h
theorem allText_ren {s name : ByteArray} {m : Int} (hs : allText s.data.toList) (hn : allText name.data.toList) : ∀ (ps : List Int) (q : Int), allText (renOut s name m q ps)
  | [], q => allText_extract hs _ _
  | p :: ps, q => allText_append (allText_extract hs _ _) (allText_append hn (allText_ren hs hn ps _))
/-- P1.15. -/
theorem renamed {s old name : ByteArray} (h : (renameOf s old name).2 = 0) : renameOf (renameOf s old name).1 name old = (s, 0) ∧ (tokensOf s).2.2 = 0 ∧ (tokensOf (renameOf s old name).1).2.2 = 0 ∧
    (toksOf (renameOf s old name).1).length = (toksOf s).length ∧ (renameOf s old name).1.size ≤ 2500 ∧
    ∀ (i : Nat) (a b : Tk), (toksOf s)[i]? = some a → (toksOf (renameOf s old name).1)[i]? = some b → a.kind = b.kind ∧ ((a.text = b.text ∧ a.text ≠ old) ∨ (a.kind = 1 ∧ a.text = old ∧ b.text = name)) := by
  obtain ⟨h1, hold, hname, h4, h5, h6, h7⟩ := renameOf_ok h
  rw [h7]
  clear h h7
  obtain ⟨hsz, hte, htk, h9, hord⟩ := tokensOf_ok h1
  have hE := tokens_errs h1
  have hP : placesOf (nameTk name) (toksAt s 0) = [] := by rw [← toksOf_at h1]; exact List.length_eq_zero_iff.1 h5
  have hren : renOut s name old.size 0 (placesOf (nameTk old) (toksOf s)) = renAt s old name 0 := by rw [toksOf_at h1]; rfl
  have hlen := renOut_length s name old.size (placesOf (nameTk old) (toksOf s)) 0 (Int.le_refl _) (Int.natCast_nonneg _) (by
    have := places_apart s.size (nameTk old) (tokensOf s).1 0 hord
    exact this)
  rw [hren] at hlen ⊢
  obtain ⟨t, ht⟩ : ∃ t : ByteArray, ⟨(renAt s old name 0).toArray⟩ = t := ⟨_, rfl⟩
  have hd : t.data.toList = renAt s old name 0 := by rw [← ht]
  rw [ht]
  have htz : (t.size : Int) = s.size + (placesOf (nameTk old) (toksOf s)).length * ((name.size : Int) - old.size) := by rw [← bytes_length t, hd, hlen]; omega
  obtain ⟨s1, s2, s3, s4⟩ := ren_sim hold hname s.size 0 [] (by omega) (by omega) hE hP (by rw [hd]; rfl)
  have s1' : ((pieces t).filter isTok).map Item.kt = ((pieces s).filter isTok).map (renKt old name) := s1
  have s2' : ∀ x ∈ pieces t, isTok x = true → x.err = 0 := s2
  have s3' : renAt t name old 0 = s.data.toList := by
    have := s3
    rw [show (s.extract 0 s.size).data.toList = s.data.toList by rw [extract_all]] at this
    exact this
  have s4' : (placesOf (nameTk name) (toksAt t 0)).length = (placesOf (nameTk old) (toksAt s 0)).length := s4
  clear s1 s2 s3 s4
  have htx : textErr t = (0, 0) := textErr_none (by omega) (by
    rw [hd, ← hren]
    exact allText_ren (textErr_all hte).2 (fun c hc => (tokOk_bytes hname hc).2) _ _)
  have hfl : ((pieces t).filter isTok).length = ((pieces s).filter isTok).length := by
    have := congrArg List.length s1'
    rwa [List.length_map, List.length_map] at this
  have htt : tokensOf t = ((pieces t).filter isTok, 0, 0) := by
    unfold tokensOf
    rw [htx, if_neg (by simp), tokScan_full (pieces t) [] s2' (by rw [hfl, ← htk]; simp only [List.length_nil]; omega)]
    rfl
  have hok2 : (tokensOf t).2.2 = 0 := by rw [htt]
  have hat := toksOf_at hok2
  have hpl : (placesOf (nameTk name) (toksOf t)).length = (placesOf (nameTk old) (toksOf s)).length := by rw [hat, toksOf_at h1]; exact s4'
  have htoks : toksOf t = ((pieces t).filter isTok).map Item.tk := toksOf_ok hok2
  have hsoks : toksOf s = ((pieces s).filter isTok).map Item.tk := toksOf_ok h1
  have hnn : ∀ z ∈ (pieces s).filter isTok, ¬ isOld name z := fun z hz ho => by
    have hpm : (z.pos : Int) ∈ placesOf (nameTk name) (toksAt s 0) := by
      unfold placesOf toksAt
      refine List.mem_map.2 ⟨z.tk, List.mem_filter.2 ⟨List.mem_map.2 ⟨z, hz, rfl⟩, ?_⟩, rfl⟩
      rw [decide_eq_true_eq]
      refine ⟨?_, ho.2⟩
      show (z.kind : Int) = 1
      rw [ho.1]; rfl
    rw [hP] at hpm; cases hpm
  have hne : old ≠ name := fun e => by
    subst e
    exact h4 h5
  have hget : ∀ (i : Nat) (a b : Tk), (toksOf s)[i]? = some a → (toksOf t)[i]? = some b → ∃ z, z ∈ (pieces s).filter isTok ∧ a = z.tk ∧ b.kt = renKt old name z := fun i a b ha hb => by
    rw [hsoks, List.getElem?_map, Option.map_eq_some_iff] at ha
    rw [htoks, List.getElem?_map, Option.map_eq_some_iff] at hb
    obtain ⟨z, hz, rfl⟩ := ha
    obtain ⟨y, hy, rfl⟩ := hb
    refine ⟨z, List.mem_of_getElem? hz, rfl, ?_⟩
    have e1 : (((pieces t).filter isTok).map Item.kt)[i]? = some y.kt := by rw [List.getElem?_map, hy]; rfl
    rw [s1', List.getElem?_map, hz] at e1
    exact (Option.some.inj e1).symm
  have hno : (placesOf (nameTk old) (toksOf t)).length = 0 := by
    rw [List.length_eq_zero_iff]
    unfold placesOf
    rw [List.map_eq_nil_iff, List.filter_eq_nil_iff]
    intro b hb hc
    rw [decide_eq_true_eq] at hc
    obtain ⟨i, hi, hbi⟩ := List.getElem_of_mem hb
    have hb2 : (toksOf t)[i]? = some b := by rw [List.getElem?_eq_getElem hi, hbi]
    have hi2 : i < (toksOf s).length := by rw [hsoks, List.length_map, ← hfl]; rw [htoks, List.length_map] at hi; exact hi
    obtain ⟨z, hz, hza, hzb⟩ := hget i _ b (List.getElem?_eq_getElem hi2) hb2
    unfold renKt at hzb
    split at hzb
    · have : b.text = name := congrArg Prod.snd hzb
      exact hne (hc.2.symm.trans this)
    · rename_i hno
      apply hno
      have e1 : b.kind = (z.kind : Int) := congrArg Prod.fst hzb
      have e2 : b.text = z.text := congrArg Prod.snd hzb
      have e3 : b.kind = 1 := hc.1
      exact ⟨by omega, e2.symm.trans hc.2⟩
  have hcount : (placesOf (nameTk old) (toksOf s)).length * ((name.size : Int) - old.size) + (placesOf (nameTk old) (toksOf s)).length * ((old.size : Int) - name.size) = 0 := by
    rw [← Int.mul_add]
    have : (name.size : Int) - old.size + ((old.size : Int) - name.size) = 0 := by omega
    rw [this, Int.mul_zero]
  refine ⟨?_, h1, hok2, by rw [htoks, hsoks, List.length_map, List.length_map, hfl], by omega, fun i a b ha hb => ?_⟩
  · unfold renameOf
    have hall : [nameTk name, nameTk old].all tokOk = true := by simp [hold, hname]
    rw [if_neg (by omega), hall, if_neg (by simp), if_neg (by rw [hpl]; exact h4), if_neg (by omega), hpl, if_neg (by omega)]
    have : renOut t old name.size 0 (placesOf (nameTk name) (toksOf t)) = renAt t name old 0 := by rw [hat]; rfl
    rw [this, s3']
  · obtain ⟨z, hz, rfl, hzb⟩ := hget i a b ha hb
    have hzok : tokOk z.tk = true := by
      have := items_right (s := s) _ 0 (Nat.le_refl _) hE
      exact List.all_eq_true.1 this _ (List.mem_map.2 ⟨z, hz, rfl⟩)
    unfold renKt at hzb
    split at hzb
    · rename_i ho
      have e1 : b.kind = 1 := congrArg Prod.fst hzb
      have e2 : b.text = name := congrArg Prod.snd hzb
      have e3 : z.tk.kind = 1 := by show (z.kind : Int) = 1; rw [ho.1]; rfl
      exact ⟨by rw [e1, e3], .inr ⟨e3, ho.2, e2⟩⟩
    · rename_i hno
      have e1 : b.kind = z.tk.kind := congrArg Prod.fst hzb
      have e2 : b.text = z.tk.text := congrArg Prod.snd hzb
      refine ⟨e1.symm, .inl ⟨e2.symm, fun e => hno ⟨?_, e⟩⟩⟩
      obtain ⟨_, _, k3, _⟩ := tokOk_parts hzok
      rw [e, (isName_parts hold).2.2.1] at k3
      have k3' : ((1 : Nat) : Int) = (z.kind : Int) := k3
      omega
end Go.Proofs.YtchkngabppmbkaaDoor.Lx
