/-
  WALKS: the reference's tokens and comments of a text.
-/
import Derived.Test.YtchkngabppmbkaaDoorLexZG
import Derived.Test.YtchkngabppmbkaaDoorLexJ
import Derived.Test.YtchkngabppmbkaaDoorLexL
import Derived.Test.YtchkngabppmbkaaDoorLexR
namespace Go.Proofs.YtchkngabppmbkaaDoor
open Go.RowKit

theorem blank_byte (c : UInt8) : Lx.isBlank c = (c.toNat == 32 || c.toNat == 10) := by
  have h : ∀ n : Fin 256, Lx.isBlank (UInt8.ofNat n.val) = (n.val == 32 || n.val == 10) := by decide +kernel
  have := h ⟨c.toNat, c.toNat_lt⟩
  simpa using this
theorem tilde_byte (c : UInt8) : (Lx.cls c == 6) = (c.toNat == 126) := by
  have h : ∀ n : Fin 256, (Lx.cls (UInt8.ofNat n.val) == 6) = (n.val == 126) := by decide +kernel
  have := h ⟨c.toNat, c.toNat_lt⟩
  simpa using this
theorem piece_kind {s : ByteArray} {k : Nat} (h : Lx.cls (Lx.byteAt s k) ≠ 6) : (Lx.piece s k).1 ≠ 5 := by
  unfold Lx.piece
  rw [if_neg h]
  (repeat' split) <;> simp

/-- What All leaves. -/
def AllRet (R : List Lx.Item × Nat × Nat) (w : World) (e : Ending) (w' : World) : Prop := ∃ v vn, e = .returned (.tuple #[v, vn, .int .i64 (R.2.1 : Int), .int .i64 (R.2.2 : Int)]) ∧
  w'.ownsRow w.heap.size 63 3 v R.1.length (toksCells R.1) ∧ Below w.heap.size w w'
theorem allRet_none {R : List Lx.Item × Nat × Nat} {p n : Nat} {w w' : World} {e : Ending} (hR : R = ([], p, n)) (he : e = .returned (.tuple #[.slice none 0 0, .slice none 0 0, .int .i64 (p : Int), .int .i64 (n : Int)])) (hB : Below w.heap.size w w') : AllRet R w e w' := by
  subst hR; exact ⟨_, _, he, World.ownsRow_nil _ _ _ _, hB⟩
/-- Two rows of one's own apart. -/
def RowsApart (v vn : Value) : Prop := ∀ b, v.ownBlock = some b → vn.ownBlock ≠ some b
theorem kept_apart {w w' : World} {B : Nat} {e : TypeId} {size n : Nat} {v vn : Value} {xs : List Value} (h : w.ownsRow B e size v n xs) (hg : w.grownBy w' vn.ownBlock) (ha : RowsApart v vn) : w'.ownsRow B e size v n xs := by
  refine h.kept hg ?_
  cases hb : v.ownBlock with
  | none => exact .inl rfl
  | some b => exact .inr fun h2 => ha b hb h2.symm
theorem apart_new {w : World} {B : Nat} {e : TypeId} {size n : Nat} {v vn v' : Value} {xs : List Value} {g : Nat} (h : w.ownsRow B e size v n xs) (hg : w.heap.size ≤ g) (ha : RowsApart v vn) (hat : v'.ownBlock = vn.ownBlock ∨ v'.ownBlock = some g) : RowsApart v v' := fun b hb h2 => by
  rcases hat with e | e
  · exact ha b hb (e ▸ h2)
  · have := own_lt h hb.symm
    rw [e] at h2
    injection h2 with h2
    omega
theorem RowsApart.symm {v vn : Value} (h : RowsApart v vn) : RowsApart vn v := fun b h1 h2 => h b h2 h1

theorem cells_at2 (w2 : World) (X : Obj) (l : List Value) (t : TypeId) : ∀ j u, l[j]? = some u → ((w2.alloc X).alloc (.cells ⟨l⟩ t)).cell? ((⟨w2.heap.size + 1, 0, none⟩ : Addr).add j) = some u := by
  have := cells_new (w2.alloc X) l t
  rwa [World.size_alloc] at this

set_option maxRecDepth 100000 in
set_option maxHeartbeats 8000000 in
theorem refAll_any (s : ByteArray) (w : World) (hs : s.size ≤ 2500) :
    Calls Tryd.prog 52 #[.string s] w (AllRet (Lx.tokScan [] (Lx.pieces s)) w) := by
  obtain ⟨i0, hi, hz0, hz1, hz2⟩ := info_parts infoTok
  obtain ⟨R, hR⟩ : ∃ R, Lx.tokScan [] (Lx.pieces s) = R := ⟨_, rfl⟩
  rw [hR]
  have HR := Lib.hid hR; clear hR
  have HN := Lib.hid (fun k W (hk : k ≤ s.size) => refNote_any s k W (by omega) hk)
  have HT := Lib.hid (fun k W (hk : k < s.size) => refToken_any s k W (by omega) hk)
  go_enter Tryd.func52, Tryd.ntmps52
  go_wp2
  go_loopw [6, 7, 8] (fun v vn i wr => ∃ (k m : Nat) (acc : List Lx.Item) (ys : List Value), k ≤ s.size ∧ i = .int .i64 k ∧ acc.length ≤ 900 ∧ m ≤ k ∧ Hid (Lx.tokScan acc (Lx.piecesAt s k) = R) ∧
      Hid (wr.ownsRow w.heap.size 63 3 v acc.length (toksCells acc)) ∧ Hid (wr.ownsRow w.heap.size 63 3 vn m ys) ∧ Hid (RowsApart v vn) ∧ Below w.heap.size w wr) (fun _ _ i _ => s.size - (intOf i).toNat)
  case atStart => exact ⟨0, 0, [], [], Nat.zero_le _, rfl, by simp, Nat.le_refl _, HR.out, World.ownsRow_nil _ _ _ _, World.ownsRow_nil _ _ _ _, (fun b h => by cases h), Below.refl _ _⟩
  case round =>
    obtain ⟨k, m, acc, ys, hk, rfl, hacc, hm, hsc, hown, hnot, hap, hB⟩ := hrel
    have hszr := hB.size
    obtain ⟨vo, vc, rfl⟩ := own_slice_form hown.out
    obtain ⟨no, nc, rfl⟩ := own_slice_form hnot.out
    by_cases hlt : k < s.size
    · have hbb := blank_byte s[k]
      have htb := tilde_byte s[k]
      have hcl : Lx.byteAt s k = s[k] := Lx.byteAt_eq s k hlt
      by_cases hbl : Lx.isBlank s[k] = true
      · have HX := Lib.hid ((congrArg (Lx.tokScan acc) (Lx.piecesAt_blank hlt hbl)).symm.trans hsc.out)
        rw [hbl] at hbb
        have h3 : ((((s[k].toNat : Nat) : Int) == 32) = true) ∨ (((((s[k].toNat : Nat) : Int) == 32) = false) ∧ ((((s[k].toNat : Nat) : Int) == 10) = true)) := by
          have := hbb.symm
          rw [Bool.or_eq_true, beq_iff_eq, beq_iff_eq] at this
          rw [beq_iff_eq, beq_iff_eq, beq_eq_false_iff_ne]
          omega
        clear hbb htb hcl hbl
        rcases h3 with h3 | ⟨h3, h4⟩
        all_goals
          go_wp2
          go_roundw
          case rel => exact ⟨k + 1, m, acc, ys, by omega, by go_num, hacc, by omega, HX.out, hown.out, hnot.out, hap.out, hB⟩
          case measure => simp [intOf]; omega
      · have hbl : Lx.isBlank s[k] = false := by simpa using hbl
        have hit := Lx.piecesAt_item hlt hbl
        rw [hbl] at hbb
        have h3 : ((((s[k].toNat : Nat) : Int) == 32) = false) ∧ ((((s[k].toNat : Nat) : Int) == 10) = false) := by
          have := hbb.symm
          rw [Bool.or_eq_false_iff, beq_eq_false_iff_ne, beq_eq_false_iff_ne] at this
          rw [beq_eq_false_iff_ne, beq_eq_false_iff_ne]
          omega
        obtain ⟨h3, h4⟩ := h3
        have haf := Lx.after_gt hlt
        clear hbb
        by_cases h6 : Lx.cls s[k] = 6
        · have h5 : (((s[k].toNat : Nat) : Int) == 126) = true := by
            rw [h6] at htb
            have : (s[k].toNat == 126) = true := htb.symm
            rw [beq_iff_eq] at this ⊢
            omega
          have hnl : Lx.notNL s[k] = true := by
            unfold Lx.notNL
            rw [bne_iff_ne]
            intro e
            rw [e] at h4
            exact absurd h4 (by decide)
          have hE := Lx.runEnd_step hlt hnl
          have hge := Lx.runEnd_ge (p := Lx.notNL) (s := s) (k := k + 1)
          have hle := Lx.runEnd_le (p := Lx.notNL) (s := s) (k := k + 1) (by omega)
          have hia : Lx.itemAt s k = ⟨5, s.extract (k + 1) (Lx.runEnd Lx.notNL s (k + 1)), k, 0⟩ := by unfold Lx.itemAt Lx.piece; rw [hcl, if_pos h6]
          have hsz : (s.extract (k + 1) (Lx.runEnd Lx.notNL s (k + 1))).size = Lx.runEnd Lx.notNL s (k + 1) - (k + 1) := by rw [ByteArray.size_extract]; omega
          have haft : Lx.after (Lx.itemAt s k) = Lx.runEnd Lx.notNL s (k + 1) := by rw [hia]; unfold Lx.after; simp only [if_true]; rw [hsz]; omega
          have HX : Hid (Lx.tokScan acc (Lx.piecesAt s (Lx.runEnd Lx.notNL s k)) = R) := by
            have := hsc.out
            rw [hit, Lx.scan_note _ (by rw [hia]), haft] at this
            rw [Hid, hE]; exact this
          have HNk := Lib.hid (fun W => HN.out k W (by omega))
          have hNs : (s.extract k (Lx.runEnd Lx.notNL s k)).size = Lx.runEnd Lx.notNL s k - k := by rw [ByteArray.size_extract]; omega
          have hE1 : k + 1 ≤ Lx.runEnd Lx.notNL s k := by omega
          have hE2 : Lx.runEnd Lx.notNL s k ≤ s.size := by omega
          clear hE hge hle hia hsz haft hit hsc haf hnl htb hcl h6 hbl
          generalize Lx.runEnd Lx.notNL s k = E at *
          generalize s.extract k E = T at *
          have hT1 : 1 ≤ T.size := by omega
          have hT2 : T.size ≤ 2500 := by omega
          have hkE : E = k + T.size := by omega
          have HE := Lib.hid hkE
          clear hNs hkE
          have HO := Lib.hid hown.out; have HM := Lib.hid hnot.out; have HP := Lib.hid hap.out
          clear hown hnot hap
          go_wp2_with (first
            | (go_at_call 53; refine (HNk.out _).mono ?_; rintro e w' ⟨rfl, rfl⟩)
            | (at_builtin; go_loud (refine wpList_append_own_at _ rfl _ _ 23 rfl w.heap.size 63 i0 (.agg #[.int .u8 0, .string ⟨#[]⟩, .int .i64 0]) 3 32 Tryd.underlying23 hi hz0 hz1 hz2 rfl (by decide) _ _ _ rfl (HM.out.alloc _) ⟨wr.heap.size, 0, none⟩ 1 1 [.int .u8 5, .string (T.extract 1 T.size), .int .i64 (k : Int)] rfl rfl (cells_new _ _ _) (by simp [Value.oneCell']) (by unfold maxLen; omega) (by omega) (by simp; omega) ?_); intro v' w5 hown' hgrow _ hat; have hB5 := (hB.alloc hszr _).trans (below_grown (HM.out.alloc _) (by simp; omega) hgrow); have hO5 := kept_apart (HO.out.alloc _) hgrow HP.out; have hP5 := apart_new (HO.out.alloc (.cells #[.int .u8 5, .string (T.extract 1 T.size), .int .i64 (k : Int)] 63)) (Nat.le_refl _) HP.out hat))
          go_roundw
          case rel => exact ⟨E, m + 1, acc, _, hE2, by rw [HE.out]; go_num, hacc, by omega, HX.out, hO5, hown', hP5, hB5⟩
          case measure => have := HE.out; simp [intOf]; omega
        · have h5 : (((s[k].toNat : Nat) : Int) == 126) = false := by
            have : (s[k].toNat == 126) = false := by rw [← htb, beq_eq_false_iff_ne]; exact h6
            rw [beq_eq_false_iff_ne] at this ⊢
            omega
          have hkd := piece_kind (s := s) (k := k) (by rw [hcl]; exact h6)
          have HTk := Lib.hid (fun W => HT.out k W hlt)
          have hrp : Lx.refPiece s k = if (Lx.piece s k).2.2 = 0 then Lx.piece s k else (0, ⟨#[]⟩, (Lx.piece s k).2.2) := by unfold Lx.refPiece; rw [hcl, if_neg h6]
          rw [hrp] at HTk
          have hsc' := hsc.out
          rw [hit] at hsc'
          have haft : Lx.after (Lx.itemAt s k) = k + (Lx.piece s k).2.1.size := by unfold Lx.after Lx.itemAt; simp only [if_neg hkd]; omega
          rw [haft] at hsc' haf
          have hia : Lx.itemAt s k = ⟨(Lx.piece s k).1, (Lx.piece s k).2.1, k, (Lx.piece s k).2.2⟩ := rfl
          rw [hia] at hsc'
          have HO := Lib.hid hown.out; have HM := Lib.hid hnot.out; have HP := Lib.hid hap.out
          clear hrp haft hia hit hsc hcl htb h6 hbl hown hnot hap
          generalize Lx.piece s k = P at *
          obtain ⟨kd, tx, er⟩ := P
          simp only at hkd haf HTk hsc'
          by_cases her : er = 0
          · subst her
            rw [if_pos rfl] at HTk
            by_cases h9 : acc.length = 900
            · rw [Lx.scan_full _ hkd rfl h9] at hsc'
              have HV := Lib.hid hsc'.symm
              have hd9 : ((acc.length : Int) == 900) = true := by rw [beq_iff_eq]; omega
              clear hsc' h9
              go_wp2_with (go_at_call 85; refine (HTk.out _).mono ?_; rintro e w2 ⟨rfl, hB2⟩; dsimp only [refV, tokV]; simp only [if_true])
              have hB3 : Below w.heap.size w (w2.alloc (.cells #[.int .u8 (kd : Int), .string tx, .int .i64 (k : Int)] 63)) := (hB.trans (hB2.mono hszr)).alloc (Nat.le_trans hszr hB2.size) _
              refine bodyPost_ret (v := .tuple #[.slice none 0 0, .slice none 0 0, .int .i64 (k : Int), .int .i64 5]) (by simp [results, Tryd.results52, go_sem]) rfl (allRet_none HV.out rfl hB3)
            · rw [Lx.scan_tok _ hkd rfl h9] at hsc'
              have HX := Lib.hid hsc'
              have hd9 : ((acc.length : Int) == 900) = false := by rw [beq_eq_false_iff_ne]; omega
              have hacc9 : acc.length < 900 := by omega
              have htx : tx.size ≤ 2500 := by omega
              have haf1 := haf.1; have haf2 := haf.2
              clear hsc' h9 haf
              go_wp2_with (first
                | (go_at_call 85; refine (HTk.out _).mono ?_; rintro e w2 ⟨rfl, hB2⟩; dsimp only [refV, tokV]; simp only [if_true]; have hsz2 : w.heap.size ≤ w2.heap.size := Nat.le_trans hszr hB2.size; have hB3 : Below w.heap.size w (w2.alloc (.cells #[.int .u8 (kd : Int), .string tx, .int .i64 (k : Int)] 63)) := (hB.trans (hB2.mono hszr)).alloc hsz2 _; have hO3 := (ownsRow_below HO.out hB2).alloc (.cells #[.int .u8 (kd : Int), .string tx, .int .i64 (k : Int)] 63); have hM3 := (ownsRow_below HM.out hB2).alloc (.cells #[.int .u8 (kd : Int), .string tx, .int .i64 (k : Int)] 63); have hne3 : ∀ b, some b = (Value.slice vo acc.length vc).ownBlock → b ≠ w2.heap.size := fun b hb => by have := own_lt (ownsRow_below HO.out hB2) hb; omega)
                | (at_builtin; go_loud (refine wpList_append_own_at _ rfl _ _ 23 rfl w.heap.size 63 i0 (.agg #[.int .u8 0, .string ⟨#[]⟩, .int .i64 0]) 3 32 Tryd.underlying23 hi hz0 hz1 hz2 rfl (by decide) _ _ _ rfl (hO3.alloc _) ⟨w2.heap.size + 1, 0, none⟩ 1 1 [.int .u8 (kd : Int), .string tx, .int .i64 (k : Int)] rfl rfl (cells_at2 w2 _ _ _) (by simp [Value.oneCell']) (by unfold maxLen; omega) (by omega) (by simp; omega) ?_); intro v' w5 hown' hgrow _ hat; have hB5 := (hB3.alloc (by simp; omega) _).trans (below_grown (hO3.alloc _) (by simp; omega) hgrow); have hM5 := kept_apart (hM3.alloc _) hgrow HP.out.symm; have hP5 := (apart_new (hM3.alloc (.cells #[.int .u8 (kd : Int), .string tx, .int .i64 (k : Int)] 63)) (Nat.le_refl _) HP.out.symm hat).symm; have c1 : w5.cell? ⟨w2.heap.size, 1, none⟩ = some (.string tx) := (cell_grown (hO3.alloc _) hgrow (B := w2.heap.size) (j := 1) (by simp; omega) hne3).trans (by simp [go_sem])))
              go_roundw
              case rel => exact ⟨k + tx.size, m, acc ++ [(⟨kd, tx, k, 0⟩ : Lx.Item)], ys, by omega, by go_num, by rw [List.length_append, List.length_singleton]; omega, by omega, HX.out, by rw [Hid, List.length_append]; simpa [toksCells, tokCells] using hown', hM5, hP5, hB5⟩
              case measure => simp [intOf]; omega
          · rw [if_neg her] at HTk
            rw [Lx.scan_err _ hkd her] at hsc'
            have HV := Lib.hid hsc'.symm
            have he1 : ((er : Int) == 0) = false := by rw [beq_eq_false_iff_ne]; omega
            have he2 : ((er : Int) != 0) = true := by rw [bne_iff_ne]; omega
            have hrv : refV (0, ⟨#[]⟩, er) k = .agg #[.int .u8 0, .string ⟨#[]⟩, .int .i64 0] := by unfold refV; rw [if_neg her]; rfl
            unfold TokRet at HTk
            rw [hrv] at HTk
            clear hsc' her hrv
            go_wp2_with (go_at_call 85; refine (HTk.out _).mono ?_; rintro e w2 ⟨rfl, hB2⟩)
            have hB3 : Below w.heap.size w (w2.alloc (.cells #[.int .u8 0, .string ⟨#[]⟩, .int .i64 0] 63)) := (hB.trans (hB2.mono hszr)).alloc (Nat.le_trans hszr hB2.size) _
            refine bodyPost_ret (v := .tuple #[.slice none 0 0, .slice none 0 0, .int .i64 (k : Int), .int .i64 (er : Int)]) (by simp [results, Tryd.results52, go_sem]) rfl (allRet_none HV.out rfl hB3)
    · obtain rfl : k = s.size := by omega
      have hsc' := hsc.out
      rw [Lx.piecesAt_end (Nat.le_refl _), Lx.tokScan] at hsc'
      have HV := Lib.hid hsc'.symm
      have HO := Lib.hid hown.out
      clear hsc hsc' hown hnot hap
      go_wp2
      refine bodyPost_ret (v := .tuple #[.slice vo acc.length vc, .slice no m nc, .int .i64 0, .int .i64 0]) (by simp [results, Tryd.results52, go_sem]) rfl ?_
      unfold AllRet
      rw [HV.out]
      exact ⟨_, _, rfl, HO.out, hB⟩
end Go.Proofs.YtchkngabppmbkaaDoor

/-
  WALKS: the reference's Tokens and Notes.
-/
namespace Go.Proofs.YtchkngabppmbkaaDoor
open Go.RowKit

def ToksRet (R : List Lx.Item × Nat × Nat) (w : World) (e : Ending) (w' : World) : Prop := ∃ v, e = .returned (.tuple #[v, .int .i64 (R.2.1 : Int), .int .i64 (R.2.2 : Int)]) ∧
  w'.ownsRow w.heap.size 63 3 v R.1.length (toksCells R.1) ∧ Below w.heap.size w w'
theorem toksRet_none {R : List Lx.Item × Nat × Nat} {p n : Nat} {w w' : World} {e : Ending} (hR : R = ([], p, n)) (he : e = .returned (.tuple #[.slice none 0 0, .int .i64 (p : Int), .int .i64 (n : Int)])) (hB : Below w.heap.size w w') : ToksRet R w e w' := by
  subst hR; exact ⟨_, he, World.ownsRow_nil _ _ _ _, hB⟩

set_option maxRecDepth 100000 in
set_option maxHeartbeats 4000000 in
theorem refTokens_any (s : ByteArray) (w : World) (hs : s.size ≤ 281474976710656) :
    Calls Tryd.prog 20 #[.string s] w (ToksRet (Lx.tokensOf s) w) := by
  have HT := Lib.hid (fun W => refTextError_any s W (by omega))
  obtain ⟨R, hR⟩ : ∃ R, Lx.tokensOf s = R := ⟨_, rfl⟩
  rw [hR]
  unfold Lx.tokensOf at hR
  by_cases h0 : (Lx.textErr s).2 ≠ 0
  · rw [if_pos h0] at hR
    generalize (Lx.textErr s).1 = p at *
    generalize (Lx.textErr s).2 = er at *
    have h0' : ((er : Int) != 0) = true := by rw [bne_iff_ne]; omega
    have HV := Lib.hid hR.symm
    clear h0 hR
    go_enter Tryd.func20, Tryd.ntmps20
    go_wp2_with (go_at_call 51; refine (HT.out _).mono ?_; rintro e w1 ⟨rfl, rfl⟩)
    go_ret3
    exact toksRet_none HV.out rfl (Below.refl _ _)
  · have h0 : (Lx.textErr s).2 = 0 := by omega
    rw [if_neg (by omega)] at hR
    have hsm := Lx.textErr_le h0
    have HA := Lib.hid (fun W => refAll_any s W hsm)
    rw [h0] at HT
    generalize (Lx.textErr s).1 = p at *
    subst hR
    generalize Lx.tokScan [] (Lx.pieces s) = R at *
    clear h0
    go_enter Tryd.func20, Tryd.ntmps20
    go_wp2_with (first
      | (go_at_call 51; refine (HT.out _).mono ?_; rintro e w1 ⟨rfl, rfl⟩)
      | (go_at_call 52; refine (HA.out _).mono ?_; rintro e w1 ⟨v, vn, rfl, hown, hB1⟩; have HO := Lib.hid hown; clear hown))
    go_ret3
    exact ⟨_, rfl, HO.out, hB1⟩

theorem noteAt_eq {s : ByteArray} {k : Nat} (hk : k < s.size) (h6 : Lx.cls s[k] = 6) : Lx.itemAt s k = ⟨5, s.extract (k + 1) (Lx.runEnd Lx.notNL s (k + 1)), k, 0⟩ := by
  unfold Lx.itemAt Lx.piece; rw [Lx.byteAt_eq s k hk, if_pos h6]
end Go.Proofs.YtchkngabppmbkaaDoor
