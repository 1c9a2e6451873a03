/-
  WALKS: the reference's Rename.
-/
import Derived.Test.YtlkhlemafkfcbaaDoorLexZI
import Derived.Test.YtlkhlemafkfcbaaDoorLexZB
import Derived.Test.YtlkhlemafkfcbaaDoorLexP
import Derived.Test.YtlkhlemafkfcbaaDoorSpecO
namespace Go.Proofs.YtlkhlemafkfcbaaDoor
open Go.RowKit

/-- What a call leaves that returns a text and an error. -/
def TextRet (R : ByteArray × Nat) (w : World) (e : Ending) (w' : World) : Prop := e = .returned (.tuple #[.string R.1, .int .i64 (R.2 : Int)]) ∧ Below w.heap.size w w'
theorem textRet {R : ByteArray × Nat} {w w' : World} {e : Ending} {a : ByteArray} {n : Nat} (hR : R = (a, n)) (he : e = .returned (.tuple #[.string a, .int .i64 (n : Int)])) (hB : Below w.heap.size w w') : TextRet R w e w' := by
  subst hR; exact ⟨he, hB⟩

set_option maxRecDepth 100000 in
set_option maxHeartbeats 8000000 in
theorem refRename_loop (s old name : ByteArray) (w : World) (ho : old.size ≤ 1000000) (hn : name.size ≤ 1000000) (h0 : (Lx.tokensOf s).2.2 = 0) (hz : s.size ≤ 281474976710656)
    (hro : Lx.tokOk (Lx.nameTk old) = true) (hrn : Lx.tokOk (Lx.nameTk name) = true) :
    Calls Tryd.prog 47 #[.string s, .string old, .string name] w (TextRet (Lx.renameOf s old name) w) := by
  obtain ⟨hsm, -, -, h900, hord⟩ := Lx.tokensOf_ok h0
  obtain ⟨R, hR⟩ : ∃ R, Lx.renameOf s old name = R := ⟨_, rfl⟩
  rw [hR]
  rw [Lx.renameOf, if_neg (by omega), if_neg (by simp [hro, hrn])] at hR
  have hap := Lx.places_apart s.size (Lx.nameTk old) _ _ hord
  change Lx.apart s.size old.size (0 : Nat) (Lx.placesOf (Lx.nameTk old) (Lx.toksOf s)) at hap
  have hlt : (Lx.toksOf s).length = (Lx.tokensOf s).1.length := by simp [Lx.toksOf]
  have hlen := Lx.renOut_length s name old.size _ 0 (by omega) (by omega) hap
  have HT := Lib.hid (refTokens_any s w hz)
  unfold ToksRet at HT
  rw [h0] at HT
  have HI1 := Lib.hid (fun W => refIsName_any old W (by omega))
  have HI2 := Lib.hid (fun W => refIsName_any name W (by omega))
  have hro' : Lx.tokOk ⟨1, old, 0⟩ = true := hro
  have hrn' : Lx.tokOk ⟨1, name, 0⟩ = true := hrn
  rw [hro'] at HI1
  rw [hrn'] at HI2
  obtain ⟨P, hP⟩ : ∃ P, Lx.placesOf (Lx.nameTk old) (Lx.toksOf s) = P := ⟨_, rfl⟩
  obtain ⟨P2, hP2⟩ : ∃ P2, Lx.placesOf (Lx.nameTk name) (Lx.toksOf s) = P2 := ⟨_, rfl⟩
  have hPl := placesOf_len (Lx.nameTk old) (Lx.toksOf s)
  rw [hP] at hR hap hlen hPl
  rw [hP2] at hR
  have hTL : (Lx.toksOf s) = (Lx.tokensOf s).1.map Lx.Item.tk := rfl
  generalize (Lx.tokensOf s).2.1 = pp at *
  generalize (Lx.tokensOf s).1 = L at *
  obtain ⟨TL, hTLe⟩ : ∃ TL, Lx.toksOf s = TL := ⟨_, rfl⟩
  rw [hTLe] at hP hP2 hlt hTL hPl
  obtain ⟨O, hO⟩ : ∃ O, Lx.renOut s name old.size 0 P = O := ⟨_, rfl⟩
  rw [hO] at hR hlen
  have HR := Lib.hid hR; have HAP := Lib.hid hap; have HLN := Lib.hid hlen; have HP := Lib.hid hP; have HP2 := Lib.hid hP2; have HO := Lib.hid hO
  have HTL := Lib.hid hTL; have HLL := Lib.hid hlt
  have hLn : L.length ≤ 900 := h900
  have hTLn : TL.length ≤ 900 := by omega
  have HPL := Lib.hid hPl
  have HSQ := Lib.hid str_eq
  clear hR hap hlen hP hP2 hO hTL hlt hTLe hro hrn hro' hrn' h0 hord hPl
  go_enter Tryd.func47, Tryd.ntmps47
  go_wp2_with (first
    | (go_at_call 20; refine HT.out.mono ?_; rintro e w1 ⟨v, rfl, hown, hB1⟩; obtain ⟨ao, cap, rfl, htk⟩ := own_tks hown; have HTK := Lib.hid htk; clear hown htk)
    | (go_at_call 78; refine (HI2.out w2).mono ?_; rintro e w3 ⟨rfl, hB3⟩; have hB13 := hB12.trans (hB3.mono hB12.size); have HK3 := Lib.hid ((HTK.out.below (hB2.trans (hB3.mono hB2.size))).mono (Nat.le_trans hB2.size hB3.size)))
    | (go_at_call 78; refine (HI1.out w1).mono ?_; rintro e w2 ⟨rfl, hB2⟩; have hB12 := hB1.trans (hB2.mono hB1.size)))
  have HKT : Hid (Tks w3 w3.heap.size ao TL) := by have := HK3.out; rw [← HTL.out] at this; exact this
  clear HK3
  go_loop [11, 12, 13, 14, 15] (fun o d m t i => ∃ (k n : Nat) (q : Int) (out : ByteArray) (tw : Bool), k ≤ TL.length ∧ i = .int .i64 k ∧ m = .int .i64 n ∧ d = .int .i64 q ∧ o = .string out ∧ t = .bool tw ∧ n ≤ k ∧ 0 ≤ q ∧ q ≤ s.size ∧ out.size ≤ k * 2000000 ∧
      Hid (P.length = n + (Lx.placesOf (Lx.nameTk old) (TL.drop k)).length) ∧ Hid (decide (0 < P2.length) = (tw || decide (0 < (Lx.placesOf (Lx.nameTk name) (TL.drop k)).length))) ∧
      Hid (O = out.data.toList ++ Lx.renOut s name old.size q (Lx.placesOf (Lx.nameTk old) (TL.drop k))) ∧ Hid (Lx.apart s.size old.size q (Lx.placesOf (Lx.nameTk old) (TL.drop k)))) (fun _ _ _ _ i => TL.length - (intOf i).toNat)
  case atStart => exact ⟨0, 0, 0, ⟨#[]⟩, false, Nat.zero_le _, rfl, rfl, rfl, rfl, rfl, Nat.le_refl _, by omega, by omega, by simp [ByteArray.size], by rw [Hid, List.drop_zero, HP.out]; omega, by rw [Hid, List.drop_zero, HP2.out]; rfl, by rw [Hid, List.drop_zero, HP.out]; exact HO.out.symm, by rw [Hid, List.drop_zero, HP.out]; exact HAP.out⟩
  case round =>
    obtain ⟨k, n, q, out, tw, hk, rfl, rfl, rfl, rfl, rfl, hnk, hq0, hq1, hos, hcnt, htw, hren, hapt⟩ := hrel
    by_cases hlt : k < TL.length
    · have hltL : k < L.length := by have := HLL.out; omega
      obtain ⟨b, off, rfl, hbB, hc⟩ := HKT.out (by intro e; subst e; simp at hlt)
      obtain ⟨x, hx⟩ : ∃ x, TL[k]? = some x := ⟨_, List.getElem?_eq_getElem hlt⟩
      obtain ⟨e1, e2, e3⟩ := hc k x hx
      have hd : TL.drop k = x :: TL.drop (k + 1) := by rw [List.drop_eq_getElem_cons hlt]; rw [List.getElem?_eq_getElem hlt] at hx; injection hx with hx; rw [hx]
      have hcnt' := hcnt.out; have htw' := htw.out; have hren' := hren.out; have hapt' := hapt.out
      rw [hd, Lx.placesOf_cons] at hcnt' htw' hren' hapt'
      have HOS2 := Lib.hid (show out.size ≤ (k + 1) * 2000000 from Nat.le_trans hos (Nat.mul_le_mul_right _ (Nat.le_succ k)))
      have hqn := HSQ.out x.text name
      have hqo := HSQ.out x.text old
      clear hd hx hc hcnt htw hren hapt
      have hk1 : ((x.kind : Int) == 1) = decide (x.kind = 1) := by rw [Bool.eq_iff_iff, beq_iff_eq, decide_eq_true_eq]
      -- the new name
      obtain ⟨tw2, htw2⟩ : ∃ tw2 : Bool, (tw || decide (x.kind = 1 ∧ x.text = name)) = tw2 := ⟨_, rfl⟩
      have HTW : Hid (decide (0 < P2.length) = (tw2 || decide (0 < (Lx.placesOf (Lx.nameTk name) (TL.drop (k + 1))).length))) := by
        rw [Hid, htw', ← htw2]
        by_cases h : x.kind = (Lx.nameTk name).kind ∧ x.text = (Lx.nameTk name).text
        · rw [if_pos h, decide_eq_true (show x.kind = 1 ∧ x.text = name from h)]; simp
        · rw [if_neg h, decide_eq_false (show ¬ (x.kind = 1 ∧ x.text = name) from h)]; simp
      clear htw'
      by_cases hko : x.kind = 1 ∧ x.text = old
      · have hif : x.kind = (Lx.nameTk old).kind ∧ x.text = (Lx.nameTk old).text := hko
        rw [if_pos hif] at hcnt' hren' hapt'
        rw [Lx.apart] at hapt'
        rw [Lx.renOut] at hren'
        obtain ⟨g1, g2, g3⟩ := hapt'
        have hsz : (s.extract q.toNat x.pos.toNat).size ≤ 2500 := by rw [ByteArray.size_extract]; omega
        have ad1 : ∀ W : World, (Op.stringOp .add (s.extract q.toNat x.pos.toNat) name).run Tryd.prog W = .ok (.string (s.extract q.toNat x.pos.toNat ++ name)) W := fun W => run_string_add_sum (w := W) _ _ (by omega)
        have hs2 : (s.extract q.toNat x.pos.toNat ++ name).size ≤ 1002500 := by rw [ByteArray.size_append]; omega
        have ad2 : ∀ W : World, (Op.stringOp .add out (s.extract q.toNat x.pos.toNat ++ name)).run Tryd.prog W = .ok (.string (out ++ (s.extract q.toNat x.pos.toNat ++ name))) W := fun W => run_string_add_sum (w := W) _ _ (by omega)
        have hs3 : (out ++ (s.extract q.toNat x.pos.toNat ++ name)).size ≤ (k + 1) * 2000000 := by rw [ByteArray.size_append]; omega
        have HC := Lib.hid hcnt'; have HN := Lib.hid hren'; have HG := Lib.hid g3; have HZ := Lib.hid hs3
        obtain ⟨hk2, hto⟩ := hko
        rw [hk2] at hk1 e1
        rw [decide_eq_true hto] at hqo
        have hk3 : ((1 : Int) == 1) = true := rfl
        have hqo2 : (x.text.toList == old.toList) = true := hqo
        have htwx : tw2 = (tw || decide (x.text = name)) := by rw [← htw2, hk2]; simp
        clear hcnt' hren' g3 hs3 hif hk1 hk2 htw2 hqo
        cases hnm : decide (x.text = name)
        · rw [hnm] at hqn htwx
          have hnn := of_decide_eq_false hnm
          rw [Bool.or_false] at htwx
          subst htwx
          clear hnm hnn hto
          go_wp2
          go_round
          case rel => exact ⟨k + 1, n + 1, x.pos + old.size, _, _, by omega, by go_num, by go_num, rfl, rfl, rfl, by omega, by omega, by omega, HZ.out, by rw [Hid, HC.out, List.length_cons]; omega, HTW.out, by rw [Hid, HN.out, bytes_append, bytes_append]; simp, HG.out⟩
          case measure => simp [intOf]; omega
        · rw [hnm] at hqn htwx
          rw [Bool.or_true] at htwx
          subst htwx
          clear hnm hto
          go_wp2
          go_round
          case rel => exact ⟨k + 1, n + 1, x.pos + old.size, _, _, by omega, by go_num, by go_num, rfl, rfl, rfl, by omega, by omega, by omega, HZ.out, by rw [Hid, HC.out, List.length_cons]; omega, HTW.out, by rw [Hid, HN.out, bytes_append, bytes_append]; simp, HG.out⟩
          case measure => simp [intOf]; omega
      · have hif : ¬ (x.kind = (Lx.nameTk old).kind ∧ x.text = (Lx.nameTk old).text) := hko
        rw [if_neg hif] at hcnt' hren' hapt'
        have HC := Lib.hid hcnt'; have HN := Lib.hid hren'; have HG := Lib.hid hapt'
        clear hcnt' hren' hapt' hif
        by_cases hk2 : x.kind = 1
        · rw [hk2] at hk1 e1
          have hno : ¬ x.text = old := fun h => hko ⟨hk2, h⟩
          rw [decide_eq_false hno] at hqo
          have htwx : tw2 = (tw || decide (x.text = name)) := by rw [← htw2, hk2]; simp
          clear hk1 hk2 htw2 hko hno
          cases hnm : decide (x.text = name)
          · rw [hnm] at hqn htwx
            rw [Bool.or_false] at htwx
            subst htwx
            clear hnm
            go_wp2
            go_round
            case rel => exact ⟨k + 1, n, q, out, _, by omega, by go_num, rfl, rfl, rfl, rfl, by omega, by omega, by omega, HOS2.out, HC.out, HTW.out, HN.out, HG.out⟩
            case measure => simp [intOf]; omega
          · rw [hnm] at hqn htwx
            rw [Bool.or_true] at htwx
            subst htwx
            clear hnm
            go_wp2
            go_round
            case rel => exact ⟨k + 1, n, q, out, _, by omega, by go_num, rfl, rfl, rfl, rfl, by omega, by omega, by omega, HOS2.out, HC.out, HTW.out, HN.out, HG.out⟩
            case measure => simp [intOf]; omega
        · rw [decide_eq_false hk2] at hk1
          have htwx : tw2 = tw := by rw [← htw2, decide_eq_false (fun h : x.kind = 1 ∧ x.text = name => hk2 h.1), Bool.or_false]
          subst htwx
          clear hk2 htw2 hko hqn hqo
          go_wp2
          go_round
          case rel => exact ⟨k + 1, n, q, out, _, by omega, by go_num, rfl, rfl, rfl, rfl, by omega, by omega, by omega, HOS2.out, HC.out, HTW.out, HN.out, HG.out⟩
          case measure => simp [intOf]; omega
    · obtain rfl : k = TL.length := by omega
      have hgeL : L.length ≤ TL.length := by have := HLL.out; omega
      have hcnt' := hcnt.out; have htw' := htw.out; have hren' := hren.out
      rw [List.drop_length] at hcnt' htw' hren'
      have hnP : P.length = n := by simpa [Lx.placesOf] using hcnt'
      have htP : decide (0 < P2.length) = tw := by simpa [Lx.placesOf] using htw'
      have hO : O = out.data.toList ++ (s.extract q.toNat s.size).data.toList := by simpa [Lx.placesOf, Lx.renOut] using hren'
      have hsz : (s.extract q.toNat s.size).size ≤ 2500 := by rw [ByteArray.size_extract]; omega
      have ad1 : ∀ W : World, (Op.stringOp .add out (s.extract q.toNat s.size)).run Tryd.prog W = .ok (.string (out ++ s.extract q.toNat s.size)) W := fun W => run_string_add_sum (w := W) _ _ (by omega)
      have hV : out ++ s.extract q.toNat s.size = ⟨O.toArray⟩ := bytes_eq (by rw [bytes_append, hO])
      have hVs : (out ++ s.extract q.toNat s.size).size = O.length := by rw [hV]; simp [ByteArray.size]
      have hln := HLN.out
      rw [hnP] at hln
      have HV := Lib.hid hV
      have hR' := HR.out
      rw [hnP] at hR'
      clear hcnt hcnt' htw htw' hren hren' hapt hO hV
      by_cases h0 : n = 0
      · rw [if_pos h0] at hR'
        have HX := Lib.hid hR'.symm
        have hd0 : ((n : Int) == 0) = true := by rw [beq_iff_eq]; omega
        clear hR' h0 hnP htP hln hVs
        go_wp2
        go_ret2
        exact textRet HX.out rfl hB13
      · rw [if_neg h0] at hR'
        have hd0 : ((n : Int) == 0) = false := by rw [beq_eq_false_iff_ne]; omega
        cases tw
        · rw [if_neg (by have := of_decide_eq_false htP; omega)] at hR'
          have hnum : ((out ++ s.extract q.toNat s.size).size : Int) = (s.size : Int) + (n : Int) * ((name.size : Int) - (old.size : Int)) := by rw [hVs, hln]; omega
          have hsum : ((out ++ s.extract q.toNat s.size).size : Int) = (out.size : Int) + ((s.size - q.toNat : Nat) : Int) := by rw [ByteArray.size_append, ByteArray.size_extract]; omega
          rw [hsum] at hnum
          by_cases hbig : 2500 < (s.size : Int) + (n : Int) * ((name.size : Int) - (old.size : Int))
          · rw [if_pos hbig] at hR'
            have HX := Lib.hid hR'.symm
            have hd1 : (out.size : Int) + ((s.size - q.toNat : Nat) : Int) > 2500 := by rw [hnum]; exact hbig
            clear hR' h0 hnP htP hln hVs hnum hbig hsum
            go_wp2
            go_ret2
            exact textRet HX.out rfl hB13
          · rw [if_neg hbig] at hR'
            have HX := Lib.hid hR'.symm
            have hd1 : (out.size : Int) + ((s.size - q.toNat : Nat) : Int) ≤ 2500 := by rw [hnum]; exact Int.not_lt.1 hbig
            clear hR' h0 hnP htP hln hVs hnum hbig hsum
            go_wp2
            go_ret2
            exact textRet HX.out (by rw [HV.out]; rfl) hB13
        · rw [if_pos (of_decide_eq_true htP)] at hR'
          have HX := Lib.hid hR'.symm
          clear hR' h0 hnP htP hln hVs
          go_wp2
          go_ret2
          exact textRet HX.out rfl hB13
end Go.Proofs.YtlkhlemafkfcbaaDoor
