/-
  WALKS: what two texts have in common; lex.Diff.
-/
import Derived.Test.YtchkngabppmbkaaDoorLexS
import Derived.Lib.ConvBytes
import Derived.WalkLawsBesides
import Derived.IntWalk
namespace Go.Proofs.YtchkngabppmbkaaDoor
open Go.RowKit

def BytesAt (w : World) (b : Nat) (s : ByteArray) : Prop := ∀ j (hj : j < s.size), w.cell? ⟨b, j, none⟩ = some (.int .u8 (s[j].toNat : Int))
theorem BytesAt.below {w w' : World} {B b : Nat} {s : ByteArray} (h : BytesAt w b s) (hb : b < B) (hB : Below B w w') : BytesAt w' b s := fun j hj => (hB.cell (p := ⟨b, j, none⟩) hb).trans (h j hj)

theorem byte_eq (x y : UInt8) : (((x.toNat : Nat) : Int) == ((y.toNat : Nat) : Int)) = (x == y) := by
  refine Bool.eq_iff_iff.2 ?_
  rw [beq_iff_eq, beq_iff_eq, Int.ofNat_inj, UInt8.toNat_inj]

set_option maxRecDepth 100000 in
set_option maxHeartbeats 1000000 in
theorem diffSame_any (x y : Int) (w : World) : Calls Tryd.prog 71 #[.int .u8 x, .int .u8 y] w fun e w' => e = .returned (.bool (x == y)) ∧ w' = w := by
  go_enter Tryd.func71, Tryd.ntmps71
  go_wp2
  go_ret
  exact ⟨rfl, rfl⟩

set_option maxRecDepth 100000 in
set_option maxHeartbeats 4000000 in
theorem common_bytes (s t : ByteArray) (b c cb cc : Nat) (w : World) (hs : s.size ≤ 281474976710656) (ht : t.size ≤ 281474976710656) (hb : BytesAt w b s) (hc : BytesAt w c t) (hbw : b < w.heap.size) (hcw : c < w.heap.size) :
    Calls Tryd.prog 72 #[.slice (some ⟨b, 0, none⟩) s.size cb, .slice (some ⟨c, 0, none⟩) t.size cc, .func (.func 71) #[] #[], .func (.func 71) #[] #[]] w fun e w' =>
      e = .returned (.tuple #[.int .i64 (Lx.headLen s t : Int), .int .i64 (Lx.tailLen s t : Int)]) ∧ Below w.heap.size w w' := by
  obtain ⟨M, hM⟩ : ∃ M, Lx.most s t = M := ⟨_, rfl⟩
  have hMs : M ≤ s.size := hM ▸ Nat.min_le_left _ _
  have hMt : M ≤ t.size := hM ▸ Nat.min_le_right _ _
  have HMin := Lib.hid (show min s.size t.size = M from hM)
  have HM := Lib.hid hM; clear hM
  obtain ⟨H, hH⟩ : ∃ H, Lx.headLen s t = H := ⟨_, rfl⟩
  have hHm : H ≤ M := hH ▸ HM.out ▸ Lx.headLen_le s t
  rw [hH]
  have HH := Lib.hid hH; clear hH
  obtain ⟨T, hT⟩ : ∃ T, Lx.tailLen s t = T := ⟨_, rfl⟩
  have hTm : H + T ≤ M := by have := Lx.tailLen_le s t; rw [HH.out, HM.out, hT] at this; exact this
  rw [hT]
  have HT := Lib.hid hT; clear hT
  have HB := Lib.hid hb; have HC := Lib.hid hc; clear hb hc
  go_enter Tryd.func72, Tryd.ntmps72
  go_wp2
  rw [show min (s.size : Int) (t.size : Int) = (M : Int) by have := HMin.out; omega]
  go_loopw [8] (fun i wr => ∃ k : Nat, k ≤ M ∧ i = .int .i64 k ∧ Hid (Lx.cnt (Lx.headP s t) (M - k) k = H) ∧ Below w.heap.size w wr) (fun i _ => M - (intOf i).toNat)
  case atStart => exact ⟨0, Nat.zero_le _, rfl, by have := HH.out; rw [Lx.headLen, HM.out] at this; exact this, Below.refl _ _⟩
  case round =>
    obtain ⟨k, hk, rfl, hn, hB⟩ := hrel
    have hks' : k < M → k < s.size := fun _ => by omega
    have hkt' : k < M → k < t.size := fun _ => by omega
    by_cases hc : k < M ∧ Lx.headP s t k = true
    · obtain ⟨hlt, hp⟩ := hc
      have hd : decide ((k : Int) < (M : Int)) = true := decide_eq_true (by omega)
      have c1 := HB.out.below hbw hB k (hks' hlt)
      have c2 := HC.out.below hcw hB k (hkt' hlt)
      have hks := hks' hlt; have hkt := hkt' hlt
      have hbe : ((((s[k]'hks).toNat : Nat) : Int) == (((t[k]'hkt).toNat : Nat) : Int)) = Lx.headP s t k := by
        unfold Lx.headP
        rw [Lx.byteAt_eq s k hks, Lx.byteAt_eq t k hkt, byte_eq]
      have HST := Lib.hid ((Lx.cnt_step (p := Lx.headP s t) (m := M) hlt hp).symm.trans hn.out)
      rw [hp] at hbe
      generalize (s[k]'hks).toNat = x at *
      generalize (t[k]'hkt).toNat = y at *
      clear hp hks' hkt'
      go_wp2
      go_quiet ((go_at_call 71; exact Calls.quiet_of_same (diffSame_any _ _ _)))
      go_wp2
      go_roundw
      case rel => exact ⟨k + 1, by omega, by go_num, HST.out, below_drewN hB _⟩
      case measure => simp [intOf]; omega
    · have hkH : Hid (k = H) := by
        by_cases hkm : k < M
        · have hp : Lx.headP s t k = false := by
            cases hq : Lx.headP s t k
            · rfl
            · exact absurd ⟨hkm, hq⟩ hc
          exact (Lx.cnt_stop hp).symm.trans hn.out
        · exact (Lx.cnt_end (by omega)).symm.trans hn.out
      have h3 : (k < M ∧ ∀ (x : k < s.size) (y : k < t.size), (((s[k].toNat : Nat) : Int) == ((t[k].toNat : Nat) : Int)) = false) ∨ ¬ k < M := by
        by_cases hkm : k < M
        · refine .inl ⟨hkm, fun x y => ?_⟩
          have hp : Lx.headP s t k = false := by
            cases hq : Lx.headP s t k
            · rfl
            · exact absurd ⟨hkm, hq⟩ hc
          rw [← hp]
          unfold Lx.headP
          rw [Lx.byteAt_eq s k x, Lx.byteAt_eq t k y, byte_eq]
        · exact .inr hkm
      clear hc
      rcases h3 with ⟨hlt, hbe'⟩ | hlt
      have hd : decide ((k : Int) < (M : Int)) = true := decide_eq_true (by omega)
      have c1 := HB.out.below hbw hB k (hks' hlt)
      have c2 := HC.out.below hcw hB k (hkt' hlt)
      have hks := hks' hlt; have hkt := hkt' hlt
      have hbe := hbe' hks hkt
      generalize (s[k]'hks).toNat = x at *
      generalize (t[k]'hkt).toNat = y at *
      clear hbe' hks' hkt'
      go_wp2
      go_quiet ((go_at_call 71; exact Calls.quiet_of_same (diffSame_any _ _ _)))
      have hB := below_drewN hB nq
      clear hbe hks hkt c1 c2 hd
      go_wp2
      rotate_left
      have hd : decide ((k : Int) < (M : Int)) = false := decide_eq_false (by omega)
      clear hks' hkt'
      go_wp2
      go_quiet (fail)
      have hB := below_drewN hB nq
      clear hd
      go_wp2
      all_goals
        obtain rfl : k = H := hkH.out
        clear hkH hn
        generalize wr.drewN nq = W0 at *
        have hT0 : Hid (Lx.cnt (Lx.tailP s t) (M - k - 0) 0 = T) := by rw [Hid, ← HT.out, Lx.tailLen, HH.out, HM.out]; rfl
        go_loopw [9] (fun i wr => ∃ j : Nat, k + j ≤ M ∧ i = .int .i64 j ∧ Hid (Lx.cnt (Lx.tailP s t) (M - k - j) j = T) ∧ Below w.heap.size w wr) (fun i _ => M - (intOf i).toNat)
        case atStart => exact ⟨0, by omega, rfl, hT0, hB⟩
        case round =>
          obtain ⟨j, hj, rfl, hn2, hB2⟩ := hrel
          have ia : j < M - k → s.size - 1 - j < s.size := fun _ => by omega
          have ib : j < M - k → t.size - 1 - j < t.size := fun _ => by omega
          have hxe : ∀ (x : s.size - 1 - j < s.size) (y : t.size - 1 - j < t.size), (((s[s.size - 1 - j].toNat : Nat) : Int) == ((t[t.size - 1 - j].toNat : Nat) : Int)) = Lx.tailP s t j := fun x y => by
            unfold Lx.tailP
            rw [Lx.byteAt_eq s _ x, Lx.byteAt_eq t _ y, byte_eq]
          have hw0 : IntKind.i64.wrap ((k : Int) + j) = (k : Int) + j := IntWalk.i64_in _ (by omega)
          have hw1 : IntKind.i64.wrap ((s.size : Int) - 1) = (s.size : Int) - 1 := IntWalk.i64_in _ (by omega)
          have hw2 : IntKind.i64.wrap ((t.size : Int) - 1) = (t.size : Int) - 1 := IntWalk.i64_in _ (by omega)
          by_cases hlt : j < M - k
          · have xa := ia hlt
            have xb := ib hlt
            have hbe := hxe xa xb
            have c1 := HB.out.below hbw hB2 (s.size - 1 - j) xa
            have c2 := HC.out.below hcw hB2 (t.size - 1 - j) xb
            have hd : decide ((k : Int) + (j : Int) < (M : Int)) = true := decide_eq_true (by omega)
            have za : IntKind.i64.wrap ((s.size : Int) - 1 - j) = ((s.size - 1 - j : Nat) : Int) := by rw [IntWalk.i64_in _ (by omega)]; omega
            have zb : IntKind.i64.wrap ((t.size : Int) - 1 - j) = ((t.size - 1 - j : Nat) : Int) := by rw [IntWalk.i64_in _ (by omega)]; omega
            have HST := Lib.hid (fun hp => (Lx.cnt_step (p := Lx.tailP s t) (m := M - k) hlt hp).symm.trans hn2.out)
            have HSP := Lib.hid (fun hp => (Lx.cnt_stop (p := Lx.tailP s t) (m := M - k) (k := j) hp).symm.trans hn2.out)
            generalize s.size - 1 - j = ja at *
            generalize t.size - 1 - j = jb at *
            generalize (s[ja]'xa).toNat = x at *
            generalize (t[jb]'xb).toNat = y at *
            clear ia ib hxe
            cases hp : Lx.tailP s t j
            · rw [hp] at hbe
              obtain rfl : j = T := HSP.out hp
              clear hp
              go_wp2
              go_quiet ((go_at_call 71; exact Calls.quiet_of_same (diffSame_any _ _ _)))
              go_wp2
              go_ret2
              exact ⟨rfl, below_drewN hB2 _⟩
            · rw [hp] at hbe
              have HP := Lib.hid (HST.out hp); clear hp
              go_wp2
              go_quiet ((go_at_call 71; exact Calls.quiet_of_same (diffSame_any _ _ _)))
              go_wp2
              go_roundw
              case rel => exact ⟨j + 1, by omega, by go_num, HP.out, below_drewN hB2 _⟩
              case measure => simp [intOf]; omega
          · have hd : decide ((k : Int) + (j : Int) < (M : Int)) = false := decide_eq_false (by omega)
            obtain rfl : j = T := (Lx.cnt_end (by omega)).symm.trans hn2.out
            clear ia ib hxe
            go_wp2
            go_quiet (fail)
            go_wp2
            go_ret2
            exact ⟨rfl, below_drewN hB2 _⟩

/-- A slice value's own address: none only where there is nothing. -/
def NilOk (A : Option Addr) (c n : Nat) : Prop := A = none → c = 0 ∧ n = 0
/-- What a call leaves that returns splices, or none and an error. -/
def SplsRet (R : List Lx.Spl × Nat) (w : World) (e : Ending) (w' : World) : Prop := ∃ ao cap, e = .returned (.tuple #[.slice ao R.1.length cap, .int .i64 (R.2 : Int)]) ∧ Spls w' w'.heap.size ao R.1 ∧ Below w.heap.size w w' ∧ NilOk ao cap R.1.length
theorem splsRet_none {R : List Lx.Spl × Nat} {w w' : World} {e : Ending} {n : Nat} (hR : R = ([], n)) (he : e = .returned (.tuple #[.slice none 0 0, .int .i64 (n : Int)])) (hB : Below w.heap.size w w') : SplsRet R w e w' := by
  subst hR; exact ⟨none, 0, he, fun h => absurd rfl h, hB, fun _ => ⟨rfl, rfl⟩⟩

theorem bytesAt_new (w : World) (s : ByteArray) : BytesAt (Lib.bytesWorld w 5 s) w.heap.size s := fun j hj => by
  rw [Lib.bytesWorld_cell w 5 s j hj, List.getD_eq_getElem?_getD, List.getElem?_eq_getElem (by simpa using hj), Option.getD_some]
  rfl
theorem conv_bytes (w : World) (s : ByteArray) : (convert 9 78 (.string s)).run Tryd.prog w = .ok (.slice (some ⟨w.heap.size, 0, none⟩) s.size (grownCap w s.size 0 5)) (Lib.bytesWorld w 5 s) :=
  Lib.run_convert_string_bytes w _ _ _ s Tryd.underlying9 Tryd.underlying78 Tryd.underlying5
theorem str_eq (a b : ByteArray) : (a.toList == b.toList) = decide (a = b) := by
  rw [ByteArray.toList_eq, ByteArray.toList_eq]
  refine Bool.eq_iff_iff.2 ?_
  rw [beq_iff_eq, decide_eq_true_iff, Array.toList_inj]
  obtain ⟨x⟩ := a; obtain ⟨y⟩ := b
  simp

set_option maxRecDepth 100000 in
set_option maxHeartbeats 4000000 in
theorem diff_any (a b : ByteArray) (w : World) (ha : a.size ≤ 281474976710656) (hb : b.size ≤ 281474976710656) :
    Calls Tryd.prog 42 #[.string a, .string b] w (SplsRet (Lx.diffOf a b) w) := by
  have HTA := Lib.hid (fun W => textError_any a W (by omega))
  have HTB := Lib.hid (fun W => textError_any b W (by omega))
  obtain ⟨R, hR⟩ : ∃ R, Lx.diffOf a b = R := ⟨_, rfl⟩
  rw [hR]
  unfold Lx.diffOf at hR
  have HR := Lib.hid hR; clear hR
  have hcv := conv_bytes
  have hbq := str_eq a b
  have hBw : Below w.heap.size w (w.alloc (.cells #[.string a, .string b] 9)) := (Below.refl _ _).alloc (Nat.le_refl _) _
  have hc0 : (w.alloc (.cells #[.string a, .string b] 9)).cell? ⟨w.heap.size, 0, none⟩ = some (.string a) := cells_new_at w [.string a, .string b] _ 0 _ rfl
  have hc1 : (w.alloc (.cells #[.string a, .string b] 9)).cell? ⟨w.heap.size, 1, none⟩ = some (.string b) := cells_new_at w [.string a, .string b] _ 1 _ rfl
  have hsz : w.heap.size < (w.alloc (.cells #[.string a, .string b] 9)).heap.size := by simp
  go_enter Tryd.func42, Tryd.ntmps42
  go_wp2
  generalize w.alloc (.cells #[.string a, .string b] 9) = w0 at *
  go_loopw [17] (fun i wr => ∃ k : Nat, k ≤ 2 ∧ i = .int .i64 k ∧ Hid (1 ≤ k → (Lx.textErr a).2 = 0) ∧ Hid (2 ≤ k → (Lx.textErr b).2 = 0) ∧ Below w0.heap.size w0 wr) (fun i _ => 2 - (intOf i).toNat)
  case atStart => exact ⟨0, by omega, rfl, fun h => by omega, fun h => by omega, Below.refl _ _⟩
  case round =>
    obtain ⟨k, hk, rfl, hka, hkb, hB⟩ := hrel
    have d0 := (hB.cell (p := ⟨w.heap.size, 0, none⟩) hsz).trans hc0
    have d1 := (hB.cell (p := ⟨w.heap.size, 1, none⟩) hsz).trans hc1
    have hBwr : Below w.heap.size w wr := hBw.trans (hB.mono (by omega))
    clear hc0 hc1
    have h3 : k = 0 ∨ k = 1 ∨ k = 2 := by omega
    rcases h3 with rfl | rfl | rfl
    · cases he : decide ((Lx.textErr a).2 = 0)
      · have he' : (((Lx.textErr a).2 : Int) != 0) = true := by rw [bne_iff_ne]; have := of_decide_eq_false he; omega
        have hv : R = ([], (Lx.textErr a).2) := by rw [← HR.out, if_pos (of_decide_eq_false he)]
        have HV := Lib.hid hv
        clear he hv
        go_wp2_with (go_at_call 49; refine (HTA.out _).mono ?_; rintro e w1 ⟨rfl, hB1⟩)
        go_ret2
        exact splsRet_none HV.out rfl (hBwr.trans (hB1.mono hBwr.size))
      · have he2 := of_decide_eq_true he
        have HA2 := Lib.hid (HTA.out wr)
        rw [he2] at HA2
        have HE2 := Lib.hid he2
        clear he he2
        go_wp2_with (go_at_call 49; refine HA2.out.mono ?_; rintro e w1 ⟨rfl, hB1⟩)
        go_roundw
        case rel => exact ⟨1, by omega, rfl, fun _ => HE2.out, fun h => by omega, hB.trans (hB1.mono hB.size)⟩
        case measure => simp [intOf]
    · cases he : decide ((Lx.textErr b).2 = 0)
      · have he' : (((Lx.textErr b).2 : Int) != 0) = true := by rw [bne_iff_ne]; have := of_decide_eq_false he; omega
        have hv : R = ([], (Lx.textErr b).2) := by rw [← HR.out, if_neg (by rw [hka.out (by omega)]; simp), if_pos (of_decide_eq_false he)]
        have HV := Lib.hid hv
        clear he hv
        go_wp2_with (go_at_call 49; refine (HTB.out _).mono ?_; rintro e w1 ⟨rfl, hB1⟩)
        go_ret2
        exact splsRet_none HV.out rfl (hBwr.trans (hB1.mono hBwr.size))
      · have he2 := of_decide_eq_true he
        have HA2 := Lib.hid (HTB.out wr)
        rw [he2] at HA2
        have HE2 := Lib.hid he2
        clear he he2
        go_wp2_with (go_at_call 49; refine HA2.out.mono ?_; rintro e w1 ⟨rfl, hB1⟩)
        go_roundw
        case rel => exact ⟨2, by omega, rfl, fun _ => hka.out (by omega), fun _ => HE2.out, hB.trans (hB1.mono hB.size)⟩
        case measure => simp [intOf]
    · have hR := HR.out
      rw [if_neg (by rw [hka.out (by omega)]; simp), if_neg (by rw [hkb.out (by omega)]; simp)] at hR
      clear hka hkb HTA HTB HR d0 d1 hB
      by_cases hab : a = b
      · rw [if_pos hab] at hR
        rw [decide_eq_true hab] at hbq
        have HV := Lib.hid hR.symm
        clear hab hR
        go_wp2
        go_ret2
        exact splsRet_none HV.out rfl hBwr
      · rw [if_neg hab] at hR
        rw [decide_eq_false hab] at hbq
        have HV := Lib.hid hR.symm
        clear hab hR
        have hBc : Below wr.heap.size wr (Lib.bytesWorld (Lib.bytesWorld wr 5 a) 5 b) := (Lib.bytesWorld_below _ _ _).trans ((Lib.bytesWorld_below _ _ _).mono (by simp only [Lib.bytesWorld_size]; omega))
        have HCM := Lib.hid (common_bytes a b wr.heap.size (Lib.bytesWorld wr 5 a).heap.size (grownCap wr a.size 0 5) (grownCap (Lib.bytesWorld wr 5 a) b.size 0 5) (Lib.bytesWorld (Lib.bytesWorld wr 5 a) 5 b) ha hb ((bytesAt_new wr a).below (B := (Lib.bytesWorld wr 5 a).heap.size) (by simp only [Lib.bytesWorld_size]; omega) (Lib.bytesWorld_below _ _ _)) (bytesAt_new _ b) (by simp only [Lib.bytesWorld_size]; omega) (by simp only [Lib.bytesWorld_size]; omega))
        have hle := Lx.tailLen_le a b
        have hma : Lx.most a b ≤ a.size := Nat.min_le_left _ _
        have hmb : Lx.most a b ≤ b.size := Nat.min_le_right _ _
        obtain ⟨H, hH⟩ : ∃ H, Lx.headLen a b = H := ⟨_, rfl⟩
        obtain ⟨T, hT⟩ : ∃ T, Lx.tailLen a b = T := ⟨_, rfl⟩
        rw [hH, hT] at HCM hle
        have HH := Lib.hid hH; have HT := Lib.hid hT; clear hH hT
        have sl1 : (H : Int) ≤ (b.size : Int) - T := by omega
        have sl2 : 0 ≤ (b.size : Int) - T := by omega
        have sl3 : (b.size : Int) - T ≤ b.size := by omega
        have sl4 : ((b.size : Int) - T).toNat = b.size - T := by omega
        go_wp2_with (go_at_call 72; refine HCM.out.mono ?_; rintro e w2 ⟨rfl, hB2⟩; have hB2' := hBc.trans (hB2.mono hBc.size))
        go_ret2
        have hB3 : Below w.heap.size w w2 := hBwr.trans (hB2'.mono hBwr.size)
        unfold SplsRet
        rw [HV.out]
        refine ⟨_, 1, rfl, fun _ => ⟨_, _, rfl, by simp, fun i x hx => ?_⟩, hB3.alloc hB3.size _, fun e => by cases e⟩
        rcases i with _ | i
        · simp at hx; subst hx
          unfold Lx.diffSpl
          rw [HH.out, HT.out, ← sl4]
          exact ⟨cells_new_at w2 _ _ 0 _ rfl, cells_new_at w2 _ _ 1 _ rfl, cells_new_at w2 _ _ 2 _ rfl⟩
        · simp at hx
end Go.Proofs.YtchkngabppmbkaaDoor
