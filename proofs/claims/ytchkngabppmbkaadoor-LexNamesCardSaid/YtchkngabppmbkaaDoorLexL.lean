/-
  WALKS: splices.
-/
import Derived.Test.YtchkngabppmbkaaDoorLexB
import Derived.Test.YtchkngabppmbkaaDoorSpecD
import Derived.BigQuiet
import Derived.StillTailTactics
import Derived.WalkSpells
import Derived.Maps.AppendAt
import Derived.Maps.OwnIn
namespace Go.Proofs.YtchkngabppmbkaaDoor
open Go.RowKit

def splCells (x : Lx.Spl) : List Value := [.int .i64 x.lo, .int .i64 x.hi, .string x.text]
/-- A slice value's address A reads as the splices l, in blocks below B. -/
def SplsAt (w : World) (B b off : Nat) (l : List Lx.Spl) : Prop := b < B ∧ ∀ (i : Nat) (x : Lx.Spl), l[i]? = some x → w.cell? ⟨b, off + i * 3, none⟩ = some (.int .i64 x.lo) ∧ w.cell? ⟨b, off + i * 3 + 1, none⟩ = some (.int .i64 x.hi) ∧ w.cell? ⟨b, off + i * 3 + 2, none⟩ = some (.string x.text)
def Spls (w : World) (B : Nat) (A : Option Addr) (l : List Lx.Spl) : Prop := l ≠ [] → ∃ b off, A = some ⟨b, off, none⟩ ∧ SplsAt w B b off l
theorem Spls.below {w w' : World} {B : Nat} {A : Option Addr} {l : List Lx.Spl} (h : Spls w B A l) (hb : Below B w w') : Spls w' B A l := fun hn => by
  obtain ⟨b, off, hA, hlt, hc⟩ := h hn
  refine ⟨b, off, hA, hlt, fun i x hx => ?_⟩
  obtain ⟨h1, h2, h3⟩ := hc i x hx
  exact ⟨(hb.cell (p := ⟨b, _, none⟩) hlt).trans h1, (hb.cell (p := ⟨b, _, none⟩) hlt).trans h2, (hb.cell (p := ⟨b, _, none⟩) hlt).trans h3⟩
theorem rightFrom_cons (n done : Int) (x : Lx.Spl) (xs : List Lx.Spl) : Lx.rightFrom n done (x :: xs) = (!(decide (x.lo < done) || decide (x.hi < x.lo) || decide (n < x.hi)) && Lx.rightFrom n x.hi xs) := rfl

set_option maxRecDepth 100000 in
set_option maxHeartbeats 2000000 in
theorem rightFor_any (n : Nat) (l : List Lx.Spl) (A : Option Addr) (c : Nat) (w : World) (hl : l.length ≤ 1152921504606846976) (hs : Spls w w.heap.size A l) :
    Calls Tryd.prog 89 #[.int .i64 (n : Int), .slice A l.length c] w fun e w' => e = .returned (.bool (Lx.rightFrom n 0 l)) ∧ Below w.heap.size w w' := by
  obtain ⟨R, hR⟩ : ∃ R, Lx.rightFrom n 0 l = R := ⟨_, rfl⟩
  rw [hR]
  have HR := Lib.hid hR; clear hR
  have HS := Lib.hid hs; clear hs
  go_enter Tryd.func89, Tryd.ntmps89
  go_wp2
  go_loopw [5, 10] (fun d i wr => ∃ (k : Nat) (q : Int), k ≤ l.length ∧ i = .int .i64 k ∧ d = .int .i64 q ∧ Hid (Lx.rightFrom n q (l.drop k) = R) ∧ Below w.heap.size w wr) (fun _ i _ => l.length - (intOf i).toNat)
  case atStart => exact ⟨0, 0, Nat.zero_le _, rfl, rfl, HR.out, Below.refl _ _⟩
  case round =>
    obtain ⟨k, q, hk, rfl, rfl, hn, hB⟩ := hrel
    have hsz := hB.size
    by_cases hlt : k < l.length
    · obtain ⟨b, off, rfl, hbB, hc⟩ := HS.out.below hB (by intro e; subst e; simp at hlt)
      obtain ⟨x, hx⟩ : ∃ x, l[k]? = some x := ⟨_, List.getElem?_eq_getElem hlt⟩
      have hd : l.drop k = x :: l.drop (k + 1) := by rw [List.drop_eq_getElem_cons hlt]; rw [List.getElem?_eq_getElem hlt] at hx; injection hx with hx; rw [hx]
      obtain ⟨h1, h2, h3⟩ := hc k x hx
      have HD := Lib.hid (hn.out.symm.trans (by rw [hd, rightFrom_cons])); clear hn hd hc hx
      go_wp2
      case roundEnd =>
        go_roundw
        case rel => exact ⟨k + 1, x.hi, by omega, by go_num, rfl, by rw [Hid, HD.out, show (decide (x.lo < q) || decide (x.hi < x.lo) || decide ((n : Int) < x.hi)) = false by simp only [Bool.or_eq_false_iff, decide_eq_false_iff_not]; omega]; rfl, hB.alloc hsz _⟩
        case measure => simp [intOf]; omega
      all_goals
        go_ret
        exact ⟨ret_bool (by rw [HD.out, show (decide (x.lo < q) || decide (x.hi < x.lo) || decide ((n : Int) < x.hi)) = true by simp only [Bool.or_eq_true, decide_eq_true_eq]; omega]; rfl), hB.alloc hsz _⟩
    · obtain rfl : k = l.length := by omega
      have hn' := hn.out
      rw [List.drop_length] at hn'
      have HN := Lib.hid hn'; clear hn' hn
      go_wp2
      go_ret
      exact ⟨by rw [← HN.out]; rfl, hB⟩

def chgCells (x : Lx.Chg) : List Value := [.int .i64 x.spl.lo, .int .i64 x.spl.hi, .string x.spl.text, .int .i64 x.pos, .string x.out]
def chgsCells (l : List Lx.Chg) : List Value := l.flatMap chgCells
theorem infoChg : (Tryd.prog.info? 95).map (fun i => (i.zero, i.size, i.bytes)) = some (some (.agg #[.int .i64 0, .int .i64 0, .string ⟨#[]⟩, .int .i64 0, .string ⟨#[]⟩]), 5, 56) := by kernel_rfl
theorem cells_new_at (W : World) (l : List Value) (t : TypeId) : ∀ j u, l[j]? = some u → (W.alloc (.cells ⟨l⟩ t)).cell? ⟨W.heap.size, j, none⟩ = some u := by
  intro j u hu
  unfold World.cell?
  rw [show (W.alloc (.cells ⟨l⟩ t)).heap[W.heap.size]? = _ from heap_alloc_new W _]
  simpa using hu
theorem cells_new (W : World) (l : List Value) (t : TypeId) : ∀ j u, l[j]? = some u → (W.alloc (.cells ⟨l⟩ t)).cell? ((⟨W.heap.size, 0, none⟩ : Addr).add j) = some u := by
  intro j u hu
  have h : (⟨W.heap.size, 0, none⟩ : Addr).add j = ⟨W.heap.size, j, none⟩ := by unfold Addr.add; split <;> simp_all
  rw [h]; exact cells_new_at W l t j u hu
theorem lt_heapL {W : World} {k : Nat} {o : Obj} (h : W.heap[k]? = some o) : k < W.heap.size := (Array.getElem?_eq_some_iff.1 h).1
theorem ownsRow_below {w w' : World} {base : Nat} {e : TypeId} {size : Nat} {v : Value} {n : Nat} {xs : List Value} (h : w.ownsRow base e size v n xs) (hb : Below w.heap.size w w') : w'.ownsRow base e size v n xs := by
  refine ⟨h.1, ?_⟩
  rcases h.2 with h2 | ⟨g, cap, cur, h1, h2, h3, h4⟩
  · exact .inl h2
  · exact .inr ⟨g, cap, cur, h1, h2, (hb.block g (lt_heapL h3)).trans h3, h4⟩
theorem own_lt {w : World} {base : Nat} {e : TypeId} {size : Nat} {v : Value} {n : Nat} {xs : List Value} (h : w.ownsRow base e size v n xs) {k : Nat} (hk : some k = v.ownBlock) : base ≤ k ∧ k < w.heap.size := by
  rcases h.2 with ⟨rfl, _⟩ | ⟨g, cap, cur, rfl, h2, h3, _⟩
  · cases hk
  · cases hk; exact ⟨h2, lt_heapL h3⟩
theorem below_grown {w w' : World} {base : Nat} {e : TypeId} {size : Nat} {v : Value} {n : Nat} {xs : List Value} (h : w.ownsRow base e size v n xs) (hbase : base ≤ w.heap.size) (hg : w.grownBy w' v.ownBlock) : Below base w w' :=
  ⟨hg.os, hg.tape, hg.output, hg.size, fun k hk => hg.block k (by omega) (fun e => by have := own_lt h e; omega)⟩
theorem cell_grown {w w' : World} {base : Nat} {e : TypeId} {size : Nat} {v : Value} {n : Nat} {xs : List Value} (_h : w.ownsRow base e size v n xs) (hg : w.grownBy w' v.ownBlock) {B j : Nat} (hB : B < w.heap.size) (hne : ∀ k, some k = v.ownBlock → k ≠ B) : w'.cell? ⟨B, j, none⟩ = w.cell? ⟨B, j, none⟩ :=
  World.cell?_of_block (hg.block B hB (fun e => hne B e rfl))

theorem own_slice_form {w : World} {base : Nat} {e : TypeId} {size : Nat} {v : Value} {n : Nat} {xs : List Value} (h : w.ownsRow base e size v n xs) : ∃ ao c, v = .slice ao n c := by
  rcases h.2 with ⟨rfl, rfl⟩ | ⟨g, cap, cur, rfl, _⟩
  · exact ⟨_, _, rfl⟩
  · exact ⟨_, _, rfl⟩

set_option maxRecDepth 100000 in
set_option maxHeartbeats 4000000 in
/-- changesOf behind its first tests: the loop. -/
theorem changesOf_loop (s : ByteArray) (l : List Lx.Spl) (A : Option Addr) (c : Nat) (w : World) (hs : (Lx.textErr s).2 = 0) (h40 : l.length ≤ 40) (hr : Lx.rightFrom s.size 0 l = true) (ht : ∀ x ∈ l, x.text.size ≤ 1099511627776) (hS : Spls w w.heap.size A l) :
    Calls Tryd.prog 66 #[.string s, .slice A l.length c] w fun e w' => ∃ v, e = .returned (.tuple #[v, .int .i64 ((Lx.changesOf s l).2 : Int)]) ∧
      w'.ownsRow w.heap.size 95 5 v (Lx.changesOf s l).1.length (chgsCells (Lx.changesOf s l).1) ∧ Below w.heap.size w w' := by
  obtain ⟨i0, hi, hz0, hz1, hz2⟩ := info_parts infoChg
  have hsmall : s.size ≤ 2500 := by
    unfold Lx.textErr at hs
    split at hs
    · cases hs
    · omega
  have hT : Lx.textErr s = ((Lx.textErr s).1, 0) := by rw [← hs]
  obtain ⟨p, hp⟩ : ∃ p, (Lx.textErr s).1 = p := ⟨_, rfl⟩
  rw [hp] at hT
  have HT : Hid (∀ W : World, Calls Tryd.prog 49 #[.string s] W fun e w' => e = .returned (.tuple #[.int .i64 (p : Int), .int .i64 0]) ∧ Below W.heap.size W w') := fun W => by
    have := textError_any s W (by omega)
    rw [hT] at this; exact this
  obtain ⟨R, hR⟩ : ∃ R, Lx.changesOf s l = R := ⟨_, rfl⟩
  rw [hR]
  rw [Lx.changesOf, if_neg (by simp [hs]), if_neg (by omega), if_neg (by simp [hr])] at hR
  have HR := Lib.hid hR
  have HQ := Lib.hid (fun (W : World) hW => rightFor_any s.size l A c W (by omega) hW)
  have HA := Lib.hid (Lx.rightFrom_all hr)
  have HTX := Lib.hid ht
  have HS := Lib.hid hS
  rw [hr] at HQ
  clear hR hr hs hp hT ht hS
  go_enter Tryd.func66, Tryd.ntmps66
  go_wp2_with (first
    | (go_at_call 49; refine (HT.out _).mono ?_; rintro e w1 ⟨rfl, hB1⟩; have HS1 := Lib.hid (HS.out.below hB1))
    | (go_at_call 89; refine (HQ.out _ (fun hn => by obtain ⟨b, off, h1, h2, h3⟩ := HS1.out hn; exact ⟨b, off, h1, Nat.lt_of_lt_of_le h2 hB1.size, h3⟩)).mono ?_; rintro e w2 ⟨rfl, hB2⟩; have hB12 := hB1.trans (hB2.mono hB1.size)))
  clear hB1 hB2
  go_loopw [8, 9, 33] (fun v d i wr => ∃ (k : Nat) (g : Int) (pre : List Lx.Chg), k ≤ l.length ∧ i = .int .i64 k ∧ d = .int .i64 g ∧ -(2500 * k) ≤ g ∧ g ≤ 1099511627776 * k ∧ Hid (Lx.chgs s 0 l = pre ++ Lx.chgs s g (l.drop k)) ∧ Hid (pre.length = k) ∧ Hid (Lx.grow s 0 l = Lx.grow s g (l.drop k)) ∧ Hid (l.any Lx.badText = (l.drop k).any Lx.badText) ∧ Hid (wr.ownsRow w.heap.size 95 5 v pre.length (chgsCells pre)) ∧ Below w.heap.size w wr) (fun _ _ i _ => l.length - (intOf i).toNat)
  case atStart => exact ⟨0, 0, [], Nat.zero_le _, rfl, rfl, by simp, by simp, rfl, rfl, rfl, rfl, World.ownsRow_nil _ _ _ _, hB12⟩
  case round =>
    obtain ⟨k, g, pre, hk, rfl, rfl, hg0, hg1, hch, hpl, hgr, hbd, hown, hB⟩ := hrel
    have hsz := hB.size
    by_cases hlt : k < l.length
    · obtain ⟨b, off, rfl, hbB, hc⟩ := HS.out.below hB (by intro e; subst e; simp at hlt)
      obtain ⟨x, hx⟩ : ∃ x, l[k]? = some x := ⟨_, List.getElem?_eq_getElem hlt⟩
      have hd : l.drop k = x :: l.drop (k + 1) := by rw [List.drop_eq_getElem_cons hlt]; rw [List.getElem?_eq_getElem hlt] at hx; injection hx with hx; rw [hx]
      have hxm : x ∈ l := List.mem_of_getElem? hx
      obtain ⟨h1, h2, h3⟩ := hc k x hx
      obtain ⟨a1, a2, a3⟩ := HA.out x hxm
      have htx := HTX.out x hxm
      have hgb := Lx.growBy_bounds s x htx hsmall
      have hF := foreignAt_any x.text (wr.alloc (.cells #[.int .i64 x.lo, .int .i64 x.hi, .string x.text] 56)) (by omega)
      have hch' := hch.out; have hgr' := hgr.out; have hbd' := hbd.out
      rw [hd] at hch' hgr' hbd'
      cases hbx : Lx.badText x
      · have hv : foreignV (Lx.runEnd Lx.isText x.text 0) x.text.size = .tuple #[.int .i64 0, .bool false] := by
          unfold Lx.badText at hbx
          rw [foreignV, if_neg (by simpa using hbx)]
        rw [hv] at hF
        have HF := Lib.hid hF
        have hgw : Lx.growBy s x = (x.text.size : Int) - (Lx.outOf s x).size := rfl
        have hout : Lx.outOf s x = s.extract x.lo.toNat x.hi.toNat := rfl
        have houtsz : (Lx.outOf s x).size ≤ 2500 := by rw [hout, ByteArray.size_extract]; omega
        rw [List.any_cons, hbx, Bool.false_or] at hbd'
        have HCH := Lib.hid hch'; have HGR := Lib.hid hgr'; have HBD := Lib.hid hbd'
        generalize Lx.runEnd Lx.isText x.text 0 = E at *
        clear hF hv hbx hch' hgr' hbd' hd hxm hx hc
        go_wp2_with (go_at_call 79; refine HF.out.mono ?_; rintro e w3 ⟨rfl, hB3⟩)
        have hsz3 := hB3.size
        rw [World.size_alloc] at hsz3
        have hBW : Below w.heap.size w w3 := (hB.alloc hsz _).trans (hB3.mono (by simp; omega))
        have n0 : w3.cell? ⟨wr.heap.size, 0, none⟩ = some (.int .i64 x.lo) := (hB3.cell (p := ⟨wr.heap.size, 0, none⟩) (by simp)).trans (cells_new_at _ _ _ 0 _ rfl)
        have n1 : w3.cell? ⟨wr.heap.size, 1, none⟩ = some (.int .i64 x.hi) := (hB3.cell (p := ⟨wr.heap.size, 1, none⟩) (by simp)).trans (cells_new_at _ _ _ 1 _ rfl)
        have n2 : w3.cell? ⟨wr.heap.size, 2, none⟩ = some (.string x.text) := (hB3.cell (p := ⟨wr.heap.size, 2, none⟩) (by simp)).trans (cells_new_at _ _ _ 2 _ rfl)
        have hown3 := ownsRow_below (hown.out.alloc (.cells #[.int .i64 x.lo, .int .i64 x.hi, .string x.text] 56)) hB3
        have m0 : (w3.alloc (.cells #[.int .i64 0, .int .i64 0, .string ⟨#[]⟩, .int .i64 0, .string ⟨#[]⟩] 95)).cell? ⟨wr.heap.size, 0, none⟩ = some (.int .i64 x.lo) := (((Below.refl _ w3).alloc (Nat.le_refl _) _).cell (p := ⟨wr.heap.size, 0, none⟩) hsz3).trans n0
        have m1 : (w3.alloc (.cells #[.int .i64 0, .int .i64 0, .string ⟨#[]⟩, .int .i64 0, .string ⟨#[]⟩] 95)).cell? ⟨wr.heap.size, 1, none⟩ = some (.int .i64 x.hi) := (((Below.refl _ w3).alloc (Nat.le_refl _) _).cell (p := ⟨wr.heap.size, 1, none⟩) hsz3).trans n1
        have m2 : (w3.alloc (.cells #[.int .i64 0, .int .i64 0, .string ⟨#[]⟩, .int .i64 0, .string ⟨#[]⟩] 95)).cell? ⟨wr.heap.size, 2, none⟩ = some (.string x.text) := (((Below.refl _ w3).alloc (Nat.le_refl _) _).cell (p := ⟨wr.heap.size, 2, none⟩) hsz3).trans n2
        go_region
        have hown4 : ((w3.alloc (.cells #[.int .i64 x.lo, .int .i64 x.hi, .string x.text, .int .i64 (x.lo + g), .string (s.extract x.lo.toNat x.hi.toNat)] 95)).drew).ownsRow w.heap.size 95 5 u8 pre.length (chgsCells pre) := (hown3.alloc _).drew
        have hB4 : Below w.heap.size w ((w3.alloc (.cells #[.int .i64 x.lo, .int .i64 x.hi, .string x.text, .int .i64 (x.lo + g), .string (s.extract x.lo.toNat x.hi.toNat)] 95)).drew) := (hBW.alloc hBW.size _).drew
        have hsz4 : ((w3.alloc (.cells #[.int .i64 x.lo, .int .i64 x.hi, .string x.text, .int .i64 (x.lo + g), .string (s.extract x.lo.toNat x.hi.toNat)] 95)).drew).heap.size = w3.heap.size + 1 := by simp
        have q0 : ((w3.alloc (.cells #[.int .i64 x.lo, .int .i64 x.hi, .string x.text, .int .i64 (x.lo + g), .string (s.extract x.lo.toNat x.hi.toNat)] 95)).drew).cell? ⟨w3.heap.size, 0, none⟩ = some (.int .i64 x.lo) := cells_new_at w3 _ _ 0 _ rfl
        have q1 : ((w3.alloc (.cells #[.int .i64 x.lo, .int .i64 x.hi, .string x.text, .int .i64 (x.lo + g), .string (s.extract x.lo.toNat x.hi.toNat)] 95)).drew).cell? ⟨w3.heap.size, 1, none⟩ = some (.int .i64 x.hi) := cells_new_at w3 _ _ 1 _ rfl
        have q2 : ((w3.alloc (.cells #[.int .i64 x.lo, .int .i64 x.hi, .string x.text, .int .i64 (x.lo + g), .string (s.extract x.lo.toNat x.hi.toNat)] 95)).drew).cell? ⟨w3.heap.size, 2, none⟩ = some (.string x.text) := cells_new_at w3 _ _ 2 _ rfl
        have q3 : ((w3.alloc (.cells #[.int .i64 x.lo, .int .i64 x.hi, .string x.text, .int .i64 (x.lo + g), .string (s.extract x.lo.toNat x.hi.toNat)] 95)).drew).cell? ⟨w3.heap.size, 3, none⟩ = some (.int .i64 (x.lo + g)) := cells_new_at w3 _ _ 3 _ rfl
        have q4 : ((w3.alloc (.cells #[.int .i64 x.lo, .int .i64 x.hi, .string x.text, .int .i64 (x.lo + g), .string (s.extract x.lo.toNat x.hi.toNat)] 95)).drew).cell? ⟨w3.heap.size, 4, none⟩ = some (.string (s.extract x.lo.toNat x.hi.toNat)) := cells_new_at w3 _ _ 4 _ rfl
        have hlt4 : w3.heap.size < ((w3.alloc (.cells #[.int .i64 x.lo, .int .i64 x.hi, .string x.text, .int .i64 (x.lo + g), .string (s.extract x.lo.toNat x.hi.toNat)] 95)).drew).heap.size := by omega
        have hne4 : ∀ k, some k = u8.ownBlock → k ≠ w3.heap.size := fun k hk => by have := own_lt hown3 hk; omega
        rw [← hout] at *
        generalize (w3.alloc (.cells #[.int .i64 x.lo, .int .i64 x.hi, .string x.text, .int .i64 (x.lo + g), .string (Lx.outOf s x)] 95)).drew = w4 at *
        clear m0 m1 m2 n0 n1 n2 h1 h2 h3 hB3
        have hpl' : pre.length ≤ 40 := by have := hpl.out; omega
        have hsz4' := hB4.size
        have HO := Lib.hid hown4
        clear hown4 hown3 hown hB hBW hsz4
        go_wp2_with (at_builtin; go_loud (refine wpList_append_own_at _ rfl _ _ 91 rfl w.heap.size 95 i0 (.agg #[.int .i64 0, .int .i64 0, .string ⟨#[]⟩, .int .i64 0, .string ⟨#[]⟩]) 5 56 Tryd.underlying91 hi hz0 hz1 hz2 rfl (by decide) _ _ _ rfl (HO.out.alloc _) ⟨w4.heap.size, 0, none⟩ 1 1 [.int .i64 x.lo, .int .i64 x.hi, .string x.text, .int .i64 (x.lo + g), .string (Lx.outOf s x)] rfl rfl (cells_new _ _ _) (by simp [Value.oneCell']) (by unfold maxLen; omega) (by omega) (by simp; omega) ?_); intro v' w5 hown' hgrow _ hat; have c2 := (cell_grown (HO.out.alloc _) hgrow (B := w3.heap.size) (j := 2) (by simp; omega) hne4).trans ((((Below.refl _ w4).alloc (Nat.le_refl _) _).cell (p := ⟨w3.heap.size, 2, none⟩) hlt4).trans q2); have c4 := (cell_grown (HO.out.alloc _) hgrow (B := w3.heap.size) (j := 4) (by simp; omega) hne4).trans ((((Below.refl _ w4).alloc (Nat.le_refl _) _).cell (p := ⟨w3.heap.size, 4, none⟩) hlt4).trans q4); have hB5 := (hB4.alloc hsz4' _).trans (below_grown (HO.out.alloc _) (by simp; omega) hgrow))
        go_roundw
        case rel => exact ⟨k + 1, g + Lx.growBy s x, pre ++ [⟨x, x.lo + g, Lx.outOf s x⟩], by omega, by go_num, by rw [hgw], by omega, by omega, by rw [Hid, HCH.out]; simp [Lx.chgs], by rw [Hid, List.length_append, hpl.out]; rfl, by rw [Hid, HGR.out]; rfl, by rw [Hid, HBD.out], by rw [Hid, List.length_append]; simpa [chgsCells, chgCells] using hown', hB5⟩
        case measure => simp [intOf]; omega
      · have hv : foreignV (Lx.runEnd Lx.isText x.text 0) x.text.size = .tuple #[.int .i64 (Lx.runEnd Lx.isText x.text 0 : Int), .bool true] := by
          unfold Lx.badText at hbx
          rw [foreignV, if_pos (by simpa using hbx)]
        rw [hv] at hF
        have hR2 : R = ([], 2) := by
          have := HR.out
          rw [hbd', List.any_cons, hbx, Bool.true_or, if_pos rfl] at this
          exact this.symm
        have HF := Lib.hid hF
        have HR2 := Lib.hid hR2
        clear hF hR2 hv hbx hch' hgr' hbd' hd hxm hx hc
        generalize Lx.runEnd Lx.isText x.text 0 = E at *
        go_wp2_with (go_at_call 79; refine HF.out.mono ?_; rintro e w3 ⟨rfl, hB3⟩)
        go_ret2
        refine ⟨_, by rw [HR2.out]; rfl, by rw [HR2.out]; exact World.ownsRow_nil _ _ _ _, ?_⟩
        exact (hB.alloc hsz _).trans (hB3.mono (by simp; omega))
    · obtain rfl : k = l.length := by omega
      have hch' := hch.out; have hgr' := hgr.out; have hbd' := hbd.out
      rw [List.drop_length] at hch' hgr' hbd'
      have hR' := HR.out
      rw [if_neg (by rw [hbd']; simp)] at hR'
      have hgg : Lx.grow s 0 l = g := hgr'
      rw [hgg] at hR'
      obtain ⟨ao, cap, rfl⟩ := own_slice_form hown.out
      by_cases hbig : 2500 < (s.size : Int) + g
      · rw [if_pos hbig] at hR'
        have HR' := Lib.hid hR'.symm
        clear hR' hch' hgr' hbd' hgg
        go_wp2
        go_ret2
        exact ⟨_, by rw [HR'.out]; rfl, by rw [HR'.out]; exact World.ownsRow_nil _ _ _ _, hB⟩
      · rw [if_neg hbig, hch'] at hR'
        have HR' := Lib.hid hR'.symm
        clear hR' hch' hgr' hbd' hgg
        go_wp2
        go_ret2
        exact ⟨_, by rw [HR'.out]; rfl, by rw [HR'.out]; simpa [Lx.chgs] using hown.out, hB⟩
end Go.Proofs.YtchkngabppmbkaaDoor
