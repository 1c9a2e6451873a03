/-
  WALKS: lex.Undo, lex.Moved.
-/
import Derived.Test.YtchkngabppmbkaaDoorLexM
import Derived.Test.YtchkngabppmbkaaDoorLexT
import Derived.Test.YtchkngabppmbkaaDoorSpecI
namespace Go.Proofs.YtchkngabppmbkaaDoor
open Go.RowKit

def chgV (x : Lx.Chg) : Value := .agg #[.int .i64 x.spl.lo, .int .i64 x.spl.hi, .string x.spl.text, .int .i64 x.pos, .string x.out]
def chgO (x : Lx.Chg) : Obj := .cells #[.int .i64 x.spl.lo, .int .i64 x.spl.hi, .string x.spl.text, .int .i64 x.pos, .string x.out] 95

set_option maxRecDepth 100000 in
set_option maxHeartbeats 1000000 in
theorem end_any (x : Lx.Chg) (w : World) (h0 : -4611686018427387904 ≤ x.pos) (h1 : x.pos ≤ 4611686018427387904) (h2 : x.spl.text.size ≤ 1099511627776) :
    Calls Tryd.prog 69 #[.agg #[.int .i64 x.spl.lo, .int .i64 x.spl.hi, .string x.spl.text, .int .i64 x.pos, .string x.out]] w fun e w' => e = .returned (.int .i64 (x.pos + x.spl.text.size)) ∧ w' = w.alloc (.cells #[.int .i64 x.spl.lo, .int .i64 x.spl.hi, .string x.spl.text, .int .i64 x.pos, .string x.out] 95) := by
  go_enter Tryd.func69, Tryd.ntmps69
  go_wp2
  go_ret
  exact ⟨rfl, rfl⟩

set_option maxRecDepth 100000 in
set_option maxHeartbeats 4000000 in
theorem back_any (x : Lx.Chg) (w : World) (h0 : -4611686018427387904 ≤ x.pos) (h1 : x.pos ≤ 4611686018427387904) (h2 : x.spl.text.size ≤ 1099511627776) :
    Calls Tryd.prog 70 #[.agg #[.int .i64 x.spl.lo, .int .i64 x.spl.hi, .string x.spl.text, .int .i64 x.pos, .string x.out]] w fun e w' => e = .returned (.agg #[.int .i64 x.pos, .int .i64 (x.pos + x.spl.text.size), .string x.out]) ∧ Below w.heap.size w w' := by
  have HE := Lib.hid (fun W => end_any x W h0 h1 h2)
  go_enter Tryd.func70, Tryd.ntmps70
  go_wp2
  go_region_with (go_at_call 69; refine (HE.out _).mono ?_; rintro e w1 ⟨rfl, rfl⟩)
  all_goals
    go_wp2
    refine bodyPost_ret (v := .agg #[.int .i64 x.pos, .int .i64 (x.pos + x.spl.text.size), .string x.out]) (by simp [results, Tryd.results70, go_sem]) rfl ⟨rfl, ?_⟩
    repeat (first | assumption | exact Below.refl _ _ | refine Below.drew ?_ | refine Below.setCell ?_ (by first | omega | (simp; omega) | simp) _ | refine below_drewN ?_ _ | refine Below.alloc ?_ (by first | omega | (simp; omega) | simp) _)

theorem infoSpl : (Tryd.prog.info? 56).map (fun i => (i.zero, i.size, i.bytes)) = some (some (.agg #[.int .i64 0, .int .i64 0, .string ⟨#[]⟩]), 3, 32) := by kernel_rfl
theorem splsCells_get : ∀ (L : List Lx.Spl) (k : Nat) (x : Lx.Spl), L[k]? = some x → ∀ (j : Nat) (u : Value), (splCells x)[j]? = some u → (splsCells L)[k * 3 + j]? = some u
  | [], k, x, h => by simp at h
  | y :: ys, 0, x, h => fun j u hj => by
    simp only [List.getElem?_cons_zero, Option.some.injEq] at h
    subst h
    have : j < (splCells y).length := (List.getElem?_eq_some_iff.1 hj).1
    rw [splsCells, List.flatMap_cons, Nat.zero_mul, Nat.zero_add, List.getElem?_append_left this]
    exact hj
  | y :: ys, k + 1, x, h => fun j u hj => by
    simp only [List.getElem?_cons_succ] at h
    rw [splsCells, List.flatMap_cons, List.getElem?_append_right (by simp [splCells]; omega)]
    have := splsCells_get ys k x h j u hj
    rw [splsCells] at this
    rw [← this]; congr 1; simp [splCells]; omega
theorem spls_of_own {w : World} {base : Nat} {ao : Option Addr} {n cap : Nat} {l : List Lx.Spl} (h : w.ownsRow base 56 3 (.slice ao n cap) n (splsCells l)) (hn : n = l.length) : Spls w w.heap.size ao l := by
  intro hne
  have hl : l.length ≠ 0 := fun e => hne (List.length_eq_zero_iff.1 e)
  obtain ⟨g, cap', hv, _, hg2, hcs⟩ := ownsRow_cells h (by omega)
  cases hv
  exact ⟨g, 0, rfl, hg2, fun i x hx => by
    rw [Nat.zero_add]
    exact ⟨hcs _ _ (splsCells_get l i x hx 0 _ rfl), hcs _ _ (splsCells_get l i x hx 1 _ rfl), hcs _ _ (splsCells_get l i x hx 2 _ rfl)⟩⟩

theorem nilOk_of_own {w : World} {base : Nat} {e : TypeId} {size : Nat} {ao : Option Addr} {n cap : Nat} {xs : List Value} (h : w.ownsRow base e size (.slice ao n cap) n xs) : NilOk ao cap n := fun e => by
  subst e
  rcases h.2 with ⟨h1, h2⟩ | ⟨g, cap, cur, h1, _⟩
  · injection h1 with _ e2 e3; exact ⟨e3, h2⟩
  · injection h1 with e1; cases e1

set_option maxRecDepth 100000 in
set_option maxHeartbeats 4000000 in
theorem undo_any (s : ByteArray) (l : List Lx.Spl) (A : Option Addr) (c : Nat) (w : World) (hz : s.size ≤ 281474976710656) (hl : l.length ≤ 1152921504606846976) (ht : ∀ x ∈ l, x.text.size ≤ 1099511627776) (hS : Spls w w.heap.size A l) :
    Calls Tryd.prog 39 #[.string s, .slice A l.length c] w (SplsRet (Lx.undoOf s l) w) := by
  obtain ⟨i0, hi, hz0, hz1, hz2⟩ := info_parts infoSpl
  have HC := Lib.hid (changesOf_any s l A c w hz hl ht hS)
  obtain ⟨R, hR⟩ : ∃ R, Lx.undoOf s l = R := ⟨_, rfl⟩
  rw [hR]
  by_cases h0 : (Lx.changesOf s l).2 ≠ 0
  · rw [Lx.undoOf, if_pos h0] at hR
    generalize (Lx.changesOf s l).1 = L at *
    generalize (Lx.changesOf s l).2 = er at *
    have h0' : ((er : Int) != 0) = true := by rw [bne_iff_ne]; omega
    have HV := Lib.hid hR.symm
    clear h0 ht hS hR
    go_enter Tryd.func39, Tryd.ntmps39
    go_wp2_with (go_at_call 66; refine HC.out.mono ?_; rintro e w1 ⟨v, rfl, hown, hB1⟩)
    go_ret2
    exact splsRet_none HV.out rfl hB1
  · have h0 : (Lx.changesOf s l).2 = 0 := by omega
    obtain ⟨hL, hte, h40, hr, _, _⟩ := Lx.changesOf_ok h0
    have hsm := Lx.textErr_le hte
    rw [Lx.undoOf, if_neg (by omega)] at hR
    have hbd := Lx.chgs_bounds s hsm (g := 0) hr (by omega) ht
    have hlen : (Lx.chgs s 0 l).length = l.length := Lx.chgs_length s l 0
    rw [hL, h0] at HC
    obtain ⟨L, hLL⟩ : ∃ L, Lx.chgs s 0 l = L := ⟨_, rfl⟩
    rw [hLL] at HC hlen hbd hR
    have HBD := Lib.hid hbd
    have HV := Lib.hid hR.symm
    clear h0 hL hte hR hr ht hS hLL hbd
    go_enter Tryd.func39, Tryd.ntmps39
    go_wp2_with (go_at_call 66; refine HC.out.mono ?_; rintro e w1 ⟨v, rfl, hown, hB1⟩; obtain ⟨ao, cap, rfl⟩ := own_slice_form hown)
    have HB1 := Lib.hid hB1
    have HOWN := Lib.hid hown
    clear hB1 hown
    go_loopw [8, 22] (fun v i wr => ∃ k : Nat, k ≤ L.length ∧ i = .int .i64 k ∧ Hid (wr.ownsRow w1.heap.size 56 3 v k (splsCells ((L.take k).map Lx.Chg.back))) ∧ Below w1.heap.size w1 wr) (fun _ i _ => L.length - (intOf i).toNat)
    case atStart => exact ⟨0, Nat.zero_le _, rfl, World.ownsRow_nil _ _ _ _, Below.refl _ _⟩
    case round =>
      obtain ⟨k, hk, rfl, hown, hBr⟩ := hrel
      have hszr := hBr.size
      obtain ⟨vo, vc, rfl⟩ := own_slice_form hown.out
      by_cases hlt : k < L.length
      · obtain ⟨gg, cap', hv, hg1, hg2, hcs⟩ := ownsRow_cells HOWN.out (by omega)
        cases hv
        obtain ⟨x, hx⟩ : ∃ x, L[k]? = some x := ⟨_, List.getElem?_eq_getElem hlt⟩
        have hbx := HBD.out x (List.mem_of_getElem? hx)
        have hp0 : -4611686018427387904 ≤ x.pos := by omega
        have hp1 : x.pos ≤ 4611686018427387904 := by omega
        have htx := hbx.2.2.2.1
        have HE := Lib.hid (fun W => back_any x W hp0 hp1 htx)
        have e0 : wr.cell? ⟨gg, k * 5, none⟩ = some (.int .i64 x.spl.lo) := (hBr.cell (p := ⟨gg, _, none⟩) hg2).trans (hcs _ _ (chgsCells_get L k x hx 0 _ rfl))
        have e1 : wr.cell? ⟨gg, k * 5 + 1, none⟩ = some (.int .i64 x.spl.hi) := (hBr.cell (p := ⟨gg, _, none⟩) hg2).trans (hcs _ _ (chgsCells_get L k x hx 1 _ rfl))
        have e2 : wr.cell? ⟨gg, k * 5 + 2, none⟩ = some (.string x.spl.text) := (hBr.cell (p := ⟨gg, _, none⟩) hg2).trans (hcs _ _ (chgsCells_get L k x hx 2 _ rfl))
        have e3 : wr.cell? ⟨gg, k * 5 + 3, none⟩ = some (.int .i64 x.pos) := (hBr.cell (p := ⟨gg, _, none⟩) hg2).trans (hcs _ _ (chgsCells_get L k x hx 3 _ rfl))
        have e4 : wr.cell? ⟨gg, k * 5 + 4, none⟩ = some (.string x.out) := (hBr.cell (p := ⟨gg, _, none⟩) hg2).trans (hcs _ _ (chgsCells_get L k x hx 4 _ rfl))
        have HT := Lib.hid (show L.take (k + 1) = L.take k ++ [x] by rw [List.take_add_one, hx]; rfl)
        have HO := Lib.hid hown.out
        have hk40 : k ≤ 40 := by omega
        clear hbx hcs hx hown
        go_wp2_with (first
          | (go_at_call 70; refine (HE.out _).mono ?_; rintro e w3 ⟨rfl, hB3⟩; have hO3 := ownsRow_below (HO.out.alloc (.cells #[.int .i64 x.spl.lo, .int .i64 x.spl.hi, .string x.spl.text, .int .i64 x.pos, .string x.out] 95)) hB3; have hBw3 : Below w1.heap.size w1 w3 := (hBr.alloc hszr _).trans (hB3.mono (by simp; omega)); have hsz3 := hBw3.size)
          | (at_builtin; go_loud (refine wpList_append_own_at _ rfl _ _ 45 rfl w1.heap.size 56 i0 (.agg #[.int .i64 0, .int .i64 0, .string ⟨#[]⟩]) 3 32 Tryd.underlying45 hi hz0 hz1 hz2 rfl (by decide) _ _ _ rfl (hO3.alloc _) ⟨w3.heap.size, 0, none⟩ 1 1 [.int .i64 x.pos, .int .i64 (x.pos + x.spl.text.size), .string x.out] rfl rfl (cells_new _ _ _) (by simp [Value.oneCell']) (by unfold maxLen; omega) (by omega) (by simp; omega) ?_); intro v' w5 hown' hgrow _ hat; have hB5 := (hBw3.alloc hsz3 _).trans (below_grown (hO3.alloc _) (by simp; omega) hgrow)))
        go_roundw
        case rel => exact ⟨k + 1, by omega, by go_num, by rw [Hid, HT.out]; simpa [splsCells, splCells, Lx.Chg.back] using hown', hB5⟩
        case measure => simp [intOf]; omega
      · obtain rfl : k = L.length := by omega
        have hown2 := hown.out
        rw [List.take_length] at hown2
        have HO := Lib.hid hown2
        clear hown hown2
        go_wp2
        go_ret2
        unfold SplsRet
        rw [HV.out]
        exact ⟨_, _, by rw [List.length_map]; rfl, spls_of_own HO.out (by rw [List.length_map]), HB1.out.trans (hBr.mono HB1.out.size), by rw [List.length_map]; exact nilOk_of_own HO.out⟩

end Go.Proofs.YtchkngabppmbkaaDoor
