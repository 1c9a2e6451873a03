/-
  WALKS: Show.
-/
import Derived.Test.YtoeabencbbjboaaGreatDoorBm
import Derived.Deep.AppendLies
namespace Go.Proofs.YtoeabencbbjboaaGreatDoor
open Go.RowKit Go.MapKept Go.Shelf

namespace Ar
def partsB (a : Are) : List ByteArray := [baseB a.root] ++ a.ids.map typeB ++ (if a.jumps = true then [⟨#[106, 117, 109, 112, 115]⟩] else [])
def showB (a : Are) : ByteArray := joinB (partsB a) ⟨#[59, 32]⟩
end Ar
theorem right_ok {a : Ar.Are} (h : Ar.Right a) : BsOk a.root ∧ ∀ t ∈ a.ids, TyOk t :=
  ⟨⟨by have := h.root; omega, by have := h.root; omega⟩, fun t ht => ⟨fun x hx => ⟨by have := h.params t ht x hx; omega, by have := h.params t ht x hx; omega⟩, ⟨by have := h.result t ht; omega, by have := h.result t ht; omega⟩, by have := h.long t ht; omega⟩⟩
def AS (w : World) (A : Option Addr) (n c : Nat) (rc : Bool) (rn : Int) (jm : Bool) (W : World) : Prop := Below w.heap.size w W ∧ W.cell? ⟨w.heap.size, 0, none⟩ = some (.slice A n c) ∧ W.cell? ⟨w.heap.size, 1, none⟩ = some (.bool rc) ∧ W.cell? ⟨w.heap.size, 2, none⟩ = some (.int .i64 rn) ∧ W.cell? ⟨w.heap.size, 3, none⟩ = some (.bool jm)
theorem AS.next {w W W' : World} {A : Option Addr} {n c : Nat} {rc : Bool} {rn : Int} {jm : Bool} (h : AS w A n c rc rn jm W) (hB : Below W.heap.size W W') : AS w A n c rc rn jm W' :=
  ⟨h.1.trans (hB.mono h.1.size), keep_cell hB h.2.1, keep_cell hB h.2.2.1, keep_cell hB h.2.2.2.1, keep_cell hB h.2.2.2.2⟩
theorem AS.lt {w W : World} {A : Option Addr} {n c : Nat} {rc : Bool} {rn : Int} {jm : Bool} (h : AS w A n c rc rn jm W) : w.heap.size < W.heap.size := block_of_cell h.2.1
theorem AS.grown {w W W' : World} {A : Option Addr} {n c : Nat} {rc : Bool} {rn : Int} {jm : Bool} (h : AS w A n c rc rn jm W) {row : Option Nat} (hg : W.grownBy W' row) (hr : ∀ j, row = some j → w.heap.size < j) : AS w A n c rc rn jm W' := by
  have hne : some w.heap.size ≠ row := fun e => by have := hr _ e.symm; omega
  refine ⟨h.1.trans ⟨hg.os, hg.tape, hg.output, hg.size, fun k hk => hg.block k (Nat.lt_of_lt_of_le hk h.1.size) (fun e => by have := hr _ e.symm; omega)⟩, ?_, ?_, ?_, ?_⟩
  · exact hg.cell h.2.1 hne
  · exact hg.cell h.2.2.1 hne
  · exact hg.cell h.2.2.2.1 hne
  · exact hg.cell h.2.2.2.2 hne
/-- A row of one text that a call has just made. -/
theorem row_one {W W' : World} {base : Nat} (s : ByteArray) (hb : base ≤ W.heap.size) (hB : Below (W.alloc (.cells #[.string s] 9 (0, 0))).heap.size (W.alloc (.cells #[.string s] 9 (0, 0))) W') : W'.ownsRow base 9 1 (.slice (some ⟨W.heap.size, 0, none⟩) 1 1) 1 [.string s] := by
  refine ⟨rfl, .inr ⟨W.heap.size, 1, #[.string s], rfl, hb, (hB.block _ ?_).trans (World.alloc_heap_new W _), Nat.le_refl _, by unfold maxLen; omega, rfl, rfl⟩⟩
  exact lt_of_heap (World.alloc_heap_new W _)
theorem types_len (l : List Ar.Ty) : (l.flatMap typeCell).length = l.length * 1 := by rw [row_types]; simp
theorem types_one (l : List Ar.Ty) : ∀ u ∈ l.flatMap typeCell, u.oneCell' = true := by
  rw [row_types]
  intro u hu
  obtain ⟨x, _, rfl⟩ := List.mem_map.1 hu
  rfl
theorem size_alloc (W : World) (o : Obj) : (W.alloc o).heap.size = W.heap.size + 1 := Array.size_push _
theorem own_gt {w W : World} (h : w.heap.size < W.heap.size) : ∀ j, (Value.slice (some ⟨W.heap.size, 0, none⟩) 1 1).ownBlock = some j → w.heap.size < j := fun j hj => by
  have : W.heap.size = j := by simpa [Value.ownBlock] using hj
  omega
theorem own_at {w : World} {base : Nat} {e : TypeId} {v : Value} {n : Nat} {xs : List Value} (h : w.ownsRow base e 1 v n xs) (hn : 0 < n) :
    ∃ g cap, v = .slice (some ⟨g, 0, none⟩) n cap ∧ g < w.heap.size ∧ ∀ W', Below w.heap.size w W' → ∀ (j : Nat) u, xs[j]? = some u → W'.cell? ((⟨g, 0, none⟩ : Addr).add j) = some u := by
  rcases h.2 with ⟨_, h0⟩ | ⟨g, cap, cur, rfl, _, hg, _, _, _, _⟩
  · omega
  · obtain ⟨g', hv, _, hlt, hc⟩ := own_cell h hn
    obtain rfl : g = g' := by simpa using hv
    refine ⟨g, cap, rfl, hlt, fun W' hB j u hu => ?_⟩
    have hq : (⟨g, 0, none⟩ : Addr).add j = ⟨g, j, none⟩ := by unfold Addr.add; split <;> simp_all
    rw [hq]
    exact keep_cell hB (hc j u hu)

set_option maxRecDepth 100000 in
set_option maxHeartbeats 8000000 in
theorem show_some (a : Ar.Are) (A : Option Addr) (c : Nat) (P : Nat → Option Addr × Nat) (w : World) (hA : ArM w A P a) (hk : Ar.checkOf a = 0) (hne : a.ids ≠ []) (hG : GT w) :
    Calls Tryz.prog 21 #[arV A c a] w fun e w' => e = .returned (.tuple #[.string (Ar.showB a), .int .i64 0]) ∧ Below w.heap.size w w' := by
  obtain ⟨i0, hi, hz0, hz1, hz2⟩ := info_parts infoStr
  obtain ⟨ok1, ok2⟩ := right_ok (Ar.right_of_check hk)
  have hl8 := (Ar.right_of_check hk).ids
  have hB0 : Below w.heap.size w (w.alloc (.cells #[.slice A a.ids.length c, .bool a.root.cell, .int .i64 a.root.n, .bool a.jumps] 26 (0, 0))) := (Below.refl _ _).alloc (Nat.le_refl _) _
  have j0 := Lib.hid (World.alloc_heap_new w (.cells #[.slice A a.ids.length c, .bool a.root.cell, .int .i64 a.root.n, .bool a.jumps] 26 (0, 0)))
  have HC := Lib.hid (check_any a A c P _ (hA.below hB0))
  rw [hk] at HC
  have HX := Lib.hid (fun W (hB : Below w.heap.size w W) => baseText_any a.root ok1 W (hG.below hB))
  have HE := Lib.hid (fun W (hB : Below w.heap.size w W) => each_type a.ids A P c W ((hA.below hB).tys) ok2 (hG.below hB) (by omega))
  have hav : arV A c a = .agg #[.slice A a.ids.length c, .bool a.root.cell, .int .i64 a.root.n, .bool a.jumps] := rfl
  have hn : 0 < a.ids.length := List.length_pos_iff.2 hne
  have HPS : Hid (∀ x ∈ Ar.partsB a, x.size ≤ 107000120) := fun x hx => by
    unfold Ar.partsB at hx
    simp only [List.mem_append, List.mem_map, List.mem_singleton] at hx
    rcases hx with (rfl | ⟨t, ht, rfl⟩) | hx
    · have := baseB_size a.root ok1; omega
    · exact typeB_size t (ok2 t ht)
    · split at hx
      · obtain rfl := List.mem_singleton.1 hx
        show 5 ≤ _; omega
      · cases hx
  have HP : Hid (Ar.partsB a = [Ar.baseB a.root] ++ a.ids.map Ar.typeB ++ (if a.jumps = true then [⟨#[106, 117, 109, 112, 115]⟩] else [])) := rfl
  have HJ0 := Lib.hid (fun (l : List ByteArray) v W (h : World.ownsRow W w.heap.size 9 1 v l.length (l.map .string)) (hs : ∀ x ∈ l, x.size ≤ 107000120) (hl : l.length ≤ 1000001) => join_row l ⟨#[59, 32]⟩ v w.heap.size 107000120 W h hs hl (by have : (⟨#[59, 32]⟩ : ByteArray).size = 2 := rfl; omega))
  rw [hav] at HC ⊢
  clear hav hA hG hk hne ok1 ok2
  go_enter Tryz.func21, Tryz.ntmps21
  go_wp2_with (go_at_call 19; refine HC.out.mono ?_; rintro e w2 ⟨rfl, hB2⟩; have hBw2 := hB0.trans (hB2.mono hB0.size); have j2 := Lib.hid ((hB2.block _ (lt_of_heap j0.out)).trans j0.out))
  obtain ⟨r0, r1, r2, r3, -, -, -, -⟩ := cells4 j2.out
  have hS0 : AS w A a.ids.length c a.root.cell a.root.n a.jumps w2.drew := ⟨hBw2.drew, r0, r1, r2, r3⟩
  have HS0 := Lib.hid hS0
  have hsz2 := lt_of_heap j2.out
  clear hS0 r0 r1 r2 r3 hB0 hB2
  generalize hrb : Ar.baseB a.root = rb at *
  have HROW := Lib.hid (fun (W : World) v (h : W.ownsRow w.heap.size 9 1 v (1 + a.ids.length) ([.string rb] ++ a.ids.flatMap typeCell)) => (show W.ownsRow w.heap.size 9 1 v ([rb] ++ a.ids.map Ar.typeB).length (([rb] ++ a.ids.map Ar.typeB).map .string) by
    have e1 : ([rb] ++ a.ids.map Ar.typeB).length = 1 + a.ids.length := by simp [Nat.add_comm]
    have e2 : ([rb] ++ a.ids.map Ar.typeB).map Value.string = [.string rb] ++ a.ids.flatMap typeCell := by rw [row_types]; simp
    rw [e1, e2]; exact h))
  have HROW2 := Lib.hid (fun (W : World) v (l : List ByteArray) (h : W.ownsRow w.heap.size 9 1 v (l.length + 1) (l.map .string ++ [.string ⟨#[106, 117, 109, 112, 115]⟩])) => (show W.ownsRow w.heap.size 9 1 v (l ++ [(⟨#[106, 117, 109, 112, 115]⟩ : ByteArray)]).length ((l ++ [(⟨#[106, 117, 109, 112, 115]⟩ : ByteArray)]).map Value.string) by
    have e1 : (l ++ [(⟨#[106, 117, 109, 112, 115]⟩ : ByteArray)]).length = l.length + 1 := by simp
    have e2 : (l ++ [(⟨#[106, 117, 109, 112, 115]⟩ : ByteArray)]).map Value.string = l.map .string ++ [.string ⟨#[106, 117, 109, 112, 115]⟩] := by simp
    rw [e1, e2]; exact h))
  go_region_held3 (fun w' => Below w.heap.size w w' ∧ w'.cell? ⟨w.heap.size, 0, none⟩ = some (.slice A a.ids.length c) ∧ w'.cell? ⟨w.heap.size, 1, none⟩ = some (.bool a.root.cell) ∧ w'.cell? ⟨w.heap.size, 2, none⟩ = some (.int .i64 a.root.n) ∧ w'.cell? ⟨w.heap.size, 3, none⟩ = some (.bool a.jumps))
    (first
      | exact HS0.out
      | exact hS9
      | exact AS.next (by assumption) hB8
      | exact AS.next (by assumption) hB7
      | exact AS.next (by assumption) ((Below.refl _ _).alloc (Nat.le_refl _) _)
      | go_keep)
    ((first
      | (go_at_call 60; refine (HE.out _ (SI_below (by assumption))).mono ?_; rintro e w7 ⟨v, rfl, ho, hB7⟩; have hz7 : w.heap.size < w7.heap.size := (by first | exact Nat.lt_of_lt_of_le hsz2 hB7.size | exact Nat.lt_of_lt_of_le hz8 hB7.size | exact Nat.lt_of_lt_of_le (Nat.lt_succ_of_lt hz8) (by have q := hB7.size; rw [size_alloc] at q; exact q)); obtain ⟨g, cap, hv, hg7, hc7⟩ := own_at ho hn; subst hv; have HC7 := Lib.hid hc7; clear hc7 ho)
      | (go_at_call 59; refine (HX.out _ (SI_below (by assumption))).mono ?_; rintro e w8 ⟨rfl, hB8⟩; have hz8 : w.heap.size < w8.heap.size := by first | exact Nat.lt_of_lt_of_le hsz2 hB8.size | exact Nat.lt_of_lt_of_le hz7 hB8.size)
      | (refine step_append_lies _ (by rfl) _ _ _ (by rfl) w.heap.size 9 i0 _ 1 16 Tryz.underlying86 hi hz0 hz1 hz2 rfl (by omega) (.slice (some ⟨w8.heap.size, 0, none⟩) 1 1) 1 [.string rb] (by rfl) (row_one rb (Nat.le_of_lt hz8) hB7) ⟨g, 0, none⟩ a.ids.length cap (a.ids.flatMap typeCell) (by rfl) (types_len _) (HC7.out _ (Below.refl _ _)) (types_one _) hn (by unfold maxLen; omega) (by omega) (SI_below (by assumption)).size _ rfl ?_; intro gg cap9 w9 hown9 hgrow hat hlt9; have hS9 : AS w A a.ids.length c a.root.cell a.root.n a.jumps w9 := AS.grown (by assumption) hgrow (own_gt hz8))
      | (refine step_append_lies _ (by rfl) _ _ _ (by rfl) w.heap.size 9 i0 _ 1 16 Tryz.underlying86 hi hz0 hz1 hz2 rfl (by omega) (.slice (some ⟨w7.heap.size, 0, none⟩) 1 1) 1 [.string rb] (by rfl) (row_one rb (Nat.le_of_lt hz7) (Below.refl _ _)) ⟨g, 0, none⟩ a.ids.length cap (a.ids.flatMap typeCell) (by rfl) (types_len _) (HC7.out _ ((Below.refl _ _).alloc (Nat.le_refl _) _)) (types_one _) hn (by unfold maxLen; omega) (by omega) (SI_below (by assumption)).size _ rfl ?_; intro gg cap9 w9 hown9 hgrow hat hlt9; have hS9 : AS w A a.ids.length c a.root.cell a.root.n a.jumps w9 := AS.grown (by assumption) hgrow (own_gt hz7))
      | (refine step_append_lies _ (by rfl) _ _ _ (by rfl) w.heap.size 9 i0 _ 1 16 Tryz.underlying86 hi hz0 hz1 hz2 rfl (by omega) (.slice (some ⟨w8.heap.size, 0, none⟩) 1 1) 1 [.string rb] (by rfl) (row_one rb (Nat.le_of_lt hz8) (Below.refl _ _)) ⟨g, 0, none⟩ a.ids.length cap (a.ids.flatMap typeCell) (by rfl) (types_len _) (HC7.out _ (hB8.alloc hB8.size _)) (types_one _) hn (by unfold maxLen; omega) (by omega) (SI_below (by assumption)).size _ rfl ?_; intro gg cap9 w9 hown9 hgrow hat hlt9; have hS9 : AS w A a.ids.length c a.root.cell a.root.n a.jumps w9 := AS.grown (by assumption) hgrow (own_gt hz8))
))
  all_goals
    obtain ⟨hB9, q0, q1, q2, q3⟩ := hS9
    have hown := HROW.out _ _ hown9
    clear hown9 hgrow hat
    cases hj : a.jumps
    · rw [hj] at q3 HP
      have HJ := Lib.hid (HJ0.out _ _ _ hown (fun x hx => HPS.out x (by rw [HP.out]; simpa using hx)) (by simp; omega))
      have HV : Hid (Ar.showB a = Ar.joinB ([rb] ++ a.ids.map Ar.typeB) ⟨#[59, 32]⟩) := by unfold Ar.showB; rw [Hid, HP.out]; simp
      clear hown
      go_wp2_with (go_at_call 62; refine HJ.out.mono ?_; rintro e w10 ⟨rfl, hB10⟩)
      exact bodyPost_ret (v := .tuple #[.string (Ar.joinB ([rb] ++ a.ids.map Ar.typeB) ⟨#[59, 32]⟩), .int .i64 0]) (by simp [results, Tryz.results21, go_sem]) rfl ⟨by rw [HV.out], hB9.trans (hB10.mono hB9.size)⟩
    · rw [hj] at q3 HP
      have HR := Lib.hid hown
      have HV : Hid (Ar.showB a = Ar.joinB (([rb] ++ a.ids.map Ar.typeB) ++ [⟨#[106, 117, 109, 112, 115]⟩]) ⟨#[59, 32]⟩) := by unfold Ar.showB; rw [Hid, HP.out]; simp
      clear hown
      have hlen : ([rb] ++ a.ids.map Ar.typeB).length = 1 + a.ids.length := by simp [Nat.add_comm]
      have hz9 := hB9.size
      go_wp2_with (first
        | (at_builtin; go_loud (refine wpList_append_own_at _ rfl _ _ 86 rfl w.heap.size 9 i0 (.string ⟨#[]⟩) 1 16 Tryz.underlying86 hi hz0 hz1 hz2 rfl (by decide) _ _ _ rfl (HR.out.alloc _) ⟨w9.heap.size, 0, none⟩ 1 1 [.string ⟨#[106, 117, 109, 112, 115]⟩] rfl rfl (cell_one_at _ _ (by simp) _ _) (by simp [Value.oneCell']) (by unfold maxLen; omega) (by omega) (by simp; omega) ?_); intro v' w11 hown' hgrow _ hat; have hB11 := (hB9.alloc hB9.size (.cells #[.string ⟨#[106, 117, 109, 112, 115]⟩] 9)).grown hgrow (by simp; omega) (fun j e => own_low HR.out e); have HJ := Lib.hid (HJ0.out _ v' _ (HROW2.out _ _ _ hown') (fun x hx => HPS.out x (by rw [HP.out]; simpa using hx)) (by simp; omega)))
        | (go_at_call 62; refine HJ.out.mono ?_; rintro e w10 ⟨rfl, hB10⟩))
      exact bodyPost_ret (v := .tuple #[.string (Ar.joinB (([rb] ++ a.ids.map Ar.typeB) ++ [⟨#[106, 117, 109, 112, 115]⟩]) ⟨#[59, 32]⟩), .int .i64 0]) (by simp [results, Tryz.results21, go_sem]) rfl ⟨by rw [HV.out], hB11.trans (hB10.mono hB11.size)⟩
end Go.Proofs.YtoeabencbbjboaaGreatDoor
