/-
  WALKS: ArenaNames.
-/
import Derived.Test.YtepdlghobopdbaaGreatDoorHc
import Derived.Test.YtepdlghobopdbaaGreatDoorGa
import Derived.Test.YtepdlghobopdbaaGreatDoorBs
import Derived.Test.YtepdlghobopdbaaGreatDoorBx
namespace Go.Proofs.YtepdlghobopdbaaGreatDoor
open Go.RowKit Go.MapKept Go.Shelf

set_option maxRecDepth 100000 in
set_option maxHeartbeats 4000000 in
theorem exampleN_any (w : World) : Calls Tryz.prog 10 #[] w fun e w' => ∃ A c P, e = .returned (.agg #[.slice A 2 c, .bool false, .int .i64 2, .bool false]) ∧ ArM w' A P exA ∧ (∀ i t, exA.ids[i]? = some t → (P i).1 = none → (P i).2 = 0 ∧ t.params = []) ∧ Below w.heap.size w w' := by
  go_enter Tryz.func10, Tryz.ntmps10
  go_wp2
  obtain ⟨k0, k1, k2⟩ := three_newX w (.cells #[.slice (some ⟨w.heap.size + 1 + 1, 0, none⟩) 2 2, .bool false, .int .i64 2, .bool false] 27 (0, 0)) (.cells #[.bool false, .int .i64 3, .bool true, .int .i64 2] 25 (0, 0)) (.cells #[.slice (some ⟨w.heap.size + 1, 0, none⟩) 2 2, .bool false, .int .i64 1, .slice none 0 0, .bool true, .int .i64 2] 53 (0, 0))
  obtain ⟨r0, r1, r2, r3, -, -, -, -⟩ := cells4 k0
  refine bodyPost_ret (v := .agg #[.slice (some ⟨w.heap.size + 1 + 1, 0, none⟩) 2 2, .bool false, .int .i64 2, .bool false]) (by simp [results, Tryz.results10, go_sem, r0, r1, r2, r3]) rfl ⟨_, _, exP w.heap.size, rfl, ex_mem _ w.heap.size (by rw [size_alloc, size_alloc, size_alloc]; omega) k1 k2, ?_, ?_⟩
  · intro i t ht hp
    match i, ht with
    | 0, _ => simp [exP] at hp
    | 1, ht => simp [exA] at ht; subst ht; exact ⟨rfl, rfl⟩
    | i + 2, ht => simp [exA] at ht
  · exact (below_two _ _).alloc (by rw [size_alloc, size_alloc]; omega) _

/-- What the call's block holds: the example's arena. -/
structure NB (w : World) (b : Nat) (A : Option Addr) (c : Nat) (P : Nat → Option Addr × Nat) (W : World) : Prop where
  below : Below w.heap.size w W
  ar : W.heap[b]? = some (.cells #[.slice A 2 c, .bool false, .int .i64 2, .bool false] 27 (0, 0))
  m : ArM W A P exA
theorem NB.next {w : World} {b : Nat} {A : Option Addr} {c : Nat} {P : Nat → Option Addr × Nat} {W W' : World} (h : NB w b A c P W) (hB : Below W.heap.size W W') : NB w b A c P W' :=
  ⟨h.below.trans (hB.mono h.below.size), (hB.block _ (lt_of_heap h.ar)).trans h.ar, h.m.below hB⟩
theorem al_below (W : World) (o : Obj) : Below W.heap.size W (W.alloc o) := (Below.refl _ _).alloc (Nat.le_refl _) _
section
variable {A : Option Addr} {c : Nat} {P : Nat → Option Addr × Nat} {W : World}
theorem nx_other1 (h : ArM W A P exA) : Calls Tryz.prog 11 #[.agg #[.slice A 2 c, .bool false, .int .i64 2, .bool false], .agg #[.int .i64 1, .int .i64 1, .int .u8 3, .int .i64 2]] W fun e w' => e = .returned (.tuple #[.bool false, .int .i64 0]) ∧ Below W.heap.size W w' := isOther_any exA A c P ⟨1, 1, 3, 2⟩ W h
theorem nx_other2 (h : ArM W A P exA) : Calls Tryz.prog 11 #[.agg #[.slice A 2 c, .bool false, .int .i64 2, .bool false], .agg #[.int .i64 2, .int .i64 0, .int .u8 2, .int .i64 1]] W fun e w' => e = .returned (.tuple #[.bool false, .int .i64 0]) ∧ Below W.heap.size W w' := isOther_any exA A c P ⟨2, 0, 2, 1⟩ W h
theorem nx_ans1 (h : ArM W A P exA) : Calls Tryz.prog 12 #[.agg #[.slice A 2 c, .bool false, .int .i64 2, .bool false], .agg #[.int .i64 1, .int .i64 2, .int .u8 2, .int .i64 1]] W fun e w' => ∃ A' c', e = .returned (.tuple #[.slice A' 2 c', .int .i64 0]) ∧ Mvs w' w'.heap.size A' [⟨1, 2, 3, -1⟩, ⟨1, 2, 3, 0⟩] ∧ Below W.heap.size W w' :=
  (Answers_any exA A c P ⟨1, 2, 2, 1⟩ W h).mono fun e w' ⟨v, he, ho, hB⟩ => by
    have ho' : w'.ownsRow W.heap.size 37 4 v 2 (mvsCells [⟨1, 2, 3, -1⟩, ⟨1, 2, 3, 0⟩]) := ho
    obtain ⟨ao, cap, rfl⟩ := own_form ho'
    exact ⟨ao, cap, he, mvs_of_own (l := [⟨1, 2, 3, -1⟩, ⟨1, 2, 3, 0⟩]) ho', hB⟩
theorem nx_ans2 (h : ArM W A P exA) : Calls Tryz.prog 12 #[.agg #[.slice A 2 c, .bool false, .int .i64 2, .bool false], .agg #[.int .i64 2, .int .i64 0, .int .u8 2, .int .i64 1]] W fun e w' => ∃ A' c', e = .returned (.tuple #[.slice A' 1 c', .int .i64 0]) ∧ Below W.heap.size W w' :=
  (Answers_any exA A c P ⟨2, 0, 2, 1⟩ W h).mono fun e w' ⟨v, he, ho, hB⟩ => by
    have ho' : w'.ownsRow W.heap.size 37 4 v 1 (mvsCells [⟨2, 0, 3, 0⟩]) := ho
    obtain ⟨ao, cap, rfl⟩ := own_form ho'
    exact ⟨ao, cap, he, hB⟩
theorem nx_has1 (h : ArM W A P exA) : Calls Tryz.prog 13 #[.agg #[.slice A 2 c, .bool false, .int .i64 2, .bool false], .agg #[.int .i64 2, .int .i64 0, .int .u8 3, .int .i64 (-1)]] W fun e w' => e = .returned (.tuple #[.bool false, .int .i64 0]) ∧ Below W.heap.size W w' := Has_any exA A c P ⟨2, 0, 3, -1⟩ W h
theorem nx_has2 (h : ArM W A P exA) : Calls Tryz.prog 13 #[.agg #[.slice A 2 c, .bool false, .int .i64 2, .bool false], .agg #[.int .i64 0, .int .i64 0, .int .u8 3, .int .i64 2]] W fun e w' => e = .returned (.tuple #[.bool false, .int .i64 0]) ∧ Below W.heap.size W w' := Has_any exA A c P ⟨0, 0, 3, 2⟩ W h
theorem nx_ans3 (h : ArM W A P exA) : Calls Tryz.prog 12 #[.agg #[.slice A 2 c, .bool false, .int .i64 2, .bool false], .agg #[.int .i64 2, .int .i64 0, .int .u8 3, .int .i64 0]] W fun e w' => ∃ v, e = .returned (.tuple #[v, .int .i64 2]) ∧ Below W.heap.size W w' :=
  (Answers_any exA A c P ⟨2, 0, 3, 0⟩ W h).mono fun _e _w' ⟨v, he, _, hB⟩ => ⟨v, he, hB⟩
theorem nx_under (h : ArM W A P exA) : Calls Tryz.prog 15 #[.agg #[.slice A 2 c, .bool false, .int .i64 2, .bool false], .agg #[.int .i64 3, .int .i64 0, .int .u8 1, .int .i64 0]] W fun e w' => ∃ v, e = .returned (.tuple #[v, .int .i64 7]) ∧ Below W.heap.size W w' :=
  (under_any exA A c P ⟨3, 0, 1, 0⟩ W h).mono fun _e _w' ⟨v, he, _, hB⟩ => ⟨v, he, hB⟩
theorem nx_place (h : ArM W A P exA) : Calls Tryz.prog 16 #[.agg #[.slice A 2 c, .bool false, .int .i64 2, .bool false], .int .i64 1, .int .i64 3] W fun e w' => ∃ v, e = .returned (.tuple #[v, .int .i64 7]) ∧ Below W.heap.size W w' :=
  (Place_any exA A c P 1 3 W h).mono fun _e _w' ⟨he, hB⟩ => ⟨_, he, hB⟩
theorem nx_inner (h : ArM W A P exA) : Calls Tryz.prog 17 #[.agg #[.slice A 2 c, .bool false, .int .i64 2, .bool false], .int .i64 0] W fun e w' => ∃ v, e = .returned (.tuple #[v, .int .i64 7]) ∧ Below W.heap.size W w' :=
  (inner_any exA A c P 0 W h).mono fun _e _w' ⟨_, _, _, he, _, hB⟩ => ⟨_, he, hB⟩
/-- Types made anew. -/
def zeroTs (n : Nat) : Array Value := madeCells #[.slice none 0 0, .bool false, .int .i64 0] (n * 3)
theorem zeroTs_at {n i j : Nat} (hi : i < n) (hj : j < 3) : (zeroTs n)[i * 3 + j]? = (#[.slice none 0 0, .bool false, .int .i64 0] : Array Value)[j]? := by
  unfold zeroTs madeCells
  have h1 : i * 3 + j < n * 3 := by omega
  have h2 : (i * 3 + j) % 3 = j := by omega
  rw [Array.getElem?_map, Array.getElem?_range, if_pos h1]
  simp only [Option.map_some, List.size_toArray, List.length_cons, List.length_nil, Nat.zero_add, Nat.reduceAdd, h2]
  match j, hj with
  | 0, _ => rfl
  | 1, _ => rfl
  | 2, _ => rfl
def zTy : Ar.Ty := ⟨[], ⟨false, 0⟩⟩
theorem zeroTs_tys {b n : Nat} (h : W.heap[b]? = some (.cells (zeroTs n) 53 (0, 0))) : Tys W W.heap.size (some ⟨b, 0, none⟩) (fun _ => (none, 0)) (List.replicate n zTy) := fun _ => by
  refine ⟨b, 0, rfl, lt_of_heap h, fun i t ht => ?_⟩
  obtain ⟨hi, rfl⟩ : i < n ∧ t = zTy := by
    rw [List.getElem?_replicate] at ht
    split at ht
    · exact ⟨by assumption, (Option.some.inj ht).symm⟩
    · cases ht
  have hc : ∀ j, j < 3 → W.cell? ⟨b, 0 + i * 3 + j, none⟩ = (#[.slice none 0 0, .bool false, .int .i64 0] : Array Value)[j]? := fun j hj => by
    rw [← zeroTs_at hi hj]
    unfold World.cell?
    rw [h, Nat.zero_add]
    rfl
  exact ⟨hc 0 (by omega), hc 1 (by omega), hc 2 (by omega), fun hne => absurd rfl hne⟩
theorem nx_add (n : Nat) (hn : n ≤ 1000) (er : Nat) (b : Nat) (h : ArM W A P exA) (hz : W.heap[b]? = some (.cells (zeroTs n) 53 (0, 0))) (hP : ∀ i t, exA.ids[i]? = some t → (P i).1 = none → (P i).2 = 0 ∧ t.params = []) (he : Ar.addErr exA (List.replicate n zTy) = er) :
    Calls Tryz.prog 18 #[.agg #[.slice A 2 c, .bool false, .int .i64 2, .bool false], .slice (some ⟨b, 0, none⟩) n n] W fun e w' => ∃ v, e = .returned (.tuple #[v, .int .i64 (er : Int)]) ∧ Below W.heap.size W w' := by
  have hA : A = none → c = 0 ∧ exA.ids.length = 0 := fun e => by
    obtain ⟨b', off, hA', _⟩ := h.tys (by decide)
    rw [e] at hA'
    cases hA'
  have h1 := add_any exA (List.replicate n zTy) A (some ⟨b, 0, none⟩) c n P (fun _ => (none, 0)) W h (zeroTs_tys hz) hA (fun e => by cases e) hP (fun i t ht _ => ⟨rfl, by
    rw [List.getElem?_replicate] at ht
    split at ht
    · rw [← Option.some.inj ht]; rfl
    · cases ht⟩) (by decide) (by rw [List.length_replicate]; exact hn) (fun t ht => by rw [List.eq_of_mem_replicate ht]; exact Nat.zero_le _)
  rw [List.length_replicate, he] at h1
  exact h1.mono fun e w' ⟨_, _, _, he, _, hB⟩ => ⟨_, he, hB⟩
theorem nx_add8 (b : Nat) (h : ArM W A P exA) (hz : W.heap[b]? = some (.cells (zeroTs 8) 53 (0, 0))) (hP : ∀ i t, exA.ids[i]? = some t → (P i).1 = none → (P i).2 = 0 ∧ t.params = []) :
    Calls Tryz.prog 18 #[.agg #[.slice A 2 c, .bool false, .int .i64 2, .bool false], .slice (some ⟨b, 0, none⟩) 8 8] W fun e w' => ∃ v, e = .returned (.tuple #[v, .int .i64 5]) ∧ Below W.heap.size W w' := nx_add 8 (by decide) 5 b h hz hP (by rfl)
theorem nx_add1 (b : Nat) (h : ArM W A P exA) (hz : W.heap[b]? = some (.cells (zeroTs 1) 53 (0, 0))) (hP : ∀ i t, exA.ids[i]? = some t → (P i).1 = none → (P i).2 = 0 ∧ t.params = []) :
    Calls Tryz.prog 18 #[.agg #[.slice A 2 c, .bool false, .int .i64 2, .bool false], .slice (some ⟨b, 0, none⟩) 1 1] W fun e w' => ∃ v, e = .returned (.tuple #[v, .int .i64 4]) ∧ Below W.heap.size W w' := nx_add 1 (by decide) 4 b h hz hP (by rfl)
end
def nS0 : ByteArray := ⟨#[49, 46, 48, 63]⟩
theorem nx_t2 : Ar.textRes ⟨1, 0, 2, 0⟩ = (⟨#[49, 61, 48]⟩, 0) := by
  have e : Ar.textRes ⟨1, 0, 2, 0⟩ = (Ar.itoaB 1 ++ ⟨#[61]⟩ ++ Ar.itoaB 0, 0) := rfl
  rw [e, it1, it0]
  rfl
theorem nx_parse (W : World) (hV : GV W) (hG : GT W) : Calls Tryz.prog 19 #[.string ⟨#[49, 46, 48, 63]⟩] W fun e w' => e = .returned (.tuple #[.agg #[.int .i64 0, .int .i64 0, .int .u8 0, .int .i64 0], .int .i64 4]) ∧ Below W.heap.size W w' :=
  (parse_any nS0 (by decide) W hV hG).mono fun e w' ⟨h, hB⟩ => by
    refine ⟨?_, hB⟩
    have m1 : miss nS0 1 := by unfold miss; rw [show readMv nS0 1 (sg 1) = ⟨1, 0, 1, 0⟩ by rfl, ex15]; decide
    have m2 : miss nS0 2 := by unfold miss; rw [show readMv nS0 2 (sg 2) = ⟨1, 0, 2, 0⟩ by rfl, nx_t2]; decide
    have m3 : miss nS0 3 := by unfold miss; rw [show readMv nS0 3 (sg 3) = ⟨1, 0, 3, 0⟩ by rfl, ex16]; decide
    rcases h with ⟨k, hk, hm, he⟩ | ⟨_, he⟩
    · rcases hk with rfl | rfl | rfl
      · exact absurd m1 hm
      · exact absurd m2 hm
      · exact absurd m3 hm
    · exact he
theorem nx_text (W : World) (hG : GT W) : Calls Tryz.prog 20 #[.agg #[.int .i64 0, .int .i64 0, .int .u8 1, .int .i64 1]] W fun e w' => e = .returned (.tuple #[.string ⟨#[]⟩, .int .i64 4]) ∧ Below W.heap.size W w' := text_any ⟨0, 0, 1, 1⟩ W hG (by unfold MvOk; decide)
theorem nx_res {s : ByteArray} (h : Ar.readAr s = ⟨[], ⟨false, 0⟩, false⟩) : Ar.readRes s = (Ar.noAre, 4) := by
  unfold Ar.readRes Ar.fitsA
  rw [h, if_neg]
  intro e
  exact absurd (show (4 : Nat) = 0 from congrArg Prod.snd e) (by decide)
theorem nx_read (s : ByteArray) (h : Ar.readAr s = ⟨[], ⟨false, 0⟩, false⟩) (hs : s.size ≤ 900000) (W : World) (hV : GV W) (hG : GT W) (hX : GM W) :
    Calls Tryz.prog 7 #[.string s] W fun e w' => ∃ A' c', e = .returned (.tuple #[.agg #[.slice A' 0 c', .bool false, .int .i64 0, .bool false], .int .i64 4]) ∧ Below W.heap.size W w' := by
  have h1 := read_any s hs W hV hG hX
  rw [nx_res h] at h1
  exact h1.mono fun e w' ⟨A', c', _, he, _, hB⟩ => ⟨A', c', he, hB⟩
theorem nx_r1 : Ar.readAr ⟨#[105, 110, 116, 32, 48]⟩ = ⟨[], ⟨false, 0⟩, false⟩ := by rfl
theorem nx_r2 : Ar.readAr ⟨#[105, 110, 116, 32, 50, 59, 106, 117, 109, 112, 115]⟩ = ⟨[], ⟨false, 0⟩, false⟩ := by rfl
def exC : Ar.Are := ⟨[⟨[⟨false, 1⟩], ⟨true, 1⟩⟩], ⟨false, 1⟩, false⟩
theorem exC_mem (W : World) : ArM ((W.alloc (.cells #[.bool false, .int .i64 1] 25 (0, 0))).alloc (.cells #[.slice (some ⟨W.heap.size, 0, none⟩) 1 1, .bool true, .int .i64 1] 53 (0, 0))) (some ⟨W.heap.size + 1, 0, none⟩) (fun _ => (some ⟨W.heap.size, 0, none⟩, 1)) exC := by
  have h1 := two_new1 W (.cells #[.bool false, .int .i64 1] 25 (0, 0)) (.cells #[.slice (some ⟨W.heap.size, 0, none⟩) 1 1, .bool true, .int .i64 1] 53 (0, 0))
  have h2 := two_new2 W (.cells #[.bool false, .int .i64 1] 25 (0, 0)) (.cells #[.slice (some ⟨W.heap.size, 0, none⟩) 1 1, .bool true, .int .i64 1] 53 (0, 0))
  obtain ⟨x0, x1, -, -⟩ := cells2 h1
  obtain ⟨y0, y1, y2⟩ := cells3 h2
  refine ⟨by decide, by decide, fun _ => ⟨_, 0, rfl, lt_of_heap h2, fun i t ht => ?_⟩⟩
  match i, ht with
  | 0, ht =>
    simp [exC] at ht
    subst ht
    refine ⟨y0, y1, y2, fun _ => ⟨_, 0, rfl, lt_of_heap h1, fun j b hb => ?_⟩⟩
    match j, hb with
    | 0, hb => simp at hb; subst hb; exact ⟨x0, x1⟩
    | j + 1, hb => simp at hb
  | i + 1, ht => simp [exC] at ht
theorem nx_check1 (W V : World) (h : V = (W.alloc (.cells #[.bool false, .int .i64 1] 25 (0, 0))).alloc (.cells #[.slice (some ⟨W.heap.size, 0, none⟩) 1 1, .bool true, .int .i64 1] 53 (0, 0))) :
    Calls Tryz.prog 21 #[.agg #[.slice (some ⟨W.heap.size + 1, 0, none⟩) 1 1, .bool false, .int .i64 1, .bool false]] V fun e w' => e = .returned (.int .i64 4) ∧ Below V.heap.size V w' := by
  subst h
  exact check_any exC _ 1 _ _ (exC_mem W)
theorem nx_check1N (U : World) (A' : Option Addr) (c' : Nat) :
    Calls Tryz.prog 21 #[.agg #[.slice (some ⟨U.heap.size + 1 + 1, 0, none⟩) 1 1, .bool false, .int .i64 1, .bool false]] (((U.alloc (.cells #[.slice A' 0 c', .bool false, .int .i64 0, .bool false] 27 (0, 0))).alloc (.cells #[.bool false, .int .i64 1] 25 (0, 0))).alloc (.cells #[.slice (some ⟨U.heap.size + 1, 0, none⟩) 1 1, .bool true, .int .i64 1] 53 (0, 0))) fun e w' => e = .returned (.int .i64 4) ∧ Below (((U.alloc (.cells #[.slice A' 0 c', .bool false, .int .i64 0, .bool false] 27 (0, 0))).alloc (.cells #[.bool false, .int .i64 1] 25 (0, 0))).alloc (.cells #[.slice (some ⟨U.heap.size + 1, 0, none⟩) 1 1, .bool true, .int .i64 1] 53 (0, 0))).heap.size (((U.alloc (.cells #[.slice A' 0 c', .bool false, .int .i64 0, .bool false] 27 (0, 0))).alloc (.cells #[.bool false, .int .i64 1] 25 (0, 0))).alloc (.cells #[.slice (some ⟨U.heap.size + 1, 0, none⟩) 1 1, .bool true, .int .i64 1] 53 (0, 0))) w' := by
  have h := nx_check1 (U.alloc (.cells #[.slice A' 0 c', .bool false, .int .i64 0, .bool false] 27 (0, 0))) _ rfl
  rw [size_alloc U (.cells #[.slice A' 0 c', .bool false, .int .i64 0, .bool false] 27 (0, 0))] at h
  exact h
theorem nx_check2 (W : World) : Calls Tryz.prog 21 #[.agg #[.slice none 0 0, .bool false, .int .i64 65, .bool false]] W fun e w' => e = .returned (.int .i64 4) ∧ Below W.heap.size W w' :=
  check_any ⟨[], ⟨false, 65⟩, false⟩ none 0 (fun _ => (none, 0)) W ⟨Nat.zero_le _, (fun t ht => by cases ht), fun h => absurd rfl h⟩
def wordN : List Ar.Mv := [⟨1, 2, 3, -1⟩, ⟨1, 2, 3, 0⟩]
theorem nx_word (W : World) : Mvs (W.alloc (.cells #[.int .i64 1, .int .i64 2, .int .u8 3, .int .i64 (-1), .int .i64 1, .int .i64 2, .int .u8 3, .int .i64 0] 37 (0, 0))) (W.alloc (.cells #[.int .i64 1, .int .i64 2, .int .u8 3, .int .i64 (-1), .int .i64 1, .int .i64 2, .int .u8 3, .int .i64 0] 37 (0, 0))).heap.size (some ⟨W.heap.size, 0, none⟩) wordN := fun _ => by
  have h1 := World.alloc_heap_new W (.cells #[.int .i64 1, .int .i64 2, .int .u8 3, .int .i64 (-1), .int .i64 1, .int .i64 2, .int .u8 3, .int .i64 0] 37 (0, 0))
  have hc : ∀ j : Nat, (W.alloc (.cells #[.int .i64 1, .int .i64 2, .int .u8 3, .int .i64 (-1), .int .i64 1, .int .i64 2, .int .u8 3, .int .i64 0] 37 (0, 0))).cell? ⟨W.heap.size, j, none⟩ = (#[.int .i64 1, .int .i64 2, .int .u8 3, .int .i64 (-1), .int .i64 1, .int .i64 2, .int .u8 3, .int .i64 0] : Array Value)[j]? := fun j => by
    unfold World.cell?
    rw [h1]
    rfl
  refine ⟨_, 0, rfl, lt_of_heap h1, fun i x hx => ?_⟩
  match i, hx with
  | 0, hx => simp [wordN] at hx; subst hx; exact ⟨hc 0, hc 1, hc 2, hc 3⟩
  | 1, hx => simp [wordN] at hx; subst hx; exact ⟨hc 4, hc 5, hc 6, hc 7⟩
  | i + 2, hx => simp [wordN] at hx

set_option maxRecDepth 100000 in
set_option maxHeartbeats 16000000 in
theorem law_names (w : World) (hV : GV w) (hG : GT w) (hX : GM w) : Calls Tryz.prog 4 #[] w fun e w' => e = .returned (.bool true) ∧ Below w.heap.size w w' := by
  have HV := Lib.hid hV; have HG := Lib.hid hG; have HX := Lib.hid hX
  have hm8 : ∀ W : World, (Instr.makeSlice 23 (.int .i64 8) (.int .i64 8)).run Tryz.prog W = .ok (.slice (some ⟨W.heap.size, 0, none⟩) 8 8) (W.alloc (.cells (zeroTs 8) 53 (0, 0))) := fun W => by
    obtain ⟨i0, hi, hz0, hz1, hz2⟩ := info_parts infoTy
    have h := run_make W 23 53 i0 _ Tryz.underlying23 hi hz0 .i64 .i64 8 8 (by decide) (by decide) (by rw [hz2]; decide) (by decide)
    rw [hz1] at h
    exact h
  have hm1 : ∀ W : World, (Instr.makeSlice 23 (.int .i64 1) (.int .i64 1)).run Tryz.prog W = .ok (.slice (some ⟨W.heap.size, 0, none⟩) 1 1) (W.alloc (.cells (zeroTs 1) 53 (0, 0))) := fun W => by
    obtain ⟨i0, hi, hz0, hz1, hz2⟩ := info_parts infoTy
    have h := run_make W 23 53 i0 _ Tryz.underlying23 hi hz0 .i64 .i64 1 1 (by decide) (by decide) (by rw [hz2]; decide) (by decide)
    rw [hz1] at h
    exact h
  have HSW := Lib.hid (fun A' B' c' d' W (h1 : Mvs W W.heap.size A' wordN) (h2 : Mvs W W.heap.size B' wordN) => show Calls Tryz.prog 14 #[.slice A' 2 c', .slice B' 2 d'] W fun e w' => e = .returned (.bool true) ∧ Below W.heap.size W w' from sameWord_any wordN A' B' c' d' W (by decide) h1 h2)
  clear hV hG hX
  go_enter Tryz.func4, Tryz.ntmps4
  go_wp2_with (first
    | (have _t := mk11; go_at_call 17; refine (nx_inner hF.m).mono ?_; rintro e w12 ⟨v12, rfl, hB12⟩; have hF := hF.next hB12; clear e0 e1 e2 e3; obtain ⟨e0, e1, e2, e3, -, -, -, -⟩ := cells4 hF.ar; have mk12 := True.intro)
    | (have _t := mk10; go_at_call 16; refine (nx_place hF.m).mono ?_; rintro e w11 ⟨v11, rfl, hB11⟩; have hF := hF.next hB11; clear e0 e1 e2 e3; obtain ⟨e0, e1, e2, e3, -, -, -, -⟩ := cells4 hF.ar; have mk11 := True.intro)
    | (have _t := mk9; go_at_call 15; refine (nx_under hF.m).mono ?_; rintro e w10 ⟨v10, rfl, hB10⟩; have hF := hF.next hB10; clear e0 e1 e2 e3; obtain ⟨e0, e1, e2, e3, -, -, -, -⟩ := cells4 hF.ar; have mk10 := True.intro)
    | (have _t := mk8; go_at_call 12; refine (nx_ans3 hF.m).mono ?_; rintro e w9 ⟨v9, rfl, hB9⟩; have hF := hF.next hB9; clear e0 e1 e2 e3; obtain ⟨e0, e1, e2, e3, -, -, -, -⟩ := cells4 hF.ar; have mk9 := True.intro)
    | (have _t := mk7; go_at_call 14; refine (HSW.out _ _ _ _ _ hW7 hWx).mono ?_; rintro e w8 ⟨rfl, hB8⟩; have hF := hF.next hB8; clear e0 e1 e2 e3; obtain ⟨e0, e1, e2, e3, -, -, -, -⟩ := cells4 hF.ar; have mk8 := True.intro)
    | (have _t := mk6; go_at_call 13; refine (nx_has2 hF.m).mono ?_; rintro e w7 ⟨rfl, hB7⟩; have hF := hF.next hB7; clear e0 e1 e2 e3; obtain ⟨e0, e1, e2, e3, -, -, -, -⟩ := cells4 hF.ar; have mk7 := True.intro; have hW7 := (hW6.next hB7).next (al_below w7 (.cells #[.int .i64 1, .int .i64 2, .int .u8 3, .int .i64 (-1), .int .i64 1, .int .i64 2, .int .u8 3, .int .i64 0] 37 (0, 0))); have hWx := nx_word w7; have hF := hF.next (al_below w7 (.cells #[.int .i64 1, .int .i64 2, .int .u8 3, .int .i64 (-1), .int .i64 1, .int .i64 2, .int .u8 3, .int .i64 0] 37 (0, 0))))
    | (have _t := mk5; go_at_call 13; refine (nx_has1 hF.m).mono ?_; rintro e w6 ⟨rfl, hB6⟩; have hF := hF.next hB6; clear e0 e1 e2 e3; obtain ⟨e0, e1, e2, e3, -, -, -, -⟩ := cells4 hF.ar; have mk6 := True.intro; have hW6 := hW5.next hB6)
    | (have _t := mk4; go_at_call 12; refine (nx_ans2 hF.m).mono ?_; rintro e w5 ⟨A5, c5, rfl, hB5⟩; have hF := hF.next hB5; clear e0 e1 e2 e3; obtain ⟨e0, e1, e2, e3, -, -, -, -⟩ := cells4 hF.ar; have mk5 := True.intro; have hW5 := hW4.next hB5)
    | (have _t := mk3; go_at_call 12; refine (nx_ans1 hF.m).mono ?_; rintro e w4 ⟨A4, c4, rfl, hW4, hB4⟩; have hF := hF.next hB4; clear e0 e1 e2 e3; obtain ⟨e0, e1, e2, e3, -, -, -, -⟩ := cells4 hF.ar; have mk4 := True.intro)
    | (have _t := mk2; go_at_call 11; refine (nx_other2 hF.m).mono ?_; rintro e w3 ⟨rfl, hB3⟩; have hF := hF.next hB3; clear e0 e1 e2 e3; obtain ⟨e0, e1, e2, e3, -, -, -, -⟩ := cells4 hF.ar; have mk3 := True.intro)
    | (have _t := mk1; go_at_call 11; refine (nx_other1 hF.m).mono ?_; rintro e w2 ⟨rfl, hB2⟩; have hF := hF.next hB2; clear e0 e1 e2 e3; obtain ⟨e0, e1, e2, e3, -, -, -, -⟩ := cells4 hF.ar; have mk2 := True.intro)
    | (go_at_call 10; refine (exampleN_any _).mono ?_; rintro e w1 ⟨A, c, P, rfl, hM, hP, hB1⟩; have hal := al_below w1 (.cells #[.slice A 2 c, .bool false, .int .i64 2, .bool false] 27 (0, 0)); have hF : NB w w1.heap.size A c P (w1.alloc (.cells #[.slice A 2 c, .bool false, .int .i64 2, .bool false] 27 (0, 0))) := ⟨hB1.trans (hal.mono hB1.size), World.alloc_heap_new w1 _, hM.below hal⟩; clear hal hM; obtain ⟨e0, e1, e2, e3, -, -, -, -⟩ := cells4 hF.ar; have HP := Lib.hid hP; clear hP; have mk1 := True.intro))
  have x13 : ((w12.alloc (.cells (zeroTs 8) 53 (0, 0))).drew).heap[w12.heap.size]? = some (.cells (zeroTs 8) 53 (0, 0)) := World.alloc_heap_new w12 (.cells (zeroTs 8) 53 (0, 0))
  have hFd := (hF.next (al_below w12 (.cells (zeroTs 8) 53 (0, 0)))).next ((Below.refl _ _).drew)
  obtain ⟨d0, d1, d2, d3, -, -, -, -⟩ := cells4 (hF.next ((Below.refl _ _).drew)).ar
  obtain ⟨g0, g1, g2, g3, -, -, -, -⟩ := cells4 hFd.ar
  go_region_law (first
    | (go_simp; go_at_call 18; refine (nx_add8 w12.heap.size hFd.m x13 HP.out).mono ?_; rintro e w13 ⟨v13, rfl, hB13⟩; have hF13 := hFd.next hB13))
  all_goals
    have hF := hF13
    clear hFd hF13 d0 d1 d2 d3 g0 g1 g2 g3 x13
    clear e0 e1 e2 e3
    obtain ⟨e0, e1, e2, e3, -, -, -, -⟩ := cells4 hF.ar
    go_wp2
    have x14 : ((w13.alloc (.cells (zeroTs 1) 53 (0, 0))).drew).heap[w13.heap.size]? = some (.cells (zeroTs 1) 53 (0, 0)) := World.alloc_heap_new w13 (.cells (zeroTs 1) 53 (0, 0))
    have hFd := (hF.next (al_below w13 (.cells (zeroTs 1) 53 (0, 0)))).next ((Below.refl _ _).drew)
    obtain ⟨d0, d1, d2, d3, -, -, -, -⟩ := cells4 (hF.next ((Below.refl _ _).drew)).ar
    obtain ⟨g0, g1, g2, g3, -, -, -, -⟩ := cells4 hFd.ar
    go_region_law (first
      | (go_simp; go_at_call 18; refine (nx_add1 w13.heap.size hFd.m x14 HP.out).mono ?_; rintro e w14 ⟨v14, rfl, hB14⟩; have hF14 := hFd.next hB14))
    all_goals
      have hF := hF14
      have mk14 := True.intro
      go_wp2_with (first
        | (have _t := mk20; go_at_call 6; refine (awake_any _ (HV.out.below hF.below) (HG.out.below hF.below)).mono ?_; rintro e w21 ⟨rfl, hB21⟩; have hF := hF.next hB21; have mk21 := True.intro)
        | (have _t := mk19; go_at_call 21; refine (nx_check2 _).mono ?_; rintro e w20 ⟨rfl, hB20⟩; have hF := hF.next hB20; have mk20 := True.intro)
        | (have _t := mk18; go_at_call 21; refine (nx_check1N w18 A18 c18).mono ?_; rintro e w19 ⟨rfl, hB19⟩; have hF := hF.next hB19; have mk19 := True.intro)
        | (have _t := mk17; go_at_call 7; refine (nx_read _ nx_r2 (by decide) _ (HV.out.below hF.below) (HG.out.below hF.below) (HX.out.below hF.below)).mono ?_; rintro e w18 ⟨A18, c18, rfl, hB18⟩; have hF := hF.next hB18; have mk18 := True.intro; have hF := ((hF.next (al_below w18 (.cells #[.slice A18 0 c18, .bool false, .int .i64 0, .bool false] 27 (0, 0)))).next (al_below _ (.cells #[.bool false, .int .i64 1] 25 (0, 0)))).next (al_below _ (.cells #[.slice (some ⟨w18.heap.size + 1, 0, none⟩) 1 1, .bool true, .int .i64 1] 53 (0, 0))))
        | (have _t := mk16; go_at_call 7; refine (nx_read _ nx_r1 (by decide) _ (HV.out.below hF.below) (HG.out.below hF.below) (HX.out.below hF.below)).mono ?_; rintro e w17 ⟨A17, c17, rfl, hB17⟩; have hF := hF.next hB17; have mk17 := True.intro; have hF := hF.next (al_below w17 (.cells #[.slice A17 0 c17, .bool false, .int .i64 0, .bool false] 27 (0, 0))))
        | (have _t := mk15; go_at_call 20; refine (nx_text _ (HG.out.below hF.below)).mono ?_; rintro e w16 ⟨rfl, hB16⟩; have hF := hF.next hB16; have mk16 := True.intro)
        | (have _t := mk14; go_at_call 19; refine (nx_parse _ (HV.out.below hF.below) (HG.out.below hF.below)).mono ?_; rintro e w15 ⟨rfl, hB15⟩; have hF := hF.next hB15; have mk15 := True.intro; have hF := hF.next (al_below w15 (.cells #[.int .i64 0, .int .i64 0, .int .u8 0, .int .i64 0] 37 (0, 0)))))
      go_ret
      exact ⟨rfl, hF.below⟩
end Go.Proofs.YtepdlghobopdbaaGreatDoor
