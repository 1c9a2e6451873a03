/-
  WALKS: an arena read loosely; Read.
-/
import Derived.Test.YtepdlghobopdbaaGreatDoorHb
import Derived.Test.YtepdlghobopdbaaGreatDoorHe
import Derived.BigRegion
namespace Go.Proofs.YtepdlghobopdbaaGreatDoor
open Go.RowKit Go.MapKept Go.Shelf

theorem readTy_len (s : ByteArray) : (Ar.readTy s).params.length ≤ s.size + 1 := by
  unfold Ar.readTy
  split
  · simp only [List.length_map]
    have h1 := Ar.splitBs_len (s := (Ar.cutBs (Ar.openB s) ⟨#[41, 32, 45, 62, 32]⟩).1) (sep := ⟨#[44, 32]⟩) (by decide)
    have h2 := (Ar.cutBs_size (Ar.openB s) ⟨#[41, 32, 45, 62, 32]⟩).1
    have h3 := Ar.openB_size s
    omega
  · exact Nat.zero_le _
theorem own_mono {W : World} {base base' : Nat} {e : TypeId} {size : Nat} {v : Value} {n : Nat} {xs : List Value} (h : W.ownsRow base e size v n xs) (hb : base' ≤ base) : W.ownsRow base' e size v n xs := by
  refine ⟨h.1, h.2.imp id ?_⟩
  rintro ⟨g, cap, cur, hv, hg, hr⟩
  exact ⟨g, cap, cur, hv, Nat.le_trans hb hg, hr⟩
theorem PtO.mono {W : World} {n₀ n₁ : Nat} {x : Pt} (h : PtO W n₀ x) (hn : n₁ ≤ n₀) : PtO W n₁ x := ⟨h.1.mono hn, h.2⟩
/-- A row of types of the call's own. -/
structure RowT (W : World) (base : Nat) (A : Option Addr) (c n : Nat) (L : List Pt) : Prop where
  row : W.ownsRow base 53 3 (.slice A n c) n (L.flatMap ptCells)
  pts : ∀ x ∈ L, PtO W base x
theorem RowT.next {W W' : World} {base : Nat} {A : Option Addr} {c n : Nat} {L : List Pt} (h : RowT W base A c n L) (hB : Below W.heap.size W W') : RowT W' base A c n L :=
  ⟨own_ext h.row (Ext.of_below hB (Nat.le_refl _)), fun x hx => (h.pts x hx).keep (KB.below hB)⟩
theorem RowT.mono {W : World} {base base' : Nat} {A : Option Addr} {c n : Nat} {L : List Pt} (h : RowT W base A c n L) (hb : base' ≤ base) : RowT W base' A c n L :=
  ⟨own_mono h.row hb, fun x hx => (h.pts x hx).mono hb⟩
theorem RowT.set {W : World} {base b j : Nat} {A : Option Addr} {c n : Nat} {L : List Pt} {u : Value} (h : RowT W base A c n L) (hb : b < base) : RowT (W.setCell ⟨b, j, none⟩ u) base A c n L :=
  ⟨own_set h.row hb, fun x hx => (h.pts x hx).keep (KB.set _ hb)⟩

set_option maxRecDepth 100000 in
set_option maxHeartbeats 4000000 in
theorem eachRT_any (l : List ByteArray) (b off c : Nat) (w : World) (hT : Strs w b off l) (hS : ∀ x ∈ l, x.size ≤ 900000) (hV : GV w) (hM : GM w) (hL : l.length ≤ 1000001) :
    Calls Tryz.prog 67 #[.slice (some ⟨b, off, none⟩) l.length c, .func (.func 68) #[] #[]] w fun e w' => ∃ (A' : Option Addr) (c' : Nat) (L : List Pt), e = .returned (.slice A' l.length c') ∧ L.map Prod.fst = l.map Ar.readTy ∧ RowT w' w.heap.size A' c' l.length L ∧ Below w.heap.size w w' := by
  obtain ⟨i0, hi, hz0, hz1, hz2⟩ := info_parts infoTy
  have HT := Lib.hid hT
  have HP := Lib.hid (fun (x : ByteArray) (k : Nat) => fun (hx : l[k]? = some x) (W : World) (hB : Below w.heap.size w W) => readType_any x (by have := hS x (List.mem_of_getElem? hx); omega) W (hV.below hB) (hM.below hB))
  clear hT hS hV hM
  go_enter Tryz.func67, Tryz.ntmps67
  go_wp2
  go_loopw [5, 10] (fun v i wr => ∃ (k : Nat) (L : List Pt), k ≤ l.length ∧ i = .int .i64 k ∧ Hid (L.map Prod.fst = (l.take k).map Ar.readTy) ∧ Hid (wr.ownsRow w.heap.size 53 3 v k (L.flatMap ptCells)) ∧ Hid (∀ x ∈ L, PtO wr w.heap.size x) ∧ Below w.heap.size w wr) (fun _ i _ => l.length - (intOf i).toNat)
  case atStart => exact ⟨0, [], Nat.zero_le _, rfl, rfl, World.ownsRow_nil _ _ _ _, (fun x hx => by cases hx), Below.refl _ _⟩
  case round =>
    obtain ⟨k, L, hk, rfl, hLm, hrow, hpt, hB⟩ := hrel
    by_cases hlt : k < l.length
    · obtain ⟨x, hx⟩ : ∃ x, l[k]? = some x := ⟨_, List.getElem?_eq_getElem hlt⟩
      have c0 := (HT.out.below hB).cell k x hx
      have HX := Lib.hid hx
      have hq0 := block_of_cell c0
      have hcall := HP.out x k hx _ hB
      generalize hy : Ar.readTy x = y at *
      have HY := Lib.hid hy
      unfold tyV at hcall
      obtain ⟨ao, cap, hv⟩ := own_form hrow.out
      subst hv
      have HR1 := Lib.hid hrow.out
      have HC := Lib.hid hcall
      have hsz := hB.size
      clear hrow hx hy hcall
      go_wp2_with (first
        | (at_builtin; refine wpList_append_own_at _ rfl _ _ 23 rfl w.heap.size 53 i0 _ 3 40 Tryz.underlying23 hi hz0 hz1 hz2 rfl (by decide) _ _ _ rfl (HR2.out.alloc _) ⟨w2.heap.size, 0, none⟩ 1 1 (ptCells (y, (A', c'))) rfl rfl (fun j u hu => World.news_of_block (cs := (ptCells (y, (A', c'))).toArray) (t := 53) (fr := (0, 0)) (World.alloc_heap_new w2 _) j u hu) (ptCells_one _) (by unfold maxLen; omega) (by omega) (by simp; omega) ?_; intro v' w3 hown' hgrow _ hat; have hBg := (hBw2.alloc hBw2.size (.cells (ptCells (y, (A', c'))).toArray 53)).grown hgrow (by simp; omega) (fun j e => own_low HR2.out e); have HGR := Lib.hid hgrow)
        | (go_at_call 68; refine HC.out.mono ?_; rintro e w2 ⟨A', c', rfl, hbo, hnl, hB2⟩; have hBw2 := hB.trans (hB2.mono hB.size); have HR2 := Lib.hid (own_ext HR1.out (Ext.of_below hB2 (Nat.le_refl _))); have HBO := Lib.hid hbo; have HNL := Lib.hid hnl; clear hbo hnl; obtain ⟨e0, e1⟩ := And.intro hBw2.size hB2.size))
      go_roundw
      case rel =>
        have kb1 : KB w.heap.size w2 w3 := (KB.below ((Below.refl _ _).alloc (Nat.le_refl _) _)).trans (KB.grown (HR2.out.alloc (.cells (ptCells (y, (A', c'))).toArray 53 (0, 0))) HGR.out (by decide))
        have kb : KB w.heap.size wr w3 := (KB.below hB2).trans kb1
        refine ⟨k + 1, L ++ [(y, (A', c'))], by omega, by go_num, ?_, ?_, ?_, hBg⟩
        · rw [Hid, List.map_append, hLm.out, List.take_succ_eq_append_getElem hlt, List.map_append, List.map_singleton, List.map_singleton, show l[k] = x by have := HX.out; rw [List.getElem?_eq_getElem hlt] at this; exact Option.some.inj this, HY.out]
        · rw [Hid, List.flatMap_append, List.flatMap_singleton]
          exact hown'
        · intro z hz
          rcases List.mem_append.1 hz with hz | hz
          · exact (hpt.out z hz).keep kb
          · obtain rfl := List.mem_singleton.1 hz
            exact ⟨(HBO.out.mono hB.size).keep kb1, HNL.out⟩
      case measure => simp [intOf]; omega
    · obtain rfl : k = l.length := by omega
      have hLL := hLm.out
      rw [List.take_length] at hLL
      have HLL := Lib.hid hLL
      obtain ⟨ao, cap, hv⟩ := own_form hrow.out
      subst hv
      clear hLL hLm
      go_wp2
      go_ret
      exact ⟨_, _, L, rfl, HLL.out, ⟨hrow.out, hpt.out⟩, hB⟩

/-- What lies in the blocks of readArena: its result, its parts. -/
def RA (w : World) (x : ByteArray) (l : List ByteArray) (W : World) : Prop := Below w.heap.size w W ∧ W.cell? ⟨w.heap.size + 1, 0, none⟩ = some (.string x) ∧ Strs W (w.heap.size + 1) 1 l ∧
  W.cell? ⟨w.heap.size, 0, none⟩ = some (cv ⟨w.heap.size, 0, none⟩ W) ∧ W.cell? ⟨w.heap.size, 1, none⟩ = some (cv ⟨w.heap.size, 1, none⟩ W) ∧ W.cell? ⟨w.heap.size, 2, none⟩ = some (cv ⟨w.heap.size, 2, none⟩ W) ∧ W.cell? ⟨w.heap.size, 3, none⟩ = some (cv ⟨w.heap.size, 3, none⟩ W) ∧
  W.frozen? ⟨w.heap.size, 0, none⟩ = false ∧ W.frozen? ⟨w.heap.size, 1, none⟩ = false ∧ W.frozen? ⟨w.heap.size, 2, none⟩ = false ∧ W.frozen? ⟨w.heap.size, 3, none⟩ = false
theorem RA.next {w W W' : World} {x : ByteArray} {l : List ByteArray} (h : RA w x l W) (hB : Below W.heap.size W W') : RA w x l W' := by
  obtain ⟨h0, a0, hs, b0, b1, b2, b3, f0, f1, f2, f3⟩ := h
  exact ⟨h0.trans (hB.mono h0.size), keep_cell hB a0, hs.below hB, cv_of (keep_cell hB b0), cv_of (keep_cell hB b1), cv_of (keep_cell hB b2), cv_of (keep_cell hB b3), keep_frozen hB b0 f0, keep_frozen hB b1 f1, keep_frozen hB b2 f2, keep_frozen hB b3 f3⟩
theorem Strs.set {W : World} {b off : Nat} {l : List ByteArray} {p : Addr} {u : Value} (h : Strs W b off l) (hp : b ≠ p.block) : Strs (W.setCell p u) b off l :=
  ⟨by rw [World.size_setCell]; exact h.lt, fun i x hx => keep_set hp (h.cell i x hx)⟩
theorem RA.one {w W : World} {x : ByteArray} {l : List ByteArray} {j : Nat} {u : Value} (h : RA w x l W) : RA w x l (W.setCell ⟨w.heap.size, j, none⟩ u) := by
  obtain ⟨h0, a0, hs, b0, b1, b2, b3, f0, f1, f2, f3⟩ := h
  have g : ∀ (q : Nat) v, W.cell? ⟨w.heap.size, q, none⟩ = some v → (W.setCell ⟨w.heap.size, j, none⟩ u).cell? ⟨w.heap.size, q, none⟩ = some (cv ⟨w.heap.size, q, none⟩ (W.setCell ⟨w.heap.size, j, none⟩ u)) := fun q v hq => by
    obtain ⟨y, hy⟩ := cv_set (p := ⟨w.heap.size, j, none⟩) (u := u) hq
    exact cv_of hy
  have fz : ∀ (a : Addr), W.frozen? a = false → (W.setCell ⟨w.heap.size, j, none⟩ u).frozen? a = false := fun a h => by rw [World.frozen?_setCell]; exact h
  exact ⟨h0.setCell (p := ⟨w.heap.size, j, none⟩) (by simp) _, keep_set (by simp) a0, hs.set (by simp), g _ _ b0, g _ _ b1, g _ _ b2, g _ _ b3, fz _ f0, fz _ f1, fz _ f2, fz _ f3⟩
theorem RA_strs {w W : World} {_x : ByteArray} {l : List ByteArray} {p q : Prop} (h : Below w.heap.size w W ∧ p ∧ Strs W (w.heap.size + 1) 1 l ∧ q) : Strs W (w.heap.size + 1) 1 l := h.2.2.1

theorem eachRA {w W : World} {x : ByteArray} {l : List ByteArray} {n : Nat} (c : Nat) (h : RA w x l W) (hn : n = l.length + 1) (hS : ∀ x ∈ l, x.size ≤ 900000) (hV : GV W) (hM : GM W) (hL : l.length ≤ 1000001) :
    Calls Tryz.prog 67 #[.slice (if n = 1 then some ⟨w.heap.size + 1, 0, none⟩ else some ⟨w.heap.size + 1, 1, none⟩) (n - 1) c, .func (.func 68) #[] #[]] W fun e w' => ∃ (A' : Option Addr) (c' : Nat) (L : List Pt), e = .returned (.slice A' (n - 1) c') ∧ Hid (L.map Prod.fst = l.map Ar.readTy) ∧ RowT w' (w.heap.size + 1) A' c' (n - 1) L ∧ RA w x l w' ∧ Below W.heap.size W w' := by
  have hn1 : n - 1 = l.length := by omega
  rw [hn1]
  obtain ⟨off, hA, hT⟩ : ∃ off, (if n = 1 then some (⟨w.heap.size + 1, 0, none⟩ : Addr) else some ⟨w.heap.size + 1, 1, none⟩) = some ⟨w.heap.size + 1, off, none⟩ ∧ Strs W (w.heap.size + 1) off l := by
    by_cases h1 : n = 1
    · have hl : l = [] := List.length_eq_zero_iff.1 (by omega)
      subst hl
      exact ⟨0, if_pos h1, ⟨h.2.2.1.lt, fun i x hx => by simp at hx⟩⟩
    · exact ⟨1, if_neg h1, h.2.2.1⟩
  rw [hA]
  exact (eachRT_any l (w.heap.size + 1) off c W hT hS hV hM hL).mono fun _ _ ⟨A', c', L, h1, h2, h3, h4⟩ => ⟨A', c', L, h1, h2, h3.mono (Nat.le_of_lt h.2.2.1.lt), h.next h4, h4⟩
theorem readRA {w W : World} {x : ByteArray} {l : List ByteArray} (h : RA w x l W) (hs : x.size ≤ 1000000) (hV : GV W) (hM : GM W) :
    Calls Tryz.prog 69 #[.string x] W fun e w' => e = .returned (.agg #[.bool (Ar.readBs x).cell, .int .i64 (Ar.readBs x).n]) ∧ RA w x l w' ∧ Below W.heap.size W w' :=
  (readBase_any x hs W hV hM).mono fun _ _ ⟨h1, h2⟩ => ⟨h1, h.next h2, h2⟩

theorem ra_fin {w W : World} {A' : Option Addr} {c' k : Nat} {L : List Pt} {u0 u1 u2 u3 : Value} (hrow : RowT W (w.heap.size + 1) A' c' k L) (hB : Below w.heap.size w W) :
    RowT ((((W.setCell ⟨w.heap.size, 0, none⟩ u0).setCell ⟨w.heap.size, 1, none⟩ u1).setCell ⟨w.heap.size, 2, none⟩ u2).setCell ⟨w.heap.size, 3, none⟩ u3) (w.heap.size + 1) A' c' k L ∧
    Below w.heap.size w ((((W.setCell ⟨w.heap.size, 0, none⟩ u0).setCell ⟨w.heap.size, 1, none⟩ u1).setCell ⟨w.heap.size, 2, none⟩ u2).setCell ⟨w.heap.size, 3, none⟩ u3) := by
  have hlt : w.heap.size < w.heap.size + 1 := Nat.lt_succ_self _
  refine ⟨(((hrow.set (j := 0) (u := u0) hlt).set (j := 1) (u := u1) hlt).set (j := 2) (u := u2) hlt).set (j := 3) (u := u3) hlt, ?_⟩
  iterate 4 (refine Below.setCell ?_ (by simp) _)
  exact hB
theorem row_arM {W : World} {base c : Nat} {A : Option Addr} {L : List Pt} {a : Ar.Are} (h : RowT W base A c a.ids.length L) (hL : L.map Prod.fst = a.ids) (h1 : a.ids.length ≤ 1000000) (h2 : ∀ t ∈ a.ids, t.params.length ≤ 1000000) : ArM W A (ptP L) a := by
  have hll : a.ids.length = L.length := by rw [← hL, List.length_map]
  have hrr := h.row
  have h3 := hrr
  rw [hll] at h3
  exact (arO_of_row hL h3 h.pts h1 h2).m
theorem readAr_bounds {s : ByteArray} (hs : s.size ≤ 900000) : (Ar.readAr s).ids.length ≤ 1000000 ∧ ∀ t ∈ (Ar.readAr s).ids, t.params.length ≤ 1000000 := by
  have hbs := Ar.bodyB_size s
  have hlen := Ar.splitBs_len (s := Ar.bodyB s) (sep := ⟨#[59, 32]⟩) (by decide)
  unfold Ar.readAr
  refine ⟨by simp only [List.length_map, List.length_drop]; omega, fun t ht => ?_⟩
  obtain ⟨x, hx, rfl⟩ := List.mem_map.1 ht
  have h1 := Ar.splitBs_size (List.mem_of_mem_drop hx)
  have h2 := readTy_len x
  omega

set_option maxRecDepth 100000 in
set_option maxHeartbeats 8000000 in
theorem readArena_any (s : ByteArray) (hs : s.size ≤ 900000) (w : World) (hV : GV w) (hM : GM w) :
    Calls Tryz.prog 27 #[.string s] w fun e w' => ∃ (A' : Option Addr) (c' : Nat) (L : List Pt), e = .returned (.agg #[.slice A' (Ar.readAr s).ids.length c', .bool (Ar.readAr s).root.cell, .int .i64 (Ar.readAr s).root.n, .bool (Ar.readAr s).jumps]) ∧ Hid (L.map Prod.fst = (Ar.readAr s).ids) ∧ RowT w' (w.heap.size + 1) A' c' (Ar.readAr s).ids.length L ∧ Below w.heap.size w w' := by
  have hB0 : Below w.heap.size w (w.alloc (.cells #[.slice none 0 0, .bool false, .int .i64 0, .bool false] 27 (0, 0))) := (Below.refl _ _).alloc (Nat.le_refl _) _
  have hbs := Ar.bodyB_size s
  have HX := Lib.hid (fun W => show Calls Tryz.prog 65 #[.string s, .string ⟨#[59, 32, 106, 117, 109, 112, 115]⟩] W fun e w' => e = .returned (.tuple #[.string (Ar.bodyB s), .bool (Lib.hasSuffix s.data.toList Ar.jumpsL)]) ∧ w' = W from Tryz.strings_CutSuffix s ⟨#[59, 32, 106, 117, 109, 112, 115]⟩ W (by omega))
  obtain ⟨x0, l, hP⟩ := Ar.splitBs_ne (Ar.bodyB s) ⟨#[59, 32]⟩
  have hlen := Ar.splitBs_len (s := Ar.bodyB s) (sep := ⟨#[59, 32]⟩) (by decide)
  have hps : ∀ x ∈ Ar.splitBs (Ar.bodyB s) ⟨#[59, 32]⟩, x.size ≤ 900000 := fun x hx => by have := Ar.splitBs_size hx; omega
  have hk : Ar.readAr s = ⟨l.map Ar.readTy, Ar.readBs x0, Lib.hasSuffix s.data.toList Ar.jumpsL⟩ := by unfold Ar.readAr; rw [hP]; rfl
  rw [hP] at hlen hps
  obtain ⟨n, hn⟩ : ∃ n, n = l.length + 1 := ⟨_, rfl⟩
  have HS := Lib.hid (fun W (hB : Below w.heap.size w W) => (split_any (Ar.bodyB s) ⟨#[59, 32]⟩ (by omega) (by decide) W (hM.below hB)).mono fun (e : Ending) (w' : World) h12 => (show e = .returned (.slice (some ⟨W.heap.size, 0, none⟩) n n) ∧ w' = W.alloc (.cells (Value.string x0 :: l.map Value.string).toArray 9) from by rw [hP, List.length_cons, ← hn] at h12; exact h12))
  have HRB := Lib.hid (fun W (h : RA w x0 l W) => readRA h (by have := hps x0 (by simp); omega) (hV.below h.1) (hM.below h.1))
  have hn1 : n - 1 = l.length := by omega
  have HE := Lib.hid (fun W (h : RA w x0 l W) (c : Nat) => eachRA c h hn (fun x hx => hps x (by simp [hx])) (hV.below h.1) (hM.below h.1) (by simp only [List.length_cons] at hlen; omega))
  rw [hk]
  simp only [List.length_map]
  rw [← hn1]
  have HN1 := Lib.hid hn1
  generalize Lib.hasSuffix s.data.toList Ar.jumpsL = jm at *
  generalize Ar.bodyB s = sb at *
  have hn0 : (0 : Int) < (n : Int) := by omega
  have hn2 : (1 : Int) ≤ (n : Int) := by omega
  have hn3 : 0 < n := by omega
  have hn4 : 1 ≤ n := by omega
  have hW2 : RA w x0 l (((w.alloc (.cells #[.slice none 0 0, .bool false, .int .i64 0, .bool false] 27 (0, 0))).alloc (.cells (Value.string x0 :: l.map Value.string).toArray 9)).drew) := by
    have h1 := two_new1 w (.cells #[.slice none 0 0, .bool false, .int .i64 0, .bool false] 27 (0, 0)) (.cells (Value.string x0 :: l.map Value.string).toArray 9)
    have hb := below_two (w := w) (.cells #[.slice none 0 0, .bool false, .int .i64 0, .bool false] 27 (0, 0)) (.cells (Value.string x0 :: l.map Value.string).toArray 9)
    have hst := strs_new (w.alloc (.cells #[.slice none 0 0, .bool false, .int .i64 0, .bool false] 27 (0, 0))) (x0 :: l)
    rw [size_alloc] at hst
    obtain ⟨r0, r1, r2, r3, f0, f1, f2, f3⟩ := cells4 h1
    have hst2 := hst.tail.below ((Below.refl _ _).drew)
    exact ⟨hb.drew, hst.cell 0 x0 rfl, hst2, cv_of r0, cv_of r1, cv_of r2, cv_of r3, f0, f1, f2, f3⟩
  have HS0 := Lib.hid hW2
  clear hV hM hP hps hlen hk hn hn1 hbs hs hW2
  go_enter Tryz.func27, Tryz.ntmps27
  go_wp2_with (first
    | (go_at_call 66; refine (HS.out _ hB0).mono ?_; rintro e w2 ⟨rfl, hw2⟩; subst hw2)
    | (go_at_call 65; refine (HX.out _).mono ?_; rintro e w1 ⟨rfl, hw1⟩; subst hw1))
  generalize (w.alloc (.cells #[.slice none 0 0, .bool false, .int .i64 0, .bool false] 27 (0, 0))).alloc (.cells (Value.string x0 :: l.map Value.string).toArray 9) = W0 at *
  have hS00 := HS0.out
  obtain ⟨-, y0, -, -, -, -, -, -, -, -, -⟩ := hS00
  go_region_law (first
    | (go_simp; go_at_call 67; refine (HE.out _ HS0.out _).mono ?_; rintro e w4 ⟨A', c', L, rfl, hLm, hrow, hS4, hB4⟩; have hS44 := hS4; obtain ⟨-, y4, -, -, -, -, -, -, -, -, -⟩ := hS44)
    | (go_simp; go_at_call 69; refine (HRB.out _ hS4).mono ?_; rintro e w5 ⟨rfl, hS5, hB5⟩; have hrow5 := hrow.next hB5; have hS55 := hS5; obtain ⟨hB9, -, -, q0, q1, q2, q3, g0, g1, g2, g3⟩ := hS55))
  all_goals go_wp2
  all_goals first
    | (have hr : RowT w5 (w.heap.size + 1) A' c' 0 L := by
         have h1 := hrow5
         rw [h] at h1
         exact h1
       refine bodyPost_ret (v := .agg #[.slice A' 0 c', .bool (Ar.readBs x0).cell, .int .i64 (Ar.readBs x0).n, .bool jm]) (by simp [results, Tryz.results27, go_sem, World.cell?_setCell_same', q0, q1, q2, q3]) rfl ⟨A', c', rfl, L, hLm, ?_, ?_⟩
       · exact (ra_fin hr hB9).1
       · exact (ra_fin hr hB9).2)
    | (refine bodyPost_ret (v := .agg #[.slice A' (n - 1) c', .bool (Ar.readBs x0).cell, .int .i64 (Ar.readBs x0).n, .bool jm]) (by simp [results, Tryz.results27, go_sem, World.cell?_setCell_same', q0, q1, q2, q3]) rfl ⟨A', c', rfl, L, hLm, ?_, ?_⟩
       · exact (ra_fin hrow5 hB9).1
       · exact (ra_fin hrow5 hB9).2)

set_option maxRecDepth 100000 in
set_option maxHeartbeats 8000000 in
theorem read_any (s : ByteArray) (hs : s.size ≤ 900000) (w : World) (hV : GV w) (hG : GT w) (hM : GM w) :
    Calls Tryz.prog 7 #[.string s] w fun e w' => ∃ (A' : Option Addr) (c' : Nat) (P' : Nat → Option Addr × Nat), e = .returned (.tuple #[.agg #[.slice A' (Ar.readRes s).1.ids.length c', .bool (Ar.readRes s).1.root.cell, .int .i64 (Ar.readRes s).1.root.n, .bool (Ar.readRes s).1.jumps], .int .i64 ((Ar.readRes s).2 : Int)]) ∧ ArM w' A' P' (Ar.readRes s).1 ∧ Below w.heap.size w w' := by
  have hB0 : Below w.heap.size w (w.alloc (.cells #[.slice none 0 0, .bool false, .int .i64 0, .bool false] 27 (0, 0))) := (Below.refl _ _).alloc (Nat.le_refl _) _
  have j0 := Lib.hid (World.alloc_heap_new w (.cells #[.slice none 0 0, .bool false, .int .i64 0, .bool false] 27 (0, 0)))
  have HRA := Lib.hid (fun W (hB : Below w.heap.size w W) => readArena_any s hs W (hV.below hB) (hM.below hB))
  have hk : Ar.readRes s = Ar.fitsA s (Ar.readAr s) := rfl
  obtain ⟨hb1, hb2⟩ := readAr_bounds hs
  have HB1 := Lib.hid hb1; have HB2 := Lib.hid hb2
  rw [hk]
  clear hk hb1 hb2
  generalize Ar.readAr s = a at *
  have HSH := Lib.hid (fun A' c' P' W (hB : Below w.heap.size w W) (hA : ArM W A' P' a) => show Calls Tryz.prog 24 #[.agg #[.slice A' a.ids.length c', .bool a.root.cell, .int .i64 a.root.n, .bool a.jumps]] W fun e w' => e = .returned (.tuple #[.string (Ar.showRes a).1, .int .i64 ((Ar.showRes a).2 : Int)]) ∧ Below W.heap.size W w' from show_any a A' c' P' W hA (hG.below hB))
  clear hV hG hM
  by_cases hf : Ar.showRes a = (s, 0)
  · have hr : Ar.fitsA s a = (a, 0) := by unfold Ar.fitsA; rw [if_pos hf]
    rw [hr]
    rw [hf] at HSH
    clear hr hf
    go_enter Tryz.func7, Tryz.ntmps7
    go_wp2_with (first
      | (go_at_call 24; refine (HSH.out A' c' (ptP L) _ hBw2 hM2).mono ?_; rintro e w3 ⟨rfl, hB3⟩; have hBw3 := hBw2.trans (hB3.mono hBw2.size); have hrow3 := hrow2.next hB3; have j3 := (hB3.block _ (lt_of_heap j2)).trans j2; have i3 := (hB3.block _ (lt_of_heap i2)).trans i2; obtain ⟨r0, r1, r2, r3, f0, f1, f2, f3⟩ := cells4 j3; obtain ⟨x0, x1, x2, x3, -, -, -, -⟩ := cells4 i3; clear y0 y1 y2 y3)
      | (go_at_call 27; refine (HRA.out _ hB0).mono ?_; rintro e w1 ⟨A', c', L, rfl, hLm, hrow, hB1⟩; have hM1 := row_arM hrow hLm.out HB1.out HB2.out; have hBw1 := hB0.trans (hB1.mono hB0.size); have j1 := (hB1.block _ (lt_of_heap j0.out)).trans j0.out; have hAl := (Below.refl w1.heap.size w1).alloc (Nat.le_refl _) (.cells #[.slice A' a.ids.length c', .bool a.root.cell, .int .i64 a.root.n, .bool a.jumps] 27 (0, 0)); have hBw2 := hBw1.trans (hAl.mono hBw1.size); have hM2 := hM1.below hAl; have hrow2 := hrow.next hAl; have j2 := (hAl.block _ (lt_of_heap j1)).trans j1; have i2 := World.alloc_heap_new w1 (.cells #[.slice A' a.ids.length c', .bool a.root.cell, .int .i64 a.root.n, .bool a.jumps] 27 (0, 0)); obtain ⟨y0, y1, y2, y3, -, -, -, -⟩ := cells4 i2; clear hAl))
    have hlt : w.heap.size < w3.heap.size := lt_of_heap j3
    refine bodyPost_ret (v := .tuple #[.agg #[.slice A' a.ids.length c', .bool a.root.cell, .int .i64 a.root.n, .bool a.jumps], .int .i64 0]) (by simp [results, Tryz.results7, go_sem, World.cell?_setCell_same', r0, r1, r2, r3]) rfl ⟨A', c', ptP L, rfl, ?_, ?_⟩
    · exact row_arM (((((hrow3.mono (Nat.le_succ_of_le (Nat.le_of_eq (size_alloc w (.cells #[.slice none 0 0, .bool false, .int .i64 0, .bool false] 27 (0, 0))).symm))).set (j := 0) (Nat.lt_succ_self _)).set (j := 1) (Nat.lt_succ_self _)).set (j := 2) (Nat.lt_succ_self _)).set (j := 3) (Nat.lt_succ_self _)) hLm.out HB1.out HB2.out
    · iterate 4 (refine Below.setCell ?_ (by simp) _)
      exact hBw3
  · have hr : Ar.fitsA s a = (Ar.noAre, 4) := by unfold Ar.fitsA; rw [if_neg hf]
    rw [hr]
    clear hr
    have hne : (Ar.showRes a).1 ≠ s ∨ (Ar.showRes a).2 ≠ 0 := by
      by_cases h1 : (Ar.showRes a).1 = s
      · exact .inr (fun h2 => hf (Prod.ext h1 h2))
      · exact .inl h1
    generalize (Ar.showRes a).1 = S1 at *
    generalize (Ar.showRes a).2 = S2 at *
    clear hf
    by_cases h2 : S2 = 0
    · subst h2
      have hs1 : (S1.toList == s.toList) = false := by
        rw [beq_eq_false_iff_ne, ByteArray.toList_eq, ByteArray.toList_eq]
        exact fun e => hne.elim (fun h => h (Ar.bytes_inj e)) (fun h => h rfl)
      clear hne
      go_enter Tryz.func7, Tryz.ntmps7
      go_wp2_with (first
        | (go_at_call 24; refine (HSH.out A' c' (ptP L) _ hBw2 hM2).mono ?_; rintro e w3 ⟨rfl, hB3⟩; have hBw3 := hBw2.trans (hB3.mono hBw2.size); have hrow3 := hrow2.next hB3; have j3 := (hB3.block _ (lt_of_heap j2)).trans j2; have i3 := (hB3.block _ (lt_of_heap i2)).trans i2; obtain ⟨r0, r1, r2, r3, f0, f1, f2, f3⟩ := cells4 j3; obtain ⟨x0, x1, x2, x3, -, -, -, -⟩ := cells4 i3; clear y0 y1 y2 y3)
        | (go_at_call 27; refine (HRA.out _ hB0).mono ?_; rintro e w1 ⟨A', c', L, rfl, hLm, hrow, hB1⟩; have hM1 := row_arM hrow hLm.out HB1.out HB2.out; have hBw1 := hB0.trans (hB1.mono hB0.size); have j1 := (hB1.block _ (lt_of_heap j0.out)).trans j0.out; have hAl := (Below.refl w1.heap.size w1).alloc (Nat.le_refl _) (.cells #[.slice A' a.ids.length c', .bool a.root.cell, .int .i64 a.root.n, .bool a.jumps] 27 (0, 0)); have hBw2 := hBw1.trans (hAl.mono hBw1.size); have hM2 := hM1.below hAl; have hrow2 := hrow.next hAl; have j2 := (hAl.block _ (lt_of_heap j1)).trans j1; have i2 := World.alloc_heap_new w1 (.cells #[.slice A' a.ids.length c', .bool a.root.cell, .int .i64 a.root.n, .bool a.jumps] 27 (0, 0)); obtain ⟨y0, y1, y2, y3, -, -, -, -⟩ := cells4 i2; clear hAl))
      refine bodyPost_ret (v := .tuple #[.agg #[.slice none 0 0, .bool false, .int .i64 0, .bool false], .int .i64 4]) (by simp [results, Tryz.results7, go_sem, World.cell?_setCell_same', r0, r1, r2, r3]) rfl ⟨none, 0, fun _ => (none, 0), rfl, noAre_m _, ?_⟩
      iterate 4 (refine Below.setCell ?_ (by simp) _)
      exact hBw3
    · have hs2 : (((S2 : Nat) : Int) == 0) = false := by rw [beq_eq_false_iff_ne]; omega
      clear hne
      go_enter Tryz.func7, Tryz.ntmps7
      go_wp2_with (first
        | (go_at_call 24; refine (HSH.out A' c' (ptP L) _ hBw2 hM2).mono ?_; rintro e w3 ⟨rfl, hB3⟩; have hBw3 := hBw2.trans (hB3.mono hBw2.size); have hrow3 := hrow2.next hB3; have j3 := (hB3.block _ (lt_of_heap j2)).trans j2; have i3 := (hB3.block _ (lt_of_heap i2)).trans i2; obtain ⟨r0, r1, r2, r3, f0, f1, f2, f3⟩ := cells4 j3; obtain ⟨x0, x1, x2, x3, -, -, -, -⟩ := cells4 i3; clear y0 y1 y2 y3)
        | (go_at_call 27; refine (HRA.out _ hB0).mono ?_; rintro e w1 ⟨A', c', L, rfl, hLm, hrow, hB1⟩; have hM1 := row_arM hrow hLm.out HB1.out HB2.out; have hBw1 := hB0.trans (hB1.mono hB0.size); have j1 := (hB1.block _ (lt_of_heap j0.out)).trans j0.out; have hAl := (Below.refl w1.heap.size w1).alloc (Nat.le_refl _) (.cells #[.slice A' a.ids.length c', .bool a.root.cell, .int .i64 a.root.n, .bool a.jumps] 27 (0, 0)); have hBw2 := hBw1.trans (hAl.mono hBw1.size); have hM2 := hM1.below hAl; have hrow2 := hrow.next hAl; have j2 := (hAl.block _ (lt_of_heap j1)).trans j1; have i2 := World.alloc_heap_new w1 (.cells #[.slice A' a.ids.length c', .bool a.root.cell, .int .i64 a.root.n, .bool a.jumps] 27 (0, 0)); obtain ⟨y0, y1, y2, y3, -, -, -, -⟩ := cells4 i2; clear hAl))
      refine bodyPost_ret (v := .tuple #[.agg #[.slice none 0 0, .bool false, .int .i64 0, .bool false], .int .i64 4]) (by simp [results, Tryz.results7, go_sem, World.cell?_setCell_same', r0, r1, r2, r3]) rfl ⟨none, 0, fun _ => (none, 0), rfl, noAre_m _, ?_⟩
      iterate 4 (refine Below.setCell ?_ (by simp) _)
      exact hBw3
end Go.Proofs.YtepdlghobopdbaaGreatDoor
