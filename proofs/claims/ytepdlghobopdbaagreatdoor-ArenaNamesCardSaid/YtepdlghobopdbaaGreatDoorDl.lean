/-
  WALKS: answers of a question, in one list.
-/
import Derived.Test.YtepdlghobopdbaaGreatDoorAn
import Derived.Test.YtepdlghobopdbaaGreatDoorAy
import Derived.Test.YtepdlghobopdbaaGreatDoorDd
import Derived.Laws.AppendOwnNone
namespace Go.Proofs.YtepdlghobopdbaaGreatDoor
open Go.RowKit Go.Shelf
attribute [local go_sem] Oper.semAt_some

set_option maxRecDepth 100000 in
set_option maxHeartbeats 4000000 in
theorem appendSeq_any (gf : Nat) (ba lb : Array Value) (L : List Ar.Mv) {Pre Inv : World → Prop} (w : World) (eg : ∀ args w, (callFunc gf args).run Tryz.prog w = .ok (.enter gf args) w)
    (hseq : Gives 1 gf ba lb encMv L anyY Pre Inv) (hpre : ∀ W1, Ext w.heap.size w W1 → Pre W1) (hinv : ∀ W1, Below w.heap.size w W1 → Inv W1) (hlen : L.length ≤ 1000000) :
    Calls Tryz.prog 75 #[.slice none 0 0, .func (.func gf) ba lb] w fun e w' => ∃ v, e = .returned v ∧ w'.ownsRow w.heap.size 37 4 v L.length (mvsCells L) ∧ Below w.heap.size w w' := by
  obtain ⟨i0, hi, hz0, hz1, hz2⟩ := info_parts infoMv
  obtain ⟨M, hM⟩ : ∃ M, L = M := ⟨_, rfl⟩
  have HM := Lib.hid hM; clear hM
  refine (callsIn_wide (n := 9)).1 (callsIn_of_wp_marks Tryz.func75 rfl trivial ?_ rfl)
  simp only [Tryz.ntmps75, List.size_toArray, List.length_cons, List.length_nil, Nat.reduceAdd, Nat.reduceSub, Array.replicate_succ, Array.replicate_zero, List.push_toArray, List.append_toArray, List.nil_append, List.cons_append]
  have HN := Lib.hid hlen; clear hlen
  have HI := Lib.hid hinv; clear hinv
  have HS := Lib.hid hseq; clear hseq
  have HE := Lib.hid eg; clear eg
  have hE : Ext w.heap.size w (w.alloc (.cells #[.slice none 0 0] 38)) := (Ext.refl _ _).alloc (Nat.le_refl _) _
  have hPR := Lib.hid (fun W1 (h : Ext w.heap.size (w.alloc (.cells #[.slice none 0 0] 38)) W1) => hpre W1 (hE.trans h))
  have hb1 := Lib.hid (World.alloc_heap_new w (.cells #[.slice none 0 0] 38))
  have hsz : w.heap.size + 1 ≤ (w.alloc (.cells #[.slice none 0 0] 38)).heap.size := by simp
  have hBl := hE.below
  clear hpre hE
  gi_wp2
  generalize w.alloc (.cells #[.slice none 0 0] 38) = Wl at *
  refine range_own (n := 9) (by omega) (ba := ba) (lb := lb) rfl HE.out encMv_size (HS.out.any) (fun l => .inl ⟨l, rfl⟩) (fun W1 h => hPR.out W1 (h.mono (by omega)))
    (fun pre W' => Row w.heap.size w.heap.size pre W' ∧ Below w.heap.size w W') (fun _ => False) (fun _ W' h => HI.out W' h.2)
    (fun pre => (lasts_row _ _ _ _).and (lasts_below _ (by omega))) (lasts_pure _ _) ⟨⟨_, hb1.out, World.ownsRow_nil _ _ _ _⟩, hBl⟩
    (fun x a' W' => ∃ bx, W'.heap[bx]? = some (mvO x) ∧ a' = { tmps := #[.slice none 0 0, .func (.func gf) ba lb, .pointer (some ⟨w.heap.size, 0, none⟩), undef, .slice none 0 0, .pointer (some ⟨bx, 0, none⟩), .func (.func gf) ba lb, .agg #[.int .i64 x.id, .int .i64 x.arg, .int .u8 x.kind, .int .i64 x.n], undef, undef, undef, undef, undef], defers := [] })
    (fun x a' A B e h => by obtain ⟨bx, h1, h2⟩ := h; exact ⟨bx, e.cells _ _ h1 rfl, h2⟩) ?assign ?body ?done ?stop
  case assign =>
    intro pre x suf W1 K hL hI hs hK
    unfold encMv mvV
    gi_wp2
    exact hK _ _ ((Below.refl _ _).alloc (Nat.le_refl _) _) ⟨W1.heap.size, World.alloc_heap_new _ _, rfl⟩
  case body =>
    rintro pre x suf a' W1 hL ⟨⟨v, hv, hrow⟩, hB⟩ hs ⟨bx, hbx, rfl⟩
    have hlen := HN.out
    have hpl : pre.length ≤ L.length := by rw [hL]; simp
    obtain ⟨c0, c1, c2, c3⟩ := mvO_cells hbx
    have hcv := hv.cell
    obtain ⟨ao, cap, rfl⟩ := own_form hrow
    have HR := Lib.hid hrow; have HV := Lib.hid hv
    have hsz1 : w.heap.size ≤ W1.heap.size := hB.size
    clear hrow hv hL hbx
    gi_wp2_with (gi_at_builtin; go_loud (refine wpListIn_append_own_at _ rfl _ _ 38 rfl w.heap.size 37 i0 (.agg #[.int .i64 0, .int .i64 0, .int .u8 0, .int .i64 0]) 4 32 Tryz.underlying38 hi hz0 hz1 hz2 rfl (by decide) _ _ _ rfl (HR.out.alloc _) ⟨W1.heap.size, 0, none⟩ 1 1 (mvCells x) rfl rfl (cell_four_at _ _ (by simp) _ _ _ _ _) (by simp [mvCells, Value.oneCell']) (by unfold maxLen; omega) (by omega) (by simp; omega) ?_); intro v' w1 hown' hgrow _ _; obtain ⟨g', cap', rfl⟩ := ownsRow_succ hown'; obtain ⟨hv2, hv3, hr3, hk3, hb3⟩ := HV.out.appended (by decide) HR.out hsz1 (Nat.le_refl _) hown' hgrow; have hkp := Keep.appended hsz1 (Nat.le_refl _) HV.out HR.out hown' hgrow; have hc1 := hv2.cell; have hf1 := hv2.frozen)
    exact ⟨hkp.mono (Nat.zero_le _), ⟨_, hv3, by rw [mvsCells_snoc, List.length_append]; exact hr3⟩, hB.trans hb3⟩
  case done =>
    rintro W2 ⟨⟨v, hv, hrow⟩, hB⟩ hD
    obtain ⟨ao, cap, rfl⟩ := own_form hrow
    have cv := hv.cell
    have HD := Lib.hid hD; have HR := Lib.hid hrow
    clear hD hrow hv
    gi_wp2
    refine ⟨by simp, .inl ⟨_, _, rfl, run_takeDeferred HD.out, ?_⟩⟩
    have hEx := Ext.put (n₀ := w.heap.size) (.deferred none) (by omega) HD.out rfl
    exact ⟨_, results_tmp rfl _ _ _, _, rfl, own_ext HR.out hEx, hB.trans hEx.below⟩
  case stop => exact fun _ h _ => h.elim

set_option maxRecDepth 100000 in
set_option maxHeartbeats 2000000 in
theorem collect_any (gf : Nat) (ba lb : Array Value) (L : List Ar.Mv) {Pre Inv : World → Prop} (w : World) (eg : ∀ args w, (callFunc gf args).run Tryz.prog w = .ok (.enter gf args) w)
    (hseq : Gives 1 gf ba lb encMv L anyY Pre Inv) (hpre : ∀ W1, Ext w.heap.size w W1 → Pre W1) (hinv : ∀ W1, Below w.heap.size w W1 → Inv W1) (hlen : L.length ≤ 1000000) :
    Calls Tryz.prog 37 #[.func (.func gf) ba lb] w fun e w' => ∃ v, e = .returned v ∧ w'.ownsRow w.heap.size 37 4 v L.length (mvsCells L) ∧ Below w.heap.size w w' := by
  have HA := Lib.hid (appendSeq_any gf ba lb L w eg hseq hpre hinv hlen)
  clear eg hseq hpre hinv hlen
  go_enter Tryz.func37, Tryz.ntmps37
  go_wp2_with (go_at_call 75; refine HA.out.mono ?_; rintro e w2 ⟨v, rfl, ho, hB⟩; have HO := Lib.hid ho; clear ho)
  go_ret
  exact ⟨_, rfl, HO.out, hB⟩

namespace Ar
def ansProg (a : Are) (m : Mv) : List Mv := if fqErr a m = 0 then (match findPl a m with | some p => if m.kind = 2 then tellsOf p 1 else answersOf p | none => []) else []
theorem tells_length (p : Pl) (v : Nat) : (tellsOf p v).length ≤ v + 1 := by
  unfold tellsOf escOf
  rw [List.length_append, valsFrom_length]
  have : (if p.jumps = true then [mvOf p 3 (-1)] else []).length ≤ 1 := by split <;> simp
  omega
end Ar
set_option maxRecDepth 100000 in
set_option maxHeartbeats 4000000 in
theorem Answers_any (a : Ar.Are) (A : Option Addr) (c : Nat) (P : Nat → Option Addr × Nat) (m : Ar.Mv) (w : World) (hA : ArM w A P a) :
    Calls Tryz.prog 12 #[arV A c a, mvV m] w fun e w' => ∃ v, e = .returned (.tuple #[v, .int .i64 (Ar.fqErr a m : Int)]) ∧ w'.ownsRow w.heap.size 37 4 v (Ar.ansProg a m).length (mvsCells (Ar.ansProg a m)) ∧ Below w.heap.size w w' := by
  have hB0 := below_two (w := w) (.cells #[.slice A a.ids.length c, .bool a.root.cell, .int .i64 a.root.n, .bool a.jumps] 27 (0, 0)) (mvO m)
  have hm0 := Lib.hid (two_new2 w (.cells #[.slice A a.ids.length c, .bool a.root.cell, .int .i64 a.root.n, .bool a.jumps] 27 (0, 0)) (mvO m))
  have HF := Lib.hid (findQuestion_any a A c P m _ (hA.below hB0))
  have hav : arV A c a = .agg #[.slice A a.ids.length c, .bool a.root.cell, .int .i64 a.root.n, .bool a.jumps] := rfl
  have hmv : mvV m = .agg #[.int .i64 m.id, .int .i64 m.arg, .int .u8 m.kind, .int .i64 m.n] := rfl
  unfold mvO at hB0 HF hm0
  by_cases h0 : Ar.fqErr a m = 0
  · have hnq : Ar.noQ a m = false := by
      cases h : Ar.noQ a m
      · rfl
      · unfold Ar.fqErr at h0; rw [h, if_pos rfl] at h0; cases h0
    have hfe : Ar.findErr a m = 0 := by unfold Ar.fqErr at h0; rw [hnq, if_neg Bool.false_ne_true] at h0; exact h0
    obtain ⟨p, hp, hmem, hck, -⟩ := Ar.findPl_some hfe
    have hr := Ar.right_of_check hck
    obtain ⟨hp1, hp64⟩ := Ar.place_right hr p hmem
    have h1 : fqRt a A c m = .agg #[.slice A a.ids.length c, .bool a.root.cell, .int .i64 a.root.n, .bool a.jumps] := by
      unfold fqRt findRt; rw [hnq, hfe]; rfl
    have h2 : fqPl a m = .agg #[.bool p.base.cell, .int .i64 p.base.n, .int .i64 p.id, .int .i64 p.arg, .bool p.jumps] := by
      unfold fqPl; rw [hnq, hp]; rfl
    have hu : Ar.ansProg a m = if m.kind = 2 then Ar.tellsOf p 1 else Ar.answersOf p := by unfold Ar.ansProg; rw [if_pos h0, hp]
    rw [h1, h2, h0] at HF
    rw [h0, hu]
    rw [hav, hmv] at HF ⊢
    clear hA h0 hnq hfe hp hck hr h1 h2 hu hmem hav hmv
    by_cases hk : m.kind = 2
    · rw [if_pos hk]
      have hkd : (m.kind == 2) = true := by rw [beq_iff_eq]; exact hk
      have HT := Lib.hid (fun W => tells_any p 1 W)
      have HCO : Hid (∀ (W : World) (n : Nat), W.heap.size = n → Calls Tryz.prog 37 #[.func (.func 76) #[] #[.pointer (some ⟨n, 0, none⟩), .pointer (some ⟨n + 1, 0, none⟩)]] ((W.alloc (plO p)).alloc (.cells #[.int .i64 1] 3)) fun e w' => ∃ v, e = .returned v ∧ w'.ownsRow ((W.alloc (plO p)).alloc (.cells #[.int .i64 1] 3)).heap.size 37 4 v (Ar.tellsOf p 1).length (mvsCells (Ar.tellsOf p 1)) ∧ Below ((W.alloc (plO p)).alloc (.cells #[.int .i64 1] 3)).heap.size ((W.alloc (plO p)).alloc (.cells #[.int .i64 1] 3)) w') := fun W n hn => by
        subst hn
        exact collect_any 76 #[] #[.pointer (some ⟨W.heap.size, 0, none⟩), .pointer (some ⟨W.heap.size + 1, 0, none⟩)] (Ar.tellsOf p 1) ((W.alloc (plO p)).alloc (.cells #[.int .i64 1] 3)) (fun args w => enters_of Tryz.func76 (by kernel_rfl) rfl args w) (tells1_gives 1 (Nat.le_refl _) p 1 W.heap.size (W.heap.size + 1) (by decide))
          (fun W1 h => ⟨h.cells _ _ (two_new1 W _ _) rfl, Ext.boxed (two_new2 W _ _) h⟩) (fun _ _ => trivial) (Nat.le_trans (Ar.tells_length p 1) (by decide))
      unfold plV at HT
      unfold plO at HT HCO
      clear hk
      go_enter Tryz.func12, Tryz.ntmps12
      go_wp2_with (first
        | (go_at_call 37; refine (HCO.out ((w2.alloc (.cells #[.slice A a.ids.length c, .bool a.root.cell, .int .i64 a.root.n, .bool a.jumps] 66 (0, 0))).alloc (.cells #[.bool p.base.cell, .int .i64 p.base.n, .int .i64 p.id, .int .i64 p.arg, .bool p.jumps] 68 (0, 0))) _ (by rw [World.size_alloc, World.size_alloc])).mono ?_; rintro e w7 ⟨v, rfl, ho, hB7⟩; have HO := Lib.hid ho; clear ho)
        | (go_at_call 38; refine (HT.out _).mono ?_; rintro e w' ⟨rfl, rfl⟩)
        | (go_at_call 36; refine HF.out.mono ?_; rintro e w2 ⟨rfl, hB2⟩; have hBw2 := hB0.trans (hB2.mono hB0.size); have hBw4 := hBw2.trans ((below_two (w := w2) (.cells #[.slice A a.ids.length c, .bool a.root.cell, .int .i64 a.root.n, .bool a.jumps] 66 (0, 0)) (.cells #[.bool p.base.cell, .int .i64 p.base.n, .int .i64 p.id, .int .i64 p.arg, .bool p.jumps] 68 (0, 0))).mono hBw2.size); have hm2 := Lib.hid ((hB2.block _ (lt_of_heap hm0.out)).trans hm0.out); obtain ⟨y0, y1, y2, y3, -, -, -, -⟩ := cells4 ((Below.heap_alloc (w2.alloc (.cells #[.slice A a.ids.length c, .bool a.root.cell, .int .i64 a.root.n, .bool a.jumps] 66 (0, 0))) (.cells #[.bool p.base.cell, .int .i64 p.base.n, .int .i64 p.id, .int .i64 p.arg, .bool p.jumps] 68 (0, 0)) _ (by rw [World.size_alloc]; exact Nat.lt_succ_of_lt (lt_of_heap hm2.out))).trans ((Below.heap_alloc w2 (.cells #[.slice A a.ids.length c, .bool a.root.cell, .int .i64 a.root.n, .bool a.jumps] 66 (0, 0)) _ (lt_of_heap hm2.out)).trans hm2.out))))
      go_ret2
      have hs6 : w.heap.size ≤ ((((w2.alloc (.cells #[.slice A a.ids.length c, .bool a.root.cell, .int .i64 a.root.n, .bool a.jumps] 66 (0, 0))).alloc (.cells #[.bool p.base.cell, .int .i64 p.base.n, .int .i64 p.id, .int .i64 p.arg, .bool p.jumps] 68 (0, 0))).alloc (.cells #[.bool p.base.cell, .int .i64 p.base.n, .int .i64 p.id, .int .i64 p.arg, .bool p.jumps] 68 (0, 0))).alloc (.cells #[.int .i64 1] 3)).heap.size := Nat.le_trans hBw4.size (below_two _ _).size
      exact ⟨v, rfl, own_base HO.out hs6, (hBw4.trans ((below_two _ _).mono hBw4.size)).trans (hB7.mono hs6)⟩
    · rw [if_neg hk]
      have hkd : (m.kind == 2) = false := by rw [beq_eq_false_iff_ne]; exact hk
      have HCO := Lib.hid (fun W => collect_any 39 #[plV p] #[] (Ar.answersOf p) W (fun args w => enters_of Tryz.func39 (by kernel_rfl) rfl args w) (answers_gives 1 (Nat.le_refl _) p hp1 hp64) (fun _ _ => trivial) (fun _ _ => trivial) (Nat.le_trans (Ar.tells_length p p.base.n.toNat) (by omega)))
      unfold plV at HCO
      clear hk
      go_enter Tryz.func12, Tryz.ntmps12
      go_wp2_with (first
        | (go_at_call 37; refine (HCO.out _).mono ?_; rintro e w7 ⟨v, rfl, ho, hB7⟩; have HO := Lib.hid ho; clear ho)
        | (go_at_call 36; refine HF.out.mono ?_; rintro e w2 ⟨rfl, hB2⟩; have hBw2 := hB0.trans (hB2.mono hB0.size); have hBw4 := hBw2.trans ((below_two (w := w2) (.cells #[.slice A a.ids.length c, .bool a.root.cell, .int .i64 a.root.n, .bool a.jumps] 66 (0, 0)) (.cells #[.bool p.base.cell, .int .i64 p.base.n, .int .i64 p.id, .int .i64 p.arg, .bool p.jumps] 68 (0, 0))).mono hBw2.size); have hm2 := Lib.hid ((hB2.block _ (lt_of_heap hm0.out)).trans hm0.out); obtain ⟨y0, y1, y2, y3, -, -, -, -⟩ := cells4 ((Below.heap_alloc (w2.alloc (.cells #[.slice A a.ids.length c, .bool a.root.cell, .int .i64 a.root.n, .bool a.jumps] 66 (0, 0))) (.cells #[.bool p.base.cell, .int .i64 p.base.n, .int .i64 p.id, .int .i64 p.arg, .bool p.jumps] 68 (0, 0)) _ (by rw [World.size_alloc]; exact Nat.lt_succ_of_lt (lt_of_heap hm2.out))).trans ((Below.heap_alloc w2 (.cells #[.slice A a.ids.length c, .bool a.root.cell, .int .i64 a.root.n, .bool a.jumps] 66 (0, 0)) _ (lt_of_heap hm2.out)).trans hm2.out))))
      go_ret2
      exact ⟨v, rfl, own_base HO.out hBw4.size, hBw4.trans (hB7.mono hBw4.size)⟩
  · have hm : Ar.ansProg a m = [] := by unfold Ar.ansProg; rw [if_neg h0]
    have HM := Lib.hid hm
    have hform : ∃ A1 n1 c1 x1 x2 x3, fqRt a A c m = .agg #[.slice A1 n1 c1, .bool x1, .int .i64 x2, .bool x3] := by
      unfold fqRt
      split
      · exact ⟨_, _, _, _, _, _, rfl⟩
      · exact findRt_form a A c m
    have hform2 : ∃ p : Ar.Pl, fqPl a m = .agg #[.bool p.base.cell, .int .i64 p.base.n, .int .i64 p.id, .int .i64 p.arg, .bool p.jumps] := by
      unfold fqPl
      split
      · exact ⟨plZ, rfl⟩
      · exact plRes_form _
    obtain ⟨A1, n1, c1, x1, x2, x3, h1⟩ := hform
    obtain ⟨p, h2⟩ := hform2
    rw [h1, h2, hav, hmv] at HF
    rw [hav, hmv]
    have hne : ((Ar.fqErr a m : Int) != 0) = true := by rw [bne_iff_ne]; omega
    clear hm h1 h2 hA h0 hav hmv
    generalize Ar.fqErr a m = er at *
    go_enter Tryz.func12, Tryz.ntmps12
    go_wp2_with (go_at_call 36; refine HF.out.mono ?_; rintro e w2 ⟨rfl, hB2⟩; have hBw2 := hB0.trans (hB2.mono hB0.size))
    go_ret2
    exact ⟨_, rfl, by rw [HM.out]; exact World.ownsRow_nil _ _ _ _, hBw2.trans ((below_two _ _).mono hBw2.size)⟩
end Go.Proofs.YtepdlghobopdbaaGreatDoor

namespace Go.Proofs.YtepdlghobopdbaaGreatDoor
open Go.RowKit Go.Shelf
/-- A slice of moves below block B. -/
def Mvs (W : World) (B : Nat) (A : Option Addr) (l : List Ar.Mv) : Prop := l ≠ [] → ∃ b off, A = some ⟨b, off, none⟩ ∧ b < B ∧ ∀ i x, l[i]? = some x →
  W.cell? ⟨b, off + i * 4, none⟩ = some (.int .i64 x.id) ∧ W.cell? ⟨b, off + i * 4 + 1, none⟩ = some (.int .i64 x.arg) ∧ W.cell? ⟨b, off + i * 4 + 2, none⟩ = some (.int .u8 x.kind) ∧ W.cell? ⟨b, off + i * 4 + 3, none⟩ = some (.int .i64 x.n)
theorem Mvs.below {W W' : World} {B : Nat} {A : Option Addr} {l : List Ar.Mv} (h : Mvs W B A l) (hb : Below B W W') : Mvs W' B A l := fun hne => by
  obtain ⟨b, off, hA, hB, hc⟩ := h hne
  refine ⟨b, off, hA, hB, fun i x hx => ?_⟩
  obtain ⟨h0, h1, h2, h3⟩ := hc i x hx
  exact ⟨(hb.cell (p := ⟨b, _, none⟩) hB).trans h0, (hb.cell (p := ⟨b, _, none⟩) hB).trans h1, (hb.cell (p := ⟨b, _, none⟩) hB).trans h2, (hb.cell (p := ⟨b, _, none⟩) hB).trans h3⟩
theorem Mvs.mono {W : World} {B B' : Nat} {A : Option Addr} {l : List Ar.Mv} (h : Mvs W B A l) (hB : B ≤ B') : Mvs W B' A l := fun hne => by
  obtain ⟨b, off, hA, hb, hc⟩ := h hne; exact ⟨b, off, hA, by omega, hc⟩
theorem Mvs.next {W W' : World} {A : Option Addr} {l : List Ar.Mv} (h : Mvs W W.heap.size A l) (hb : Below W.heap.size W W') : Mvs W' W'.heap.size A l := (h.below hb).mono hb.size
theorem mvs_of_own {W : World} {n₀ c k : Nat} {A : Option Addr} {l : List Ar.Mv} (h : W.ownsRow n₀ 37 4 (.slice A k c) l.length (mvsCells l)) : Mvs W W.heap.size A l := fun hne => by
  have hn : 0 < l.length := List.length_pos_iff.2 hne
  obtain ⟨g, rfl, _, hlt, hc⟩ := own_cell h hn
  refine ⟨g, 0, rfl, hlt, fun i x hi => ?_⟩
  have hf := flat_get (f := mvCells) (s := 4) (fun _ => rfl) l i x hi
  simp only [Nat.zero_add]
  exact ⟨hc _ _ (hf 0 (by omega)), hc _ _ (hf 1 (by omega)), hc _ _ (hf 2 (by omega)), hc _ _ (hf 3 (by omega))⟩
theorem mvsCells_len (l : List Ar.Mv) : (mvsCells l).length = l.length * 4 := by
  induction l with
  | nil => rfl
  | cons x l ih => rw [mvsCells, List.flatMap_cons, List.length_append, ← mvsCells, ih, List.length_cons]; show 4 + _ = _; omega
theorem mvsCells_one (l : List Ar.Mv) : ∀ u ∈ mvsCells l, u.oneCell' = true := fun u hu => by
  obtain ⟨x, _, hx⟩ := List.mem_flatMap.1 hu
  simp only [mvCells, List.mem_cons, List.not_mem_nil, or_false] at hx
  rcases hx with rfl | rfl | rfl | rfl <;> rfl
theorem mvsCells_at {W : World} {B : Nat} {A : Option Addr} {l : List Ar.Mv} (h : Mvs W B A l) : ∀ ad, A = some ad → ∀ j u, (mvsCells l)[j]? = some u → W.cell? (ad.add j) = some u := fun ad hA j u hu => by
  have hj : j < l.length * 4 := by have := (List.getElem?_eq_some_iff.1 hu).1; rw [mvsCells_len] at this; exact this
  have hne : l ≠ [] := by intro e; subst e; simp at hj
  obtain ⟨b, off, hA', _, hc⟩ := h hne
  rw [hA'] at hA
  cases hA
  have hlt : j / 4 < l.length := by omega
  obtain ⟨x, hx⟩ : ∃ x, l[j / 4]? = some x := ⟨_, List.getElem?_eq_getElem hlt⟩
  obtain ⟨c0, c1, c2, c3⟩ := hc _ x hx
  rw [show (⟨b, off, none⟩ : Addr).add j = ⟨b, off + j, none⟩ by unfold Addr.add; split <;> simp_all]
  have hf := flat_get (f := mvCells) (s := 4) (fun _ => rfl) l (j / 4) x hx (j % 4) (by omega)
  rw [show j / 4 * 4 + j % 4 = j by omega] at hf
  have hu' : (l.flatMap mvCells)[j]? = some u := hu
  rw [hu'] at hf
  have h4 : j % 4 = 0 ∨ j % 4 = 1 ∨ j % 4 = 2 ∨ j % 4 = 3 := by omega
  rcases h4 with h2 | h2 | h2 | h2
  · rw [h2] at hf
    rw [show off + j / 4 * 4 = off + j by omega] at c0
    rw [c0]; exact hf.symm
  · rw [h2] at hf
    rw [show off + j / 4 * 4 + 1 = off + j by omega] at c1
    rw [c1]; exact hf.symm
  · rw [h2] at hf
    rw [show off + j / 4 * 4 + 2 = off + j by omega] at c2
    rw [c2]; exact hf.symm
  · rw [h2] at hf
    rw [show off + j / 4 * 4 + 3 = off + j by omega] at c3
    rw [c3]; exact hf.symm

theorem mvEq_self (x : Ar.Mv) : mvEq x x = true := by rw [mvEq_iff]; exact decide_eq_true rfl
set_option maxRecDepth 100000 in
set_option maxHeartbeats 4000000 in
theorem sameWord_any (l : List Ar.Mv) (A B : Option Addr) (c d : Nat) (w : World) (hl : l.length ≤ 1000000) (hA : Mvs w w.heap.size A l) (hC : Mvs w w.heap.size B l) :
    Calls Tryz.prog 14 #[.slice A l.length c, .slice B l.length d] w fun e w' => e = .returned (.bool true) ∧ Below w.heap.size w w' := by
  have HA := Lib.hid hA; have HC := Lib.hid hC
  have qg : ∀ (x y : Operand) (xs ys : Array Value) (w : World), (eqGuard .neq 37 x y (.agg xs) (.agg ys)).run Tryz.prog w = .ok () w := fun x y xs ys w => run_eqGuard_agg w _ _ x y xs ys (by kernel_rfl)
  have hn2 : ((l.length : Int) != (l.length : Int)) = false := by rw [bne_eq_false_iff_eq]
  clear hA hC
  go_enter Tryz.func14, Tryz.ntmps14
  go_wp2
  go_loopw [5] (fun i wr => ∃ k : Nat, k ≤ l.length ∧ i = .int .i64 k ∧ Hid (Below w.heap.size w wr)) (fun i _ => l.length - (intOf i).toNat)
  case atStart => exact ⟨0, Nat.zero_le _, rfl, Below.refl _ _⟩
  case round =>
    obtain ⟨k, hk, rfl, hB⟩ := hrel
    by_cases hlt : k < l.length
    · obtain ⟨x, hx⟩ : ∃ x, l[k]? = some x := ⟨_, List.getElem?_eq_getElem hlt⟩
      obtain ⟨b, off, hAe, hbB, hc⟩ := (HA.out.below hB.out) (by intro e; rw [e] at hlt; simp at hlt)
      obtain ⟨b', off', hCe, hbB', hc'⟩ := (HC.out.below hB.out) (by intro e; rw [e] at hlt; simp at hlt)
      obtain ⟨c0, c1, c2, c3⟩ := hc k x hx
      obtain ⟨d0, d1, d2, d3⟩ := hc' k x hx
      have qx : ∀ W, (binOp .neq 37 (.agg #[.int .i64 x.id, .int .i64 x.arg, .int .u8 x.kind, .int .i64 x.n]) (.agg #[.int .i64 x.id, .int .i64 x.arg, .int .u8 x.kind, .int .i64 x.n])).run Tryz.prog W = .ok (.bool false) W := fun W => by rw [run_neq_mv, mvEq_self]; rfl
      clear hx hc hc'
      subst hAe hCe
      go_wp2
      go_quiet (fail)
      go_wp2
      go_roundw
      case rel => exact ⟨k + 1, by omega, by go_num, below_drewN hB.out _⟩
      case measure => simp [intOf]; omega
    · obtain rfl : k = l.length := by omega
      go_wp2
      go_ret
      exact ⟨rfl, hB.out⟩
section
variable {P : Program} (w : World)
/-- append of any slice, nil or not, to a row of our own. -/
theorem wpList_append_any {ops : Array Oper} {rest : List Oper} {o : Oper} {a : Act} {Q : Exit → Act → World → Prop} (hgd : o.guard = none) (s x : Operand) (t : TypeId)
    (ho : o.op = .call { callee := .builtin .append, args := #[s, x], argTypes := #[t, t] })
    (base : Nat) (e : TypeId) (i : TypeInfo) (z : Value) (size bytes : Nat) (ht : P.underlying t = some (.slice e)) (hi : P.info? e = some i) (hz : i.zero = some z)
    (hsize : i.size = size) (hby : i.bytes = bytes) (hzs : z.cells.size = size) (hsz : 0 < size)
    (v : Value) (n : Nat) (xs : List Value) (hs : a.eval s = v) (hown : w.ownsRow base e size v n xs)
    (A : Option Addr) (m c k : Nat) (hk : n + m = k) (news : List Value) (hx : a.eval x = .slice A m c) (hnil : A = none → c = 0 ∧ m = 0) (hl : news.length = m * size) (hnews : ∀ ad, A = some ad → ∀ j u, news[j]? = some u → w.cell? (ad.add j) = some u) (h1 : ∀ u ∈ news, u.oneCell' = true)
    (h63 : n + m ≤ maxLen) (hbytes : (n + m) * bytes ≤ 140737488355328) (hbase : base ≤ w.heap.size)
    (h : ∀ A' c' w', w'.ownsRow base e size (.slice A' k c') k (xs ++ news) → w.grownBy w' v.ownBlock → wpList P ops Q rest (a.put o.dst (.slice A' k c')) w') : wpList P ops Q (o :: rest) a w := by
  subst hk
  cases A with
  | none =>
    obtain ⟨rfl, rfl⟩ := hnil rfl
    have hn0 : news = [] := List.length_eq_zero_iff.1 (by omega)
    subst hn0
    have hform : ∃ A' c', v = .slice A' (n + 0) c' := by
      rcases hown.2 with ⟨rfl, rfl⟩ | ⟨g, cap, cur, rfl, _⟩
      · exact ⟨none, 0, rfl⟩
      · exact ⟨_, _, rfl⟩
    obtain ⟨A', c', hv⟩ := hform
    refine wpList_append_own_none hgd s x t ho base e i size ht hi v n xs hs hown hx ?_
    rw [hv]
    exact h A' c' w (by rw [List.append_nil, ← hv]; exact hown) ⟨rfl, rfl, rfl, Nat.le_refl _, fun _ _ _ => rfl⟩
  | some ad =>
    refine wpList_append_own_at w hgd s x t ho base e i z size bytes ht hi hz hsize hby hzs hsz v n xs hs hown ad m c news hx hl (hnews ad rfl) h1 h63 hbytes hbase ?_
    intro v' w' h2 h3 _ _
    have hform : ∃ A' c', v' = .slice A' (n + m) c' := by
      rcases h2.2 with ⟨hv, h0⟩ | ⟨g, cap, cur, hv, _⟩
      · exact ⟨none, 0, by rw [hv, h0]⟩
      · exact ⟨_, _, hv⟩
    obtain ⟨A', c', rfl⟩ := hform
    exact h A' c' w' h2 h3
end
end Go.Proofs.YtepdlghobopdbaaGreatDoor
