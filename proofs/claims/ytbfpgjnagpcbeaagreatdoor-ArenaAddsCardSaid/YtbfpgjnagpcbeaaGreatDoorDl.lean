/-
  WALKS: answers of a question, in one list.
-/
import Derived.Test.YtbfpgjnagpcbeaaGreatDoorAn
import Derived.Test.YtbfpgjnagpcbeaaGreatDoorAy
namespace Go.Proofs.YtbfpgjnagpcbeaaGreatDoor
open Go.RowKit Go.Shelf
attribute [local go_sem] Oper.semAt_some

set_option maxRecDepth 100000 in
set_option maxHeartbeats 4000000 in
theorem appendSeq_any (gf : Nat) (ba lb : Array Value) (L : List Ar.Mv) {Pre Inv : World → Prop} (w : World) (eg : ∀ args w, (callFunc gf args).run Tryz.prog w = .ok (.enter gf args) w)
    (hseq : Gives 1 gf ba lb encMv L anyY Pre Inv) (hpre : ∀ W1, Ext w.heap.size w W1 → Pre W1) (hinv : ∀ W1, Below w.heap.size w W1 → Inv W1) (hlen : L.length ≤ 1000000) :
    Calls Tryz.prog 118 #[.slice none 0 0, .func (.func gf) ba lb] w fun e w' => ∃ v, e = .returned v ∧ w'.ownsRow w.heap.size 40 4 v L.length (mvsCells L) ∧ Below w.heap.size w w' := by
  obtain ⟨i0, hi, hz0, hz1, hz2⟩ := info_parts infoMv
  obtain ⟨M, hM⟩ : ∃ M, L = M := ⟨_, rfl⟩
  have HM := Lib.hid hM; clear hM
  refine (callsIn_wide (n := 9)).1 (callsIn_of_wp_marks Tryz.func118 rfl trivial ?_ rfl)
  simp only [Tryz.ntmps118, List.size_toArray, List.length_cons, List.length_nil, Nat.reduceAdd, Nat.reduceSub, Array.replicate_succ, Array.replicate_zero, List.push_toArray, List.append_toArray, List.nil_append, List.cons_append]
  have HN := Lib.hid hlen; clear hlen
  have HI := Lib.hid hinv; clear hinv
  have HS := Lib.hid hseq; clear hseq
  have HE := Lib.hid eg; clear eg
  have hE : Ext w.heap.size w (w.alloc (.cells #[.slice none 0 0] 32)) := (Ext.refl _ _).alloc (Nat.le_refl _) _
  have hPR := Lib.hid (fun W1 (h : Ext w.heap.size (w.alloc (.cells #[.slice none 0 0] 32)) W1) => hpre W1 (hE.trans h))
  have hb1 := Lib.hid (World.alloc_heap_new w (.cells #[.slice none 0 0] 32))
  have hsz : w.heap.size + 1 ≤ (w.alloc (.cells #[.slice none 0 0] 32)).heap.size := by simp
  have hBl := hE.below
  clear hpre hE
  gi_wp2
  generalize w.alloc (.cells #[.slice none 0 0] 32) = Wl at *
  refine range_own (n := 9) (by omega) (ba := ba) (lb := lb) rfl HE.out encMv_size (HS.out.any) (fun l => .inl ⟨l, rfl⟩) (fun W1 h => hPR.out W1 (h.mono (by omega)))
    (fun pre W' => Row w.heap.size w.heap.size pre W' ∧ Below w.heap.size w W') (fun _ => False) (fun _ W' h => HI.out W' h.2)
    (fun pre => (lasts_row _ _ _ _).and (lasts_below _ (by omega))) (lasts_pure _ _) ⟨⟨_, hb1.out, World.ownsRow_nil _ _ _ _⟩, hBl⟩
    (fun x a' W' => ∃ bx, W'.heap[bx]? = some (mvO x) ∧ a' = { tmps := #[.slice none 0 0, .func (.func gf) ba lb, .pointer (some ⟨w.heap.size, 0, none⟩), undef, .slice none 0 0, .pointer (some ⟨bx, 0, none⟩), .func (.func gf) ba lb, .agg #[.int .i64 x.id, .int .i64 x.arg, .int .u8 x.kind, .int .i64 x.n], undef, undef, undef, undef, undef], defers := [] })
    (fun x a' A B e h => by obtain ⟨bx, h1, h2⟩ := h; exact ⟨bx, e.cells _ _ h1 rfl, h2⟩) ?assign ?body ?done ?stop
  case assign =>
    intro pre x suf W1 K hL hI hs hK
    unfold encMv mvV
    gi_wp2
    exact hK _ _ ((Below.refl _ _).alloc (Nat.le_refl _) _) ⟨W1.heap.size, World.alloc_heap_new _ _, rfl⟩
  case body =>
    rintro pre x suf a' W1 hL ⟨⟨v, hv, hrow⟩, hB⟩ hs ⟨bx, hbx, rfl⟩
    have hlen := HN.out
    have hpl : pre.length ≤ L.length := by rw [hL]; simp
    obtain ⟨c0, c1, c2, c3⟩ := mvO_cells hbx
    have hcv := hv.cell
    obtain ⟨ao, cap, rfl⟩ := own_form hrow
    have HR := Lib.hid hrow; have HV := Lib.hid hv
    have hsz1 : w.heap.size ≤ W1.heap.size := hB.size
    clear hrow hv hL hbx
    gi_wp2_with (gi_at_builtin; go_loud (refine wpListIn_append_own_at _ rfl _ _ 32 rfl w.heap.size 40 i0 (.agg #[.int .i64 0, .int .i64 0, .int .u8 0, .int .i64 0]) 4 32 Tryz.underlying32 hi hz0 hz1 hz2 rfl (by decide) _ _ _ rfl (HR.out.alloc _) ⟨W1.heap.size, 0, none⟩ 1 1 (mvCells x) rfl rfl (cell_four_at _ _ (by simp) _ _ _ _ _) (by simp [mvCells, Value.oneCell']) (by unfold maxLen; omega) (by omega) (by simp; omega) ?_); intro v' w1 hown' hgrow _ _; obtain ⟨g', cap', rfl⟩ := ownsRow_succ hown'; obtain ⟨hv2, hv3, hr3, hk3, hb3⟩ := HV.out.appended (by decide) HR.out hsz1 (Nat.le_refl _) hown' hgrow; have hkp := Keep.appended hsz1 (Nat.le_refl _) HV.out HR.out hown' hgrow; have hc1 := hv2.cell; have hf1 := hv2.frozen)
    exact ⟨hkp.mono (Nat.zero_le _), ⟨_, hv3, by rw [mvsCells_snoc, List.length_append]; exact hr3⟩, hB.trans hb3⟩
  case done =>
    rintro W2 ⟨⟨v, hv, hrow⟩, hB⟩ hD
    obtain ⟨ao, cap, rfl⟩ := own_form hrow
    have cv := hv.cell
    have HD := Lib.hid hD; have HR := Lib.hid hrow
    clear hD hrow hv
    gi_wp2
    refine ⟨by simp, .inl ⟨_, _, rfl, run_takeDeferred HD.out, ?_⟩⟩
    have hEx := Ext.put (n₀ := w.heap.size) (.deferred none) (by omega) HD.out rfl
    exact ⟨_, results_tmp rfl _ _ _, _, rfl, own_ext HR.out hEx, hB.trans hEx.below⟩
  case stop => exact fun _ h _ => h.elim

set_option maxRecDepth 100000 in
set_option maxHeartbeats 2000000 in
theorem collect_any (gf : Nat) (ba lb : Array Value) (L : List Ar.Mv) {Pre Inv : World → Prop} (w : World) (eg : ∀ args w, (callFunc gf args).run Tryz.prog w = .ok (.enter gf args) w)
    (hseq : Gives 1 gf ba lb encMv L anyY Pre Inv) (hpre : ∀ W1, Ext w.heap.size w W1 → Pre W1) (hinv : ∀ W1, Below w.heap.size w W1 → Inv W1) (hlen : L.length ≤ 1000000) :
    Calls Tryz.prog 73 #[.func (.func gf) ba lb] w fun e w' => ∃ v, e = .returned v ∧ w'.ownsRow w.heap.size 40 4 v L.length (mvsCells L) ∧ Below w.heap.size w w' := by
  have HA := Lib.hid (appendSeq_any gf ba lb L w eg hseq hpre hinv hlen)
  clear eg hseq hpre hinv hlen
  go_enter Tryz.func73, Tryz.ntmps73
  go_wp2_with (go_at_call 118; refine HA.out.mono ?_; rintro e w2 ⟨v, rfl, ho, hB⟩; have HO := Lib.hid ho; clear ho)
  go_ret
  exact ⟨_, rfl, HO.out, hB⟩

namespace Ar
def ansProg (a : Are) (m : Mv) : List Mv := if fqErr a m = 0 then (match findPl a m with | some p => if m.kind = 2 then tellsOf p 1 else answersOf p | none => []) else []
theorem tells_length (p : Pl) (v : Nat) : (tellsOf p v).length ≤ v + 1 := by
  unfold tellsOf escOf
  rw [List.length_append, valsFrom_length]
  have : (if p.jumps = true then [mvOf p 3 (-1)] else []).length ≤ 1 := by split <;> simp
  omega
end Ar
set_option maxRecDepth 100000 in
set_option maxHeartbeats 4000000 in
theorem Answers_any (a : Ar.Are) (A : Option Addr) (c : Nat) (P : Nat → Option Addr × Nat) (m : Ar.Mv) (w : World) (hA : ArM w A P a) :
    Calls Tryz.prog 29 #[arV A c a, mvV m] w fun e w' => ∃ v, e = .returned (.tuple #[v, .int .i64 (Ar.fqErr a m : Int)]) ∧ w'.ownsRow w.heap.size 40 4 v (Ar.ansProg a m).length (mvsCells (Ar.ansProg a m)) ∧ Below w.heap.size w w' := by
  have hB0 := below_two (w := w) (.cells #[.slice A a.ids.length c, .bool a.root.cell, .int .i64 a.root.n, .bool a.jumps] 26 (0, 0)) (mvO m)
  have hm0 := Lib.hid (two_new2 w (.cells #[.slice A a.ids.length c, .bool a.root.cell, .int .i64 a.root.n, .bool a.jumps] 26 (0, 0)) (mvO m))
  have HF := Lib.hid (findQuestion_any a A c P m _ (hA.below hB0))
  have hav : arV A c a = .agg #[.slice A a.ids.length c, .bool a.root.cell, .int .i64 a.root.n, .bool a.jumps] := rfl
  have hmv : mvV m = .agg #[.int .i64 m.id, .int .i64 m.arg, .int .u8 m.kind, .int .i64 m.n] := rfl
  unfold mvO at hB0 HF hm0
  by_cases h0 : Ar.fqErr a m = 0
  · have hnq : Ar.noQ a m = false := by
      cases h : Ar.noQ a m
      · rfl
      · unfold Ar.fqErr at h0; rw [h, if_pos rfl] at h0; cases h0
    have hfe : Ar.findErr a m = 0 := by unfold Ar.fqErr at h0; rw [hnq, if_neg Bool.false_ne_true] at h0; exact h0
    obtain ⟨p, hp, hmem, hck, -⟩ := Ar.findPl_some hfe
    have hr := Ar.right_of_check hck
    obtain ⟨hp1, hp64⟩ := Ar.place_right hr p hmem
    have h1 : fqRt a A c m = .agg #[.slice A a.ids.length c, .bool a.root.cell, .int .i64 a.root.n, .bool a.jumps] := by
      unfold fqRt findRt; rw [hnq, hfe]; rfl
    have h2 : fqPl a m = .agg #[.bool p.base.cell, .int .i64 p.base.n, .int .i64 p.id, .int .i64 p.arg, .bool p.jumps] := by
      unfold fqPl; rw [hnq, hp]; rfl
    have hu : Ar.ansProg a m = if m.kind = 2 then Ar.tellsOf p 1 else Ar.answersOf p := by unfold Ar.ansProg; rw [if_pos h0, hp]
    rw [h1, h2, h0] at HF
    rw [h0, hu]
    rw [hav, hmv] at HF ⊢
    clear hA h0 hnq hfe hp hck hr h1 h2 hu hmem hav hmv
    by_cases hk : m.kind = 2
    · rw [if_pos hk]
      have hkd : (m.kind == 2) = true := by rw [beq_iff_eq]; exact hk
      have HT := Lib.hid (fun W => tells_any p 1 W)
      have HCO : Hid (∀ (W : World) (n : Nat), W.heap.size = n → Calls Tryz.prog 73 #[.func (.func 119) #[] #[.pointer (some ⟨n, 0, none⟩), .pointer (some ⟨n + 1, 0, none⟩)]] ((W.alloc (plO p)).alloc (.cells #[.int .i64 1] 3)) fun e w' => ∃ v, e = .returned v ∧ w'.ownsRow ((W.alloc (plO p)).alloc (.cells #[.int .i64 1] 3)).heap.size 40 4 v (Ar.tellsOf p 1).length (mvsCells (Ar.tellsOf p 1)) ∧ Below ((W.alloc (plO p)).alloc (.cells #[.int .i64 1] 3)).heap.size ((W.alloc (plO p)).alloc (.cells #[.int .i64 1] 3)) w') := fun W n hn => by
        subst hn
        exact collect_any 119 #[] #[.pointer (some ⟨W.heap.size, 0, none⟩), .pointer (some ⟨W.heap.size + 1, 0, none⟩)] (Ar.tellsOf p 1) ((W.alloc (plO p)).alloc (.cells #[.int .i64 1] 3)) (fun args w => enters_of Tryz.func119 (by kernel_rfl) rfl args w) (tells1_gives 1 (Nat.le_refl _) p 1 W.heap.size (W.heap.size + 1) (by decide))
          (fun W1 h => ⟨h.cells _ _ (two_new1 W _ _) rfl, Ext.boxed (two_new2 W _ _) h⟩) (fun _ _ => trivial) (Nat.le_trans (Ar.tells_length p 1) (by decide))
      unfold plV at HT
      unfold plO at HT HCO
      clear hk
      go_enter Tryz.func29, Tryz.ntmps29
      go_wp2_with (first
        | (go_at_call 73; refine (HCO.out ((w2.alloc (.cells #[.slice A a.ids.length c, .bool a.root.cell, .int .i64 a.root.n, .bool a.jumps] 77 (0, 0))).alloc (.cells #[.bool p.base.cell, .int .i64 p.base.n, .int .i64 p.id, .int .i64 p.arg, .bool p.jumps] 82 (0, 0))) _ (by rw [World.size_alloc, World.size_alloc])).mono ?_; rintro e w7 ⟨v, rfl, ho, hB7⟩; have HO := Lib.hid ho; clear ho)
        | (go_at_call 74; refine (HT.out _).mono ?_; rintro e w' ⟨rfl, rfl⟩)
        | (go_at_call 72; refine HF.out.mono ?_; rintro e w2 ⟨rfl, hB2⟩; have hBw2 := hB0.trans (hB2.mono hB0.size); have hBw4 := hBw2.trans ((below_two (w := w2) (.cells #[.slice A a.ids.length c, .bool a.root.cell, .int .i64 a.root.n, .bool a.jumps] 77 (0, 0)) (.cells #[.bool p.base.cell, .int .i64 p.base.n, .int .i64 p.id, .int .i64 p.arg, .bool p.jumps] 82 (0, 0))).mono hBw2.size); have hm2 := Lib.hid ((hB2.block _ (lt_of_heap hm0.out)).trans hm0.out); obtain ⟨y0, y1, y2, y3, -, -, -, -⟩ := cells4 ((Below.heap_alloc (w2.alloc (.cells #[.slice A a.ids.length c, .bool a.root.cell, .int .i64 a.root.n, .bool a.jumps] 77 (0, 0))) (.cells #[.bool p.base.cell, .int .i64 p.base.n, .int .i64 p.id, .int .i64 p.arg, .bool p.jumps] 82 (0, 0)) _ (by rw [World.size_alloc]; exact Nat.lt_succ_of_lt (lt_of_heap hm2.out))).trans ((Below.heap_alloc w2 (.cells #[.slice A a.ids.length c, .bool a.root.cell, .int .i64 a.root.n, .bool a.jumps] 77 (0, 0)) _ (lt_of_heap hm2.out)).trans hm2.out))))
      go_ret2
      have hs6 : w.heap.size ≤ ((((w2.alloc (.cells #[.slice A a.ids.length c, .bool a.root.cell, .int .i64 a.root.n, .bool a.jumps] 77 (0, 0))).alloc (.cells #[.bool p.base.cell, .int .i64 p.base.n, .int .i64 p.id, .int .i64 p.arg, .bool p.jumps] 82 (0, 0))).alloc (.cells #[.bool p.base.cell, .int .i64 p.base.n, .int .i64 p.id, .int .i64 p.arg, .bool p.jumps] 82 (0, 0))).alloc (.cells #[.int .i64 1] 3)).heap.size := Nat.le_trans hBw4.size (below_two _ _).size
      exact ⟨v, rfl, own_base HO.out hs6, (hBw4.trans ((below_two _ _).mono hBw4.size)).trans (hB7.mono hs6)⟩
    · rw [if_neg hk]
      have hkd : (m.kind == 2) = false := by rw [beq_eq_false_iff_ne]; exact hk
      have HCO := Lib.hid (fun W => collect_any 75 #[plV p] #[] (Ar.answersOf p) W (fun args w => enters_of Tryz.func75 (by kernel_rfl) rfl args w) (answers_gives 1 (Nat.le_refl _) p hp1 hp64) (fun _ _ => trivial) (fun _ _ => trivial) (Nat.le_trans (Ar.tells_length p p.base.n.toNat) (by omega)))
      unfold plV at HCO
      clear hk
      go_enter Tryz.func29, Tryz.ntmps29
      go_wp2_with (first
        | (go_at_call 73; refine (HCO.out _).mono ?_; rintro e w7 ⟨v, rfl, ho, hB7⟩; have HO := Lib.hid ho; clear ho)
        | (go_at_call 72; refine HF.out.mono ?_; rintro e w2 ⟨rfl, hB2⟩; have hBw2 := hB0.trans (hB2.mono hB0.size); have hBw4 := hBw2.trans ((below_two (w := w2) (.cells #[.slice A a.ids.length c, .bool a.root.cell, .int .i64 a.root.n, .bool a.jumps] 77 (0, 0)) (.cells #[.bool p.base.cell, .int .i64 p.base.n, .int .i64 p.id, .int .i64 p.arg, .bool p.jumps] 82 (0, 0))).mono hBw2.size); have hm2 := Lib.hid ((hB2.block _ (lt_of_heap hm0.out)).trans hm0.out); obtain ⟨y0, y1, y2, y3, -, -, -, -⟩ := cells4 ((Below.heap_alloc (w2.alloc (.cells #[.slice A a.ids.length c, .bool a.root.cell, .int .i64 a.root.n, .bool a.jumps] 77 (0, 0))) (.cells #[.bool p.base.cell, .int .i64 p.base.n, .int .i64 p.id, .int .i64 p.arg, .bool p.jumps] 82 (0, 0)) _ (by rw [World.size_alloc]; exact Nat.lt_succ_of_lt (lt_of_heap hm2.out))).trans ((Below.heap_alloc w2 (.cells #[.slice A a.ids.length c, .bool a.root.cell, .int .i64 a.root.n, .bool a.jumps] 77 (0, 0)) _ (lt_of_heap hm2.out)).trans hm2.out))))
      go_ret2
      exact ⟨v, rfl, own_base HO.out hBw4.size, hBw4.trans (hB7.mono hBw4.size)⟩
  · have hm : Ar.ansProg a m = [] := by unfold Ar.ansProg; rw [if_neg h0]
    have HM := Lib.hid hm
    have hform : ∃ A1 n1 c1 x1 x2 x3, fqRt a A c m = .agg #[.slice A1 n1 c1, .bool x1, .int .i64 x2, .bool x3] := by
      unfold fqRt
      split
      · exact ⟨_, _, _, _, _, _, rfl⟩
      · exact findRt_form a A c m
    have hform2 : ∃ p : Ar.Pl, fqPl a m = .agg #[.bool p.base.cell, .int .i64 p.base.n, .int .i64 p.id, .int .i64 p.arg, .bool p.jumps] := by
      unfold fqPl
      split
      · exact ⟨plZ, rfl⟩
      · exact plRes_form _
    obtain ⟨A1, n1, c1, x1, x2, x3, h1⟩ := hform
    obtain ⟨p, h2⟩ := hform2
    rw [h1, h2, hav, hmv] at HF
    rw [hav, hmv]
    have hne : ((Ar.fqErr a m : Int) != 0) = true := by rw [bne_iff_ne]; omega
    clear hm h1 h2 hA h0 hav hmv
    generalize Ar.fqErr a m = er at *
    go_enter Tryz.func29, Tryz.ntmps29
    go_wp2_with (go_at_call 72; refine HF.out.mono ?_; rintro e w2 ⟨rfl, hB2⟩; have hBw2 := hB0.trans (hB2.mono hB0.size))
    go_ret2
    exact ⟨_, rfl, by rw [HM.out]; exact World.ownsRow_nil _ _ _ _, hBw2.trans ((below_two _ _).mono hBw2.size)⟩
end Go.Proofs.YtbfpgjnagpcbeaaGreatDoor
