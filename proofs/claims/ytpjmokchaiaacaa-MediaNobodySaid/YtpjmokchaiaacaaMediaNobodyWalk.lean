/- The walk of MediaNobody. It proves no statement by itself. -/
import Derived.Test.YtpjmokchaiaacaaMdDoes
import Derived.Test.YtpjmokchaiaacaaMdLives
import Derived.Test.YtpjmokchaiaacaaOpenDo
namespace Go.Proofs.Ytpjmokchaiaacaa
open Go.RowKit Go.Maps Go.WideMaps
set_option linter.unusedVariables false
set_option linter.unusedSimpArgs false

theorem do_blk {W : World} {B : Nat} {ov : Value} {l : List Value} (h : W.ownsRow B 43 7 ov 1 l) :
    ∃ g cap cur, ov = .slice (some ⟨g, 0, none⟩) 1 cap ∧ B ≤ g ∧ Blk W g 43 cur ∧ ∀ W', Blk W' g 43 cur → W'.rangeAt g 0 l := by
  rcases h.2 with ⟨_, h0⟩ | ⟨g, cap, cur, rfl, hb, hg, _, _, _, htk⟩
  · omega
  · refine ⟨g, cap, cur, rfl, hb, hg, fun W' hB j u hj => ?_⟩
    rw [Blk.cell hB, Nat.zero_add]
    rw [← htk] at hj
    rw [List.getElem?_take] at hj
    by_cases h : j < 1 * 7
    · rw [if_pos h, Array.getElem?_toList] at hj; exact hj
    · rw [if_neg h] at hj; cases hj
theorem own_highM {W W' : World} {s2 n z : Nat} {e : TypeId} {v : Value} {xs : List Value} (o : W.ownsRow s2 e z v n xs) (h : ∀ b, s2 ≤ b → b < W.heap.size → W'.heap[b]? = W.heap[b]?) : W'.ownsRow s2 e z v n xs := by
  refine ⟨o.1, ?_⟩
  rcases o.2 with q | ⟨b, cap, cur, e1, e2, e3, e4⟩
  · exact .inl q
  · exact .inr ⟨b, cap, cur, e1, e2, by rw [h b e2 (Array.getElem?_eq_some_iff.1 e3).1]; exact e3, e4⟩
theorem load_mid0 {P : Program} {ops : Array Oper} {rest : List Oper} {op : Oper} {a : Act} {w : World} {Q : Exit → Act → World → Prop} (hw : Region.wanted op (yielded ops a.tmps) = true) (ty : TypeId) (x : Operand) (ho : op.op = .load ty x)
    (b o : Nat) (hx : a.eval x = .pointer (some ⟨b, o, none⟩)) (cs : List Value) (d : TypeDesc) (hc : w.rangeAt b o cs)
    (hu : P.underlying ty = some d) (hd : d.isRow = true) (hi : (P.info? ty).map (·.size) = some cs.length)
    (h : wpList P ops Q rest (a.put op.dst (.agg cs.toArray)) w) : wpList P ops Q (op :: rest) a w := by
  unfold wpList
  rw [if_pos hw]
  exact .inl (wp_load_mid ty x ho b o hx cs d hc hu hd hi h)
theorem sizeDo : (Try.prog.info? 43).map (·.size) = some 7 := by kernel_rfl
/-- What a call of a medium that no call made answers. -/
theorem does_any (P : Value) (k nn mm : Int) (s t : ByteArray) (A : Option Addr) (m c : Nat) (A2 : Option Addr) (n2 c2 : Nat) (L : List UInt8) (w : World) (B : Nat) (hN : NoMed w P) (hr : Reads w B A m L) (hB : B ≤ w.heap.size) (hm : m ≤ 100) (hA : A = none → m = 0 ∧ c = 0) (hs : s.size ≤ maxLen) :
    Calls Try.prog 19 #[P, .agg #[.int .i64 k, .string s, .string t, .int .i64 nn, .int .i64 mm, .slice A m c, .slice A2 n2 c2]] w fun e w' => e = .returned (.tuple #[.slice none 0 0, .int .i64 (if k = 8 ∨ k = 10 then 0 else 1), .bool false]) ∧ Still w w' := by
  by_cases k0 : k = 0
  · subst k0; exact does_no0 P nn mm s t A m c A2 n2 c2 L w B hN hr hB hm hA hs
  by_cases k1 : k = 1
  · subst k1; exact does_no1 P nn mm s t A m c A2 n2 c2 L w B hN hr hB hm hA hs
  by_cases k2 : k = 2
  · subst k2; exact does_no2 P nn mm s t A m c A2 n2 c2 L w B hN hr hB hm hA hs
  by_cases k3 : k = 3
  · subst k3; exact does_no3 P nn mm s t A m c A2 n2 c2 L w B hN hr hB hm hA hs
  by_cases k4 : k = 4
  · subst k4; exact does_no4 P nn mm s t A m c A2 n2 c2 L w B hN hr hB hm hA hs
  by_cases k5 : k = 5
  · subst k5; exact does_no5 P nn mm s t A m c A2 n2 c2 L w B hN hr hB hm hA hs
  by_cases k6 : k = 6
  · subst k6; exact does_no6 P nn mm s t A m c A2 n2 c2 L w B hN hr hB hm hA hs
  by_cases k7 : k = 7
  · subst k7; exact does_no7 P nn mm s t A m c A2 n2 c2 L w B hN hr hB hm hA hs
  by_cases k8 : k = 8
  · subst k8; exact does_no8 P nn mm s t A m c A2 n2 c2 L w B hN hr hB hm hA hs
  by_cases k9 : k = 9
  · subst k9; exact does_no9 P nn mm s t A m c A2 n2 c2 L w B hN hr hB hm hA hs
  by_cases k10 : k = 10
  · subst k10; exact does_no10 P nn mm s t A m c A2 n2 c2 L w B hN hr hB hm hA hs
  rw [if_neg (by omega)]
  exact does_noR P k ⟨k0, k1, k2, k3, k4, k5, k6, k7, k8, k9, k10⟩ nn mm s t A m c A2 n2 c2 L w B hN hr hB hm hA hs

set_option maxRecDepth 100000 in
set_option maxHeartbeats 6400000 in
theorem mediaNobody_walk (k : Int) (s t : ByteArray) (nn mm : Int) (D : List UInt8) (A : Option Addr) (n c : Nat) (A2 : Option Addr) (n2 c2 : Nat) (w : World) (h0 : DoIn w s t D A n c A2 n2 c2) :
    Calls Try.prog 8 #[.agg #[.int .i64 k, .string s, .string t, .int .i64 nn, .int .i64 mm, .slice A n c, .slice A2 n2 c2]] w fun e w' => e = .returned (.bool true) ∧ Below w.heap.size w w' := by
  obtain ⟨g1, hg1⟩ : ∃ g, g = w.heap.size := ⟨_, rfl⟩
  obtain ⟨wA, hwA⟩ : ∃ wA, wA = w.alloc (.cells #[.int .i64 k, .string s, .string t, .int .i64 nn, .int .i64 mm, .slice A n c, .slice A2 n2 c2] 43) := ⟨_, rfl⟩
  obtain ⟨gB, hgB⟩ : ∃ g, g = wA.heap.size := ⟨_, rfl⟩
  obtain ⟨wB, hwB⟩ : ∃ wB, wB = wA.alloc (.cells #[.int .i64 k, .string s, .string t, .int .i64 nn, .int .i64 mm, .slice A n c, .slice A2 n2 c2] 43) := ⟨_, rfl⟩
  have SA := Lib.hid (show Still w wA by rw [hwA]; exact (Still.refl _).alloc (Nat.le_refl _) _)
  have SB := Lib.hid (show Still wA wB by rw [hwB]; exact (Still.refl _).alloc (Nat.le_refl _) _)
  have BA := Lib.hid (show Blk wA g1 43 #[.int .i64 k, .string s, .string t, .int .i64 nn, .int .i64 mm, .slice A n c, .slice A2 n2 c2] by rw [hwA, hg1]; exact Blk.new _ _ _)
  have BB : Blk wB gB 43 #[.int .i64 k, .string s, .string t, .int .i64 nn, .int .i64 mm, .slice A n c, .slice A2 n2 c2] := by rw [hwB, hgB]; exact Blk.new _ _ _
  have sAB : Still w wB := SA.out.trans SB.out
  have FW0 := few1_any gB k nn mm s t A n c A2 n2 c2 D wB w.heap.size BB (h0.reads.still (Nat.le_refl _) sAB) sAB.size h0.fit h0.cap h0.nil h0.name h0.goal h0.fit2 h0.cap2 h0.at2
  obtain ⟨s3, hs3⟩ : ∃ s3, s3 = shB 30 s := ⟨_, rfl⟩
  obtain ⟨t3, ht3⟩ : ∃ t3, t3 = shB 30 t := ⟨_, rfl⟩
  obtain ⟨D1, hD1⟩ : ∃ D1, D1 = D.take 100 := ⟨_, rfl⟩
  obtain ⟨m, hm⟩ : ∃ m, m = D1.length := ⟨_, rfl⟩
  obtain ⟨m2, hm2⟩ : ∃ m2, m2 = min n2 60 := ⟨_, rfl⟩
  have Z3 := Lib.hid (show s3.size ≤ maxLen by rw [hs3]; unfold maxLen; have := shB_size 30 s; omega)
  have MM := Lib.hid (show m ≤ 100 by rw [hm, hD1, List.length_take]; omega)
  rw [← hs3, ← ht3, ← hD1, ← hm, ← hm2] at FW0
  have FW := Lib.hid FW0
  have LM := Lib.hid hm
  have HWA := Lib.hid hwA
  have HWB := Lib.hid hwB
  have HG1 := Lib.hid hg1
  have HGB := Lib.hid hgB
  have G1B := Lib.hid (show g1 < wB.heap.size by rw [hg1]; exact Nat.lt_of_lt_of_le (by have := BA.out.lt; rw [hg1] at this; exact this) SB.out.size)
  clear FW0 hs3 ht3 hD1 hm hm2 hwA hwB hg1 hgB BB sAB h0
  go_enter Try.func8, Try.ntmps8
  go_upto_region 2 with (first
    | (guard_target =~ wpList _ _ _ (Oper.mk _ (Op.box _ _) _ _ _ _ :: _) _ _; go_must (refine wpList_box_arr rfl 43 (.tmp 0) rfl (some 1) rfl #[.int .i64 k, .string s, .string t, .int .i64 nn, .int .i64 mm, .slice A n c, .slice A2 n2 c2] (by kernel_rfl) ?_; rw [← HWA.out, ← HG1.out]))
    | (guard_target =~ wpList _ _ _ (Oper.mk (some 12) _ _ _ _ _ :: _) _ _; go_must (refine wpList_loadDo rfl (.tmp 1) rfl g1 (by kernel_rfl) #[.int .i64 k, .string s, .string t, .int .i64 nn, .int .i64 mm, .slice A n c, .slice A2 n2 c2] rfl BA.out ?_))
    | (guard_target =~ wpList _ _ _ (Oper.mk _ (Op.buildSlice _ _ _) _ _ _ _ :: _) _ _; go_must (refine wpList_boxDo wA rfl (.tmp 12) rfl k s t nn mm A n c A2 n2 c2 (by kernel_rfl) ?_; rw [← HWB.out, ← HGB.out]))
    | (go_at_call 18; go_must (refine FW.out.mono ?_; rintro e w1 ⟨⟨ov, A', c', rfl, oe, od⟩, s1⟩; obtain ⟨gF, cF, cur, rfl, gFB, bF, rng⟩ := do_blk oe; have BF := Lib.hid bF; have RNG := Lib.hid (rng w1 bF); have OD := Lib.hid od; have S1 := Lib.hid s1; have B1 := Lib.hid ((BA.out.still SB.out).still s1); clear oe od s1 bF rng))
    | (guard_target =~ wpList _ _ _ (Oper.mk (some 16) _ _ _ _ _ :: _) _ _; go_must (refine load_mid0 (by kernel_rfl) 43 (.tmp 15) rfl gF 0 rfl [.int .i64 k, .string s3, .string t3, .int .i64 nn, .int .i64 mm, .slice A' m c', .slice A2 m2 c2] _ RNG.out Try.underlying43 rfl sizeDo ?_))
    | (guard_target =~ wpList _ _ _ (Oper.mk _ (Op.store _ _ _) _ _ _ _ :: _) _ _; go_must (refine wpList_storeDo rfl (.tmp 1) (.tmp 16) rfl g1 (by kernel_rfl) #[.int .i64 k, .string s3, .string t3, .int .i64 nn, .int .i64 mm, .slice A' m c', .slice A2 m2 c2] #[.int .i64 k, .string s, .string t, .int .i64 nn, .int .i64 mm, .slice A n c, .slice A2 n2 c2] (by kernel_rfl) rfl rfl (by kernel_rfl) B1.out ?_)))
  obtain ⟨w2, hw2⟩ : ∃ w2, w2 = w1.setRow g1 #[.int .i64 k, .string s3, .string t3, .int .i64 nn, .int .i64 mm, .slice A' m c', .slice A2 m2 c2] := ⟨_, rfl⟩
  rw [← hw2]
  have B2 := Lib.hid (show Blk w2 g1 43 #[.int .i64 k, .string s3, .string t3, .int .i64 nn, .int .i64 mm, .slice A' m c', .slice A2 m2 c2] by rw [hw2]; exact setRow_heap _ _ _ _ _ _ B1.out)
  have S2 := Lib.hid (show Still w w2 by rw [hw2]; exact below_setRow ((SA.out.trans SB.out).trans S1.out) (by rw [HG1.out]; exact Nat.le_refl _) _)
  have OD2 := Lib.hid (show w2.ownsRow wB.heap.size 5 1 (.slice A' m c') m (bytesV D1) by rw [hw2]; exact own_highM OD.out fun b hb _ => setRow_other w1 g1 b _ (by have := G1B.out; omega))
  obtain ⟨E, hE⟩ : ∃ E : Int, E = (if k = 8 ∨ k = 10 then 0 else 1) := ⟨_, rfl⟩
  have DOES := Lib.hid (show ∀ P W, NoMed W P → Still w2 W → Calls Try.prog 19 #[P, .agg #[.int .i64 k, .string s3, .string t3, .int .i64 nn, .int .i64 mm, .slice A' m c', .slice A2 m2 c2]] W fun e w' => e = .returned (.tuple #[.slice none 0 0, .int .i64 E, .bool false]) ∧ Still W w' from by
    intro P W hN hS
    rw [hE]
    obtain ⟨A9, c9, e9, f1, f2, f3⟩ := own_form OD2.out
    injection e9 with q1 q2 q3
    subst q1 q3
    exact does_any P k nn mm s3 t3 A' m c' A2 m2 c2 D1 W w2.heap.size hN ((Reads.of_own (own_low OD2.out (Nat.le_refl _))).still (Nat.le_refl _) hS) hS.size MM.out f3 Z3.out)
  have HE := Lib.hid hE
  clear hE hw2 S1 B1 OD RNG BF gFB SA SB BA FW G1B LM HWA HWB HG1 HGB
  go_wp2_with fail
  go_loopw [3] (fun iv wr => ∃ i : Nat, i ≤ 2 ∧ iv = .int .i64 i ∧ Hid (Still w2 wr)) (fun iv _ => 2 - (intOf iv).toNat)
  case atStart => exact ⟨0, by omega, rfl, Still.refl _⟩
  case round =>
    obtain ⟨i, hi, rfl, R⟩ := hrel
    by_cases h2 : i < 2
    · have hE3 : (k = 8 ∧ E = 0) ∨ (k = 10 ∧ E = 0) ∨ (¬ k = 8 ∧ ¬ k = 10 ∧ E = 1) := by
        have h := HE.out
        by_cases k8 : k = 8
        · rw [if_pos (.inl k8)] at h; exact .inl ⟨k8, h⟩
        · by_cases k10 : k = 10
          · rw [if_pos (.inr k10)] at h; exact .inr (.inl ⟨k10, h⟩)
          · rw [if_neg (by omega)] at h; exact .inr (.inr ⟨k8, k10, h⟩)
      clear HE
      have hi01 : i = 0 ∨ i = 1 := by omega
      clear hi h2
      rcases hE3 with ⟨rfl, rfl⟩ | ⟨rfl, rfl⟩ | ⟨k8, k10, rfl⟩
      · rcases hi01 with rfl | rfl
        · have i0 : (((0 : Nat) : Int)) = 0 := rfl
          go_wp2_with (first
            | (guard_target =~ wpList _ _ _ (Oper.mk (some 27) _ _ _ _ _ :: _) _ _; go_must (refine wpList_loadDo rfl (.tmp 1) rfl g1 (by kernel_rfl) #[.int .i64 8, .string s3, .string t3, .int .i64 nn, .int .i64 mm, .slice A' m c', .slice A2 m2 c2] rfl (B2.out.still R.out) ?_))
            | (go_at_call 19; go_must (refine (DOES.out _ _ (.inl rfl) R.out).mono ?_; rintro e w3 ⟨rfl, s9⟩; have R3 := Lib.hid (R.out.trans s9); have e0 : w3.cell? ⟨g1, 0, none⟩ = some (.int .i64 8) := (B2.out.still R3.out).cell 0; have e1 : w3.cell? ⟨g1, 1, none⟩ = some (.string s3) := (B2.out.still R3.out).cell 1; clear s9))
            | (go_at_call 25; go_must (refine (all_no _ s3 _ (.inl rfl)).mono ?_; rintro e w4 ⟨rfl, rfl⟩))
            | (go_at_call 31; go_must (refine (size_no _ s3 _ (.inl rfl)).mono ?_; rintro e w4 ⟨rfl, rfl⟩))
            | (go_at_call 29; go_must (refine (power_no _ _ (.inl rfl)).mono ?_; rintro e w4 ⟨rfl, rfl⟩))
            | (go_at_call 17; go_must (refine (list_no _ _ (.inl rfl)).mono ?_; rintro e w4 ⟨rfl, rfl⟩))
            | (go_at_call 30; go_must (refine (used_no _ _ (.inl rfl)).mono ?_; rintro e w4 ⟨rfl, rfl⟩)))
          go_roundw
          case rel => exact ⟨1, by omega, by go_num, R3.out⟩
          case measure => simp [intOf]
        · have i1 : (((1 : Nat) : Int)) = 1 := rfl
          obtain ⟨wm, hwm⟩ : ∃ wm, wm = wr.alloc (.cells #[.int .i64 0, .map none, .map none, .slice none 0 0, .int .i64 0, .bool false, .bool false] 64) := ⟨_, rfl⟩
          obtain ⟨gm, hgm⟩ : ∃ gm, gm = wr.heap.size := ⟨_, rfl⟩
          have RM := Lib.hid (show Still w2 wm by rw [hwm]; exact R.out.trans ((Still.refl _).alloc (Nat.le_refl _) _))
          have NB := Lib.hid (show NoMed wm (.pointer (some ⟨gm, 0, none⟩)) from .inr ⟨gm, rfl, by rw [hwm, hgm]; exact Blk.new _ _ _⟩)
          have HWM := Lib.hid hwm
          have HGM := Lib.hid hgm
          clear hwm hgm
          go_wp2_with (first
            | (guard_target =~ wpList _ _ _ (Oper.mk _ (Op.box _ _) _ _ _ _ :: _) _ _; go_must (refine wpList_box_arr rfl 64 (.tmp 23) rfl (some 24) rfl #[.int .i64 0, .map none, .map none, .slice none 0 0, .int .i64 0, .bool false, .bool false] (by kernel_rfl) ?_; rw [← HWM.out, ← HGM.out]))
            | (guard_target =~ wpList _ _ _ (Oper.mk (some 27) _ _ _ _ _ :: _) _ _; go_must (refine wpList_loadDo rfl (.tmp 1) rfl g1 (by kernel_rfl) #[.int .i64 8, .string s3, .string t3, .int .i64 nn, .int .i64 mm, .slice A' m c', .slice A2 m2 c2] rfl (B2.out.still RM.out) ?_))
            | (go_at_call 19; go_must (refine (DOES.out _ _ NB.out RM.out).mono ?_; rintro e w3 ⟨rfl, s9⟩; have NB3 := Lib.hid (NoMed.still NB.out s9); have R3 := Lib.hid (RM.out.trans s9); have e0 : w3.cell? ⟨g1, 0, none⟩ = some (.int .i64 8) := (B2.out.still R3.out).cell 0; have e1 : w3.cell? ⟨g1, 1, none⟩ = some (.string s3) := (B2.out.still R3.out).cell 1; clear s9))
            | (go_at_call 25; go_must (refine (all_no _ s3 _ NB3.out).mono ?_; rintro e w4 ⟨rfl, rfl⟩))
            | (go_at_call 31; go_must (refine (size_no _ s3 _ NB3.out).mono ?_; rintro e w4 ⟨rfl, rfl⟩))
            | (go_at_call 29; go_must (refine (power_no _ _ NB3.out).mono ?_; rintro e w4 ⟨rfl, rfl⟩))
            | (go_at_call 17; go_must (refine (list_no _ _ NB3.out).mono ?_; rintro e w4 ⟨rfl, rfl⟩))
            | (go_at_call 30; go_must (refine (used_no _ _ NB3.out).mono ?_; rintro e w4 ⟨rfl, rfl⟩)))
          go_roundw
          case rel => exact ⟨2, by omega, by go_num, R3.out⟩
          case measure => simp [intOf]
      · rcases hi01 with rfl | rfl
        · have i0 : (((0 : Nat) : Int)) = 0 := rfl
          go_wp2_with (first
            | (guard_target =~ wpList _ _ _ (Oper.mk (some 27) _ _ _ _ _ :: _) _ _; go_must (refine wpList_loadDo rfl (.tmp 1) rfl g1 (by kernel_rfl) #[.int .i64 10, .string s3, .string t3, .int .i64 nn, .int .i64 mm, .slice A' m c', .slice A2 m2 c2] rfl (B2.out.still R.out) ?_))
            | (go_at_call 19; go_must (refine (DOES.out _ _ (.inl rfl) R.out).mono ?_; rintro e w3 ⟨rfl, s9⟩; have R3 := Lib.hid (R.out.trans s9); have e0 : w3.cell? ⟨g1, 0, none⟩ = some (.int .i64 10) := (B2.out.still R3.out).cell 0; have e1 : w3.cell? ⟨g1, 1, none⟩ = some (.string s3) := (B2.out.still R3.out).cell 1; clear s9))
            | (go_at_call 25; go_must (refine (all_no _ s3 _ (.inl rfl)).mono ?_; rintro e w4 ⟨rfl, rfl⟩))
            | (go_at_call 31; go_must (refine (size_no _ s3 _ (.inl rfl)).mono ?_; rintro e w4 ⟨rfl, rfl⟩))
            | (go_at_call 29; go_must (refine (power_no _ _ (.inl rfl)).mono ?_; rintro e w4 ⟨rfl, rfl⟩))
            | (go_at_call 17; go_must (refine (list_no _ _ (.inl rfl)).mono ?_; rintro e w4 ⟨rfl, rfl⟩))
            | (go_at_call 30; go_must (refine (used_no _ _ (.inl rfl)).mono ?_; rintro e w4 ⟨rfl, rfl⟩)))
          go_roundw
          case rel => exact ⟨1, by omega, by go_num, R3.out⟩
          case measure => simp [intOf]
        · have i1 : (((1 : Nat) : Int)) = 1 := rfl
          obtain ⟨wm, hwm⟩ : ∃ wm, wm = wr.alloc (.cells #[.int .i64 0, .map none, .map none, .slice none 0 0, .int .i64 0, .bool false, .bool false] 64) := ⟨_, rfl⟩
          obtain ⟨gm, hgm⟩ : ∃ gm, gm = wr.heap.size := ⟨_, rfl⟩
          have RM := Lib.hid (show Still w2 wm by rw [hwm]; exact R.out.trans ((Still.refl _).alloc (Nat.le_refl _) _))
          have NB := Lib.hid (show NoMed wm (.pointer (some ⟨gm, 0, none⟩)) from .inr ⟨gm, rfl, by rw [hwm, hgm]; exact Blk.new _ _ _⟩)
          have HWM := Lib.hid hwm
          have HGM := Lib.hid hgm
          clear hwm hgm
          go_wp2_with (first
            | (guard_target =~ wpList _ _ _ (Oper.mk _ (Op.box _ _) _ _ _ _ :: _) _ _; go_must (refine wpList_box_arr rfl 64 (.tmp 23) rfl (some 24) rfl #[.int .i64 0, .map none, .map none, .slice none 0 0, .int .i64 0, .bool false, .bool false] (by kernel_rfl) ?_; rw [← HWM.out, ← HGM.out]))
            | (guard_target =~ wpList _ _ _ (Oper.mk (some 27) _ _ _ _ _ :: _) _ _; go_must (refine wpList_loadDo rfl (.tmp 1) rfl g1 (by kernel_rfl) #[.int .i64 10, .string s3, .string t3, .int .i64 nn, .int .i64 mm, .slice A' m c', .slice A2 m2 c2] rfl (B2.out.still RM.out) ?_))
            | (go_at_call 19; go_must (refine (DOES.out _ _ NB.out RM.out).mono ?_; rintro e w3 ⟨rfl, s9⟩; have NB3 := Lib.hid (NoMed.still NB.out s9); have R3 := Lib.hid (RM.out.trans s9); have e0 : w3.cell? ⟨g1, 0, none⟩ = some (.int .i64 10) := (B2.out.still R3.out).cell 0; have e1 : w3.cell? ⟨g1, 1, none⟩ = some (.string s3) := (B2.out.still R3.out).cell 1; clear s9))
            | (go_at_call 25; go_must (refine (all_no _ s3 _ NB3.out).mono ?_; rintro e w4 ⟨rfl, rfl⟩))
            | (go_at_call 31; go_must (refine (size_no _ s3 _ NB3.out).mono ?_; rintro e w4 ⟨rfl, rfl⟩))
            | (go_at_call 29; go_must (refine (power_no _ _ NB3.out).mono ?_; rintro e w4 ⟨rfl, rfl⟩))
            | (go_at_call 17; go_must (refine (list_no _ _ NB3.out).mono ?_; rintro e w4 ⟨rfl, rfl⟩))
            | (go_at_call 30; go_must (refine (used_no _ _ NB3.out).mono ?_; rintro e w4 ⟨rfl, rfl⟩)))
          go_roundw
          case rel => exact ⟨2, by omega, by go_num, R3.out⟩
          case measure => simp [intOf]
      · rcases hi01 with rfl | rfl
        · have i0 : (((0 : Nat) : Int)) = 0 := rfl
          go_wp2_with (first
            | (guard_target =~ wpList _ _ _ (Oper.mk (some 27) _ _ _ _ _ :: _) _ _; go_must (refine wpList_loadDo rfl (.tmp 1) rfl g1 (by kernel_rfl) #[.int .i64 k, .string s3, .string t3, .int .i64 nn, .int .i64 mm, .slice A' m c', .slice A2 m2 c2] rfl (B2.out.still R.out) ?_))
            | (go_at_call 19; go_must (refine (DOES.out _ _ (.inl rfl) R.out).mono ?_; rintro e w3 ⟨rfl, s9⟩; have R3 := Lib.hid (R.out.trans s9); have e0 : w3.cell? ⟨g1, 0, none⟩ = some (.int .i64 k) := (B2.out.still R3.out).cell 0; have e1 : w3.cell? ⟨g1, 1, none⟩ = some (.string s3) := (B2.out.still R3.out).cell 1; clear s9))
            | (go_at_call 25; go_must (refine (all_no _ s3 _ (.inl rfl)).mono ?_; rintro e w4 ⟨rfl, rfl⟩))
            | (go_at_call 31; go_must (refine (size_no _ s3 _ (.inl rfl)).mono ?_; rintro e w4 ⟨rfl, rfl⟩))
            | (go_at_call 29; go_must (refine (power_no _ _ (.inl rfl)).mono ?_; rintro e w4 ⟨rfl, rfl⟩))
            | (go_at_call 17; go_must (refine (list_no _ _ (.inl rfl)).mono ?_; rintro e w4 ⟨rfl, rfl⟩))
            | (go_at_call 30; go_must (refine (used_no _ _ (.inl rfl)).mono ?_; rintro e w4 ⟨rfl, rfl⟩)))
          go_roundw
          case rel => exact ⟨1, by omega, by go_num, R3.out⟩
          case measure => simp [intOf]
        · have i1 : (((1 : Nat) : Int)) = 1 := rfl
          obtain ⟨wm, hwm⟩ : ∃ wm, wm = wr.alloc (.cells #[.int .i64 0, .map none, .map none, .slice none 0 0, .int .i64 0, .bool false, .bool false] 64) := ⟨_, rfl⟩
          obtain ⟨gm, hgm⟩ : ∃ gm, gm = wr.heap.size := ⟨_, rfl⟩
          have RM := Lib.hid (show Still w2 wm by rw [hwm]; exact R.out.trans ((Still.refl _).alloc (Nat.le_refl _) _))
          have NB := Lib.hid (show NoMed wm (.pointer (some ⟨gm, 0, none⟩)) from .inr ⟨gm, rfl, by rw [hwm, hgm]; exact Blk.new _ _ _⟩)
          have HWM := Lib.hid hwm
          have HGM := Lib.hid hgm
          clear hwm hgm
          go_wp2_with (first
            | (guard_target =~ wpList _ _ _ (Oper.mk _ (Op.box _ _) _ _ _ _ :: _) _ _; go_must (refine wpList_box_arr rfl 64 (.tmp 23) rfl (some 24) rfl #[.int .i64 0, .map none, .map none, .slice none 0 0, .int .i64 0, .bool false, .bool false] (by kernel_rfl) ?_; rw [← HWM.out, ← HGM.out]))
            | (guard_target =~ wpList _ _ _ (Oper.mk (some 27) _ _ _ _ _ :: _) _ _; go_must (refine wpList_loadDo rfl (.tmp 1) rfl g1 (by kernel_rfl) #[.int .i64 k, .string s3, .string t3, .int .i64 nn, .int .i64 mm, .slice A' m c', .slice A2 m2 c2] rfl (B2.out.still RM.out) ?_))
            | (go_at_call 19; go_must (refine (DOES.out _ _ NB.out RM.out).mono ?_; rintro e w3 ⟨rfl, s9⟩; have NB3 := Lib.hid (NoMed.still NB.out s9); have R3 := Lib.hid (RM.out.trans s9); have e0 : w3.cell? ⟨g1, 0, none⟩ = some (.int .i64 k) := (B2.out.still R3.out).cell 0; have e1 : w3.cell? ⟨g1, 1, none⟩ = some (.string s3) := (B2.out.still R3.out).cell 1; clear s9))
            | (go_at_call 25; go_must (refine (all_no _ s3 _ NB3.out).mono ?_; rintro e w4 ⟨rfl, rfl⟩))
            | (go_at_call 31; go_must (refine (size_no _ s3 _ NB3.out).mono ?_; rintro e w4 ⟨rfl, rfl⟩))
            | (go_at_call 29; go_must (refine (power_no _ _ NB3.out).mono ?_; rintro e w4 ⟨rfl, rfl⟩))
            | (go_at_call 17; go_must (refine (list_no _ _ NB3.out).mono ?_; rintro e w4 ⟨rfl, rfl⟩))
            | (go_at_call 30; go_must (refine (used_no _ _ NB3.out).mono ?_; rintro e w4 ⟨rfl, rfl⟩)))
          go_roundw
          case rel => exact ⟨2, by omega, by go_num, R3.out⟩
          case measure => simp [intOf]
    · obtain rfl : i = 2 := by omega
      have i2 : (((2 : Nat) : Int)) = 2 := rfl
      go_wp2_with (go_at_call 16; go_must (refine (lives_any _).mono ?_; rintro e w4 ⟨rfl, s4⟩))
      go_ret
      exact ⟨rfl, (S2.out.trans R.out).trans s4⟩
end Go.Proofs.Ytpjmokchaiaacaa
