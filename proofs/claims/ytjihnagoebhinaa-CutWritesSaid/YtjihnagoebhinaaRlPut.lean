/- Contracts: one byte more given to a roller, its window full or not. It proves no statement. -/
import Derived.Test.YtjihnagoebhinaaRlOps
import Derived.Test.YtjihnagoebhinaaLate
namespace Go.Proofs.Ytjihnagoebhinaa
open Go.RowKit
set_option linter.unusedVariables false
set_option linter.unusedSimpArgs false

theorem grownBy_drewA {w w' : World} {r : Option Nat} (h : w.grownBy w' r) (m : Nat) : w.grownBy (w'.drewN m) r := grownBy_drewN h m
set_option maxRecDepth 100000 in
set_option maxHeartbeats 1600000 in
theorem put_full {g a k n s c : Nat} {f R : Nat → Nat} (w : World) (h : RB w g f R a k n s) (hn : 0 < n) (hm : n ≤ 63) (hk : k = n) (ha : a < n) (hc : c < 256) (hs : s < 4294967296) (hR : ∀ i, i < 63 → R i < 256) (hf : ∀ i, i < 256 → f i < 4294967296) :
    Calls Try.prog 35 #[.pointer (some ⟨g, 0, none⟩), .int .u8 c] w fun e w' => e = .returned (.int .u32 (go1 s (f c) ^^^ rotl 32 (f (R a)) (n % 32) : Nat)) ∧ RB w' g f (fun j => if j = a then c else R j) ((a + 1) % n) (n) n (go1 s (f c) ^^^ rotl 32 (f (R a)) (n % 32)) ∧ w.grownBy w' (some g) := by
  have HW := Lib.hid (works_any w h hn hm)
  have c1 := h.sumc
  have c2 := h.wordc c hc
  have f1 := h.frozen 322
  have hx := hf c hc
  obtain ⟨x, hxx⟩ : ∃ x, x = f c := ⟨_, rfl⟩
  rw [← hxx] at hx c2 ⊢
  have hb := (behind_any s x w.drew hs hx).mono fun e w' h => (⟨h.1, h.2.symm⟩ : e = _ ∧ w' = w.drew)
  have hs1 := go1_lt hs hx
  obtain ⟨s1, hs1e⟩ : ∃ y, y = go1 s x := ⟨_, rfl⟩
  rw [← hs1e] at hb hs1 ⊢
  have z1 : (0 : Int) ≤ (c : Int) := by omega
  have z2 : (c : Int) < 256 := by omega
  have hd : RB w.drew g f R a k n s := h.still ((Still.refl w).drew)
  have cd := hd.sumc
  have fd := hd.frozen 322
  have h1 : RB (w.drew.setCell ⟨g, 322, none⟩ (.int .u32 (s1 : Nat))) g f R a k n s1 := (h.still ((Still.refl w).drew)).setSum s1
  have g1 : w.grownBy (w.drew.setCell ⟨g, 322, none⟩ (.int .u32 (s1 : Nat))) (some g) := (grownBy_drew (World.grownBy.refl w (some g))).trans (grownBy_set _ _ _ _)
  have CD := Lib.hid (And.intro cd fd)
  have HB := Lib.hid hb
  have H1 := Lib.hid (And.intro h1 g1)
  have HF := Lib.hid hf
  have HRR := Lib.hid hR
  have HS1 := Lib.hid hs1
  have HK := Lib.hid hk
  clear h hd cd fd hb h1 g1 hs1e hxx hf hR hs1 hk
  have hRa := HRR.out a (by omega)
  have hfa := HF.out (R a) hRa
  have hlv := fun W (hW : RB W g f R a k n s1) => leaving_any W hW hn hm ha hRa hfa
  have hq := rotl_lt 32 (f (R a)) (n % 32) hfa
  obtain ⟨q, hqe⟩ : ∃ q, q = rotl 32 (f (R a)) (n % 32) := ⟨_, rfl⟩
  rw [← hqe] at hq ⊢
  rw [← hqe] at hlv
  have hxo := u32_xor_nat s1 q HS1.out hq
  obtain ⟨s2, hs2⟩ : ∃ y, y = s1 ^^^ q := ⟨_, rfl⟩
  rw [← hs2] at hxo ⊢
  have HLV := Lib.hid hlv
  have HXO := Lib.hid hxo
  clear hlv hq hqe hs2 hRa hfa HRR HF hxo
  obtain ⟨a2, ha2⟩ : ∃ y, y = (a + 1) % n := ⟨_, rfl⟩
  rw [← ha2]
  have hmod : ((a : Int) + 1).tmod (n : Int) = (a2 : Int) := by rw [Int.tmod_eq_emod_of_nonneg (by omega), ha2]; simp
  have hal : a2 < n := by rw [ha2]; exact Nat.mod_lt _ hn
  have HMOD := Lib.hid (And.intro hmod hal)
  clear hmod ha2 hal
  go_enter Try.func35, Try.ntmps35
  go_wp2_with fail
  refine HW.out.mono ?_
  rintro e w1 ⟨rfl, rfl⟩
  clear HW
  go_wp2_with fail
  go_still_tail 12, (by kernel_rfl)
  repeat still_step
  still_call HB.out
  repeat still_step
  refine wpStill_nil ?_
  change wpList _ _ _ _ _ w1.drew
  clear c1 c2 f1 HB hx hs
  generalize w1.drew = wd at *
  obtain ⟨cd, fd⟩ := CD.out
  clear CD
  go_wp2_with fail
  generalize wd.setCell ⟨g, 322, none⟩ (.int .u32 (s1 : Nat)) = w2 at *
  clear cd fd
  have hfull := full_any w2 H1.out.1 hn hm (by have := HK.out; omega)
  rw [decide_eq_true HK.out] at hfull
  refine hfull.mono ?_
  rintro e w3 ⟨rfl, m3, rfl⟩
  clear hfull
  have h3 : RB (w2.drewN m3) g f R a k n s1 := H1.out.1.still (still_drewN (Still.refl _) m3)
  have g3 := grownBy_drewN H1.out.2 m3
  generalize w2.drewN m3 = w3 at *
  have H3 := Lib.hid (And.intro h3 g3)
  clear h3 g3 H1
  go_wp2_with fail
  have hxo := HXO.out
  refine wp_region_late (S := fun W => W.cell? ⟨g, 322, none⟩ = some (.int .u32 (s1 : Nat))) [7, 8, 9] (by kernel_rfl) (H3.out.1.still ((Still.refl _).drew)).sumc (fun hHeld => ?_)
  have h4 : RB w3.drew g f R a k n s1 := H3.out.1.still ((Still.refl _).drew)
  have g4 := grownBy_drew H3.out.2
  generalize w3.drew = w4 at *
  have H4 := Lib.hid (And.intro h4 g4)
  clear h4 g4 H3
  try simp only [Act.put, List.setIfInBounds_toArray, List.set_cons_zero, List.set_cons_succ]
  refine wpLate_pure (i := 0) (v := .pointer (some ⟨g, 0, none⟩)) rfl (by kernel_rfl) (by kernel_rfl) (by kernel_rfl) (by kernel_rfl) (fun _ _ _ h => h) (Or.inl ⟨by kernel_rfl, fun w _ => by go_simp⟩) ?_
  try simp only [Act.put, List.setIfInBounds_toArray, List.set_cons_zero, List.set_cons_succ]
  refine wpLate_pure (i := 1) (v := .pointer (some ⟨g, 0, none⟩)) rfl (by kernel_rfl) (by kernel_rfl) (by kernel_rfl) (by kernel_rfl) (fun _ _ _ h => h) (Or.inl ⟨by kernel_rfl, fun w _ => by go_simp⟩) ?_
  try simp only [Act.put, List.setIfInBounds_toArray, List.set_cons_zero, List.set_cons_succ]
  refine wpLate_pure (i := 2) (v := .pointer (some ⟨g, 322, none⟩)) rfl (by kernel_rfl) (by kernel_rfl) (by kernel_rfl) (by kernel_rfl) (fun _ _ _ h => h) (Or.inl ⟨by kernel_rfl, fun w _ => by go_simp⟩) ?_
  try simp only [Act.put, List.setIfInBounds_toArray, List.set_cons_zero, List.set_cons_succ]
  refine wpLate_take (i := 3) (v := .int .u32 (s1 : Nat)) [7, 8, 9] rfl (by kernel_rfl) (by kernel_rfl) (by kernel_rfl) (by kernel_rfl) (by kernel_rfl) (by decide) (fun _ _ _ h => h) (Or.inl ⟨by kernel_rfl, fun w hS => by go_simp⟩) (by assumption) (fun hHeld => ?_)
  try simp only [Act.put, List.setIfInBounds_toArray, List.set_cons_zero, List.set_cons_succ]
  refine wpLate_pure (i := 4) (v := .pointer (some ⟨g, 0, none⟩)) rfl (by kernel_rfl) (by kernel_rfl) (by kernel_rfl) (by kernel_rfl) (fun _ _ _ h => h) (Or.inl ⟨by kernel_rfl, fun w _ => by go_simp⟩) ?_
  try simp only [Act.put, List.setIfInBounds_toArray, List.set_cons_zero, List.set_cons_succ]
  refine wpLate_one (i := 5) (o := ⟨some 29, .call { callee := .value (.func 43), args := #[.tmp 28], argTypes := #[63] }, _, _, _, none⟩) (by kernel_rfl) rfl (fun K' hK' => ?_)
  go_simp
  go_wp2_with (go_at_call 43; refine (HLV.out _ H4.out.1).mono ?_; rintro e w5 ⟨rfl, m5, rfl⟩)
  have h5 : RB (w4.drewN m5) g f R a k n s1 := H4.out.1.still (still_drewN (Still.refl _) m5)
  have g5 := grownBy_drewN H4.out.2 m5
  generalize w4.drewN m5 = w5 at *
  have H5 := Lib.hid (And.intro h5 g5)
  clear h5 g5 H4
  refine hK'.out _ _ (fun _ _ => H5.out.1.sumc) ?_
  clear hK' K'
  try simp only [Act.put, List.setIfInBounds_toArray, List.set_cons_zero, List.set_cons_succ]
  refine wpLate_pure (i := 6) (v := .int .u32 (s2 : Nat)) rfl (by kernel_rfl) (by kernel_rfl) (by kernel_rfl) (by kernel_rfl) (fun _ _ _ h => h) (Or.inl ⟨by kernel_rfl, fun w _ => by go_simp⟩) ?_
  try simp only [Act.put, List.setIfInBounds_toArray, List.set_cons_zero, List.set_cons_succ]
  refine wpLate_pure (i := 7) (v := .pointer (some ⟨g, 0, none⟩)) rfl (by kernel_rfl) (by kernel_rfl) (by kernel_rfl) (by kernel_rfl) (fun _ _ _ h => h) (Or.inl ⟨by kernel_rfl, fun w _ => by go_simp⟩) ?_
  try simp only [Act.put, List.setIfInBounds_toArray, List.set_cons_zero, List.set_cons_succ]
  refine wpLate_pure (i := 8) (v := .pointer (some ⟨g, 322, none⟩)) rfl (by kernel_rfl) (by kernel_rfl) (by kernel_rfl) (by kernel_rfl) (fun _ _ _ h => h) (Or.inl ⟨by kernel_rfl, fun w _ => by go_simp⟩) ?_
  try simp only [Act.put, List.setIfInBounds_toArray, List.set_cons_zero, List.set_cons_succ]
  refine wpLate_one (i := 9) (o := ⟨none, .store 22 (.tmp 32) (.tmp 30), _, _, _, none⟩) (by kernel_rfl) rfl (fun K' hK' => ?_)
  rw [if_pos (by kernel_rfl)]
  have kc := H5.out.1.sumc
  have kf := H5.out.1.frozen 322
  with_reducible refine step_storeC w5 22 (.tmp 32) (.tmp 30) (by kernel_rfl) g 322 (.int .u32 (s2 : Nat)) (.int .u32 (s1 : Nat)) (by kernel_rfl) (by kernel_rfl) rfl (by kernel_rfl) kc kf ?_
  clear kc kf hHeld hxo
  have h6 := H5.out.1.setSum s2
  have g6 := H5.out.2.trans (grownBy_set w5 g 322 (.int .u32 (s2 : Nat)))
  generalize w5.setCell ⟨g, 322, none⟩ (.int .u32 (s2 : Nat)) = w6 at *
  have H6 := Lib.hid (And.intro h6 g6)
  clear h6 g6 H5
  refine hK'.out _ _ (fun _ hu => absurd hu (by decide)) ?_
  clear hK' K'
  try simp only [Act.put, List.setIfInBounds_toArray, List.set_cons_zero, List.set_cons_succ]
  refine wpLate_done (by kernel_rfl) ?_ _
  have h6 := H6.out.1
  have ca := h6.atc
  have za : (0 : Int) ≤ (a : Int) := by omega
  have zb : (a : Int) < 63 := by omega
  have hd6 := h6.still ((Still.refl w6).drew)
  have HL := Lib.hid (And.intro (hd6.lastc a (by omega)) (hd6.frozen (256 + a)))
  have h7 := hd6.setLast a c (by omega)
  have g7 := (grownBy_drew H6.out.2).trans (grownBy_set w6.drew g (256 + a) (.int .u8 (c : Nat)))
  have H7 := Lib.hid (And.intro h7 g7)
  clear h6 hd6 h7 g7 H6
  go_simp
  go_wp2_with fail
  go_still_tail 9, (by kernel_rfl)
  change wpList _ _ _ _ _ w6.drew
  clear ca
  generalize w6.drew = w7 at *
  obtain ⟨cl, fl⟩ := HL.out
  clear HL
  go_wp2_with fail
  generalize w7.setCell ⟨g, 256 + a, none⟩ (.int .u8 (c : Nat)) = w8 at *
  clear cl fl
  have h8 := H7.out.1
  have ca := h8.atc
  have cw := h8.winc
  have zn : ¬ (n : Int) = 0 := by omega
  have zw : IntKind.i64.wrap ((a : Int) + 1) = (a : Int) + 1 := by rw [IntKind.wrap_i64]; omega
  obtain ⟨hmod, hal⟩ := HMOD.out
  have zn2 : ¬ n = 0 := by omega
  have zw2 : IntKind.i64.wrap (a2 : Int) = (a2 : Int) := by rw [IntKind.wrap_i64]; omega
  have hd8 := h8.still ((Still.refl w8).drew)
  have HL := Lib.hid (And.intro hd8.atc (And.intro (hd8.frozen 319) hd8.sumc))
  have h9 := hd8.setAt a2
  have g9 := (grownBy_drew H7.out.2).trans (grownBy_set w8.drew g 319 (.int .i64 (a2 : Nat)))
  have H9 := Lib.hid (And.intro h9 g9)
  clear h8 hd8 h9 g9 H7
  go_still_tail 11, (by kernel_rfl)
  change wpList _ _ _ _ _ w8.drew
  clear ca cw
  generalize w8.drew = w9 at *
  obtain ⟨cl, fl, cs⟩ := HL.out
  clear HL
  go_wp2_with fail
  go_ret
  have h9 := H9.out.1
  rw [HK.out] at h9
  exact ⟨rfl, h9, H9.out.2⟩
set_option maxRecDepth 100000 in
set_option maxHeartbeats 1600000 in
theorem put_few {g a k n s c : Nat} {f R : Nat → Nat} (w : World) (h : RB w g f R a k n s) (hn : 0 < n) (hm : n ≤ 63) (hk : k < n) (ha : a < n) (hc : c < 256) (hs : s < 4294967296) (hR : ∀ i, i < 63 → R i < 256) (hf : ∀ i, i < 256 → f i < 4294967296) :
    Calls Try.prog 35 #[.pointer (some ⟨g, 0, none⟩), .int .u8 c] w fun e w' => e = .returned (.int .u32 (go1 s (f c) : Nat)) ∧ RB w' g f (fun j => if j = a then c else R j) ((a + 1) % n) (k + 1) n (go1 s (f c)) ∧ w.grownBy w' (some g) := by
  have HW := Lib.hid (works_any w h hn hm)
  have c1 := h.sumc
  have c2 := h.wordc c hc
  have f1 := h.frozen 322
  have hx := hf c hc
  obtain ⟨x, hxx⟩ : ∃ x, x = f c := ⟨_, rfl⟩
  rw [← hxx] at hx c2 ⊢
  have hb := (behind_any s x w.drew hs hx).mono fun e w' h => (⟨h.1, h.2.symm⟩ : e = _ ∧ w' = w.drew)
  have hs1 := go1_lt hs hx
  obtain ⟨s1, hs1e⟩ : ∃ y, y = go1 s x := ⟨_, rfl⟩
  rw [← hs1e] at hb hs1 ⊢
  have z1 : (0 : Int) ≤ (c : Int) := by omega
  have z2 : (c : Int) < 256 := by omega
  have hd : RB w.drew g f R a k n s := h.still ((Still.refl w).drew)
  have cd := hd.sumc
  have fd := hd.frozen 322
  have h1 : RB (w.drew.setCell ⟨g, 322, none⟩ (.int .u32 (s1 : Nat))) g f R a k n s1 := (h.still ((Still.refl w).drew)).setSum s1
  have g1 : w.grownBy (w.drew.setCell ⟨g, 322, none⟩ (.int .u32 (s1 : Nat))) (some g) := (grownBy_drew (World.grownBy.refl w (some g))).trans (grownBy_set _ _ _ _)
  have CD := Lib.hid (And.intro cd fd)
  have HB := Lib.hid hb
  have H1 := Lib.hid (And.intro h1 g1)
  have HF := Lib.hid hf
  have HRR := Lib.hid hR
  have HS1 := Lib.hid hs1
  have HK := Lib.hid hk
  clear h hd cd fd hb h1 g1 hs1e hxx hf hR hs1 hk
  clear HRR HF
  obtain ⟨a2, ha2⟩ : ∃ y, y = (a + 1) % n := ⟨_, rfl⟩
  rw [← ha2]
  have hmod : ((a : Int) + 1).tmod (n : Int) = (a2 : Int) := by rw [Int.tmod_eq_emod_of_nonneg (by omega), ha2]; simp
  have hal : a2 < n := by rw [ha2]; exact Nat.mod_lt _ hn
  have HMOD := Lib.hid (And.intro hmod hal)
  clear hmod ha2 hal
  go_enter Try.func35, Try.ntmps35
  go_wp2_with fail
  refine HW.out.mono ?_
  rintro e w1 ⟨rfl, rfl⟩
  clear HW
  go_wp2_with fail
  go_still_tail 12, (by kernel_rfl)
  repeat still_step
  still_call HB.out
  repeat still_step
  refine wpStill_nil ?_
  change wpList _ _ _ _ _ w1.drew
  clear c1 c2 f1 HB hx hs
  generalize w1.drew = wd at *
  obtain ⟨cd, fd⟩ := CD.out
  clear CD
  go_wp2_with fail
  generalize wd.setCell ⟨g, 322, none⟩ (.int .u32 (s1 : Nat)) = w2 at *
  clear cd fd
  have hfull := full_any w2 H1.out.1 hn hm (by have := HK.out; omega)
  rw [decide_eq_false (by have := HK.out; omega)] at hfull
  refine hfull.mono ?_
  rintro e w3 ⟨rfl, m3, rfl⟩
  clear hfull
  have h3 : RB (w2.drewN m3) g f R a k n s1 := H1.out.1.still (still_drewN (Still.refl _) m3)
  have g3 := grownBy_drewN H1.out.2 m3
  generalize w2.drewN m3 = w3 at *
  have hk1 : IntKind.i64.wrap ((k : Int) + 1) = ((k + 1 : Nat) : Int) := by have := HK.out; rw [IntKind.wrap_i64]; omega
  have ck := h3.keptc
  have fk := h3.frozen 320
  have h6 := h3.setKept (k + 1)
  have g6 := g3.trans (grownBy_set w3 g 320 (.int .i64 ((k + 1 : Nat) : Int)))
  rw [show ((k + 1 : Nat) : Int) = (k : Int) + 1 by omega] at h6 g6 hk1
  have H6 := Lib.hid (And.intro h6 g6)
  clear h3 g3 h6 g6 H1
  go_wp2_with fail
  generalize w3.setCell ⟨g, 320, none⟩ (.int .i64 ((k : Int) + 1)) = w6 at *
  clear ck fk
  have h6 := H6.out.1
  have ca := h6.atc
  have za : (0 : Int) ≤ (a : Int) := by omega
  have zb : (a : Int) < 63 := by omega
  have hd6 := h6.still ((Still.refl w6).drew)
  have HL := Lib.hid (And.intro (hd6.lastc a (by omega)) (hd6.frozen (256 + a)))
  have h7 := hd6.setLast a c (by omega)
  have g7 := (grownBy_drew H6.out.2).trans (grownBy_set w6.drew g (256 + a) (.int .u8 (c : Nat)))
  have H7 := Lib.hid (And.intro h7 g7)
  clear h6 hd6 h7 g7 H6
  go_still_tail 9, (by kernel_rfl)
  change wpList _ _ _ _ _ w6.drew
  clear ca
  generalize w6.drew = w7 at *
  obtain ⟨cl, fl⟩ := HL.out
  clear HL
  go_wp2_with fail
  generalize w7.setCell ⟨g, 256 + a, none⟩ (.int .u8 (c : Nat)) = w8 at *
  clear cl fl
  have h8 := H7.out.1
  have ca := h8.atc
  have cw := h8.winc
  have zn : ¬ (n : Int) = 0 := by omega
  have zw : IntKind.i64.wrap ((a : Int) + 1) = (a : Int) + 1 := by rw [IntKind.wrap_i64]; omega
  obtain ⟨hmod, hal⟩ := HMOD.out
  have zn2 : ¬ n = 0 := by omega
  have zw2 : IntKind.i64.wrap (a2 : Int) = (a2 : Int) := by rw [IntKind.wrap_i64]; omega
  have hd8 := h8.still ((Still.refl w8).drew)
  have HL := Lib.hid (And.intro hd8.atc (And.intro (hd8.frozen 319) hd8.sumc))
  have h9 := hd8.setAt a2
  have g9 := (grownBy_drew H7.out.2).trans (grownBy_set w8.drew g 319 (.int .i64 (a2 : Nat)))
  have H9 := Lib.hid (And.intro h9 g9)
  clear h8 hd8 h9 g9 H7
  go_still_tail 11, (by kernel_rfl)
  change wpList _ _ _ _ _ w8.drew
  clear ca cw
  generalize w8.drew = w9 at *
  obtain ⟨cl, fl, cs⟩ := HL.out
  clear HL
  go_wp2_with fail
  go_ret
  exact ⟨rfl, H9.out.1, H9.out.2⟩
end Go.Proofs.Ytjihnagoebhinaa
