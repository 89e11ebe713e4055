/- Contracts: the sum of a front, and of a piece, out of a text's marks. It proves no statement. -/
import Derived.Test.YtnhkabohccbglaaDoorFrMark
import Derived.StillTailTactics
namespace Go.Proofs.YtnhkabohccbglaaDoor
open Go.RowKit
set_option linter.unusedVariables false
set_option linter.unusedSimpArgs false

/-- The marks of a text, wherever they lie. -/
structure Marks (W : World) (B : Nat) (b o n c gs cs : Nat) (l : List UInt8) : Prop where
  reads : Reads W B (some ⟨b, o, none⟩) n l
  low : B ≤ W.heap.size
  sums : ∀ j, j < n / 64 + 1 → W.cell? ⟨gs, j, none⟩ = some (.int .u32 (crcSum (l.take (64 * j)) : Nat))
  lt : gs < W.heap.size
  fit : n ≤ c ∧ c ≤ 9223372036854775807 ∧ n ≤ 1048576
  tabs : Tabs W
theorem Marks.still {W W' : World} {B b o n c gs cs : Nat} {l : List UInt8} (h : Marks W B b o n c gs cs l) (s : Still W W') : Marks W' B b o n c gs cs l :=
  ⟨h.reads.still h.low s, Nat.le_trans h.low s.size, fun j hj => (s.cell (p := ⟨gs, j, none⟩) h.lt).trans (h.sums j hj), Nat.lt_of_lt_of_le h.lt s.size, h.fit, h.tabs.still s⟩

set_option maxRecDepth 100000 in
set_option maxHeartbeats 3200000 in
theorem front_any {w : World} {B b o n c gs cs : Nat} {l : List UInt8} (M : Marks w B b o n c gs cs l) (m : Nat) (hm : m ≤ n) :
    Calls Tryd.prog 51 #[.agg #[.slice (some ⟨b, o, none⟩) n c, .slice (some ⟨gs, 0, none⟩) (n / 64 + 1) cs], .int .i64 m] w fun e w' => e = .returned (.int .u32 (crcSum (l.take m) : Nat)) ∧ Still w w' := by
  obtain ⟨k, hk⟩ : ∃ k, k = m / 64 := ⟨_, rfl⟩
  obtain ⟨kk, hkk⟩ : ∃ kk, kk = 64 * k := ⟨_, rfl⟩
  obtain ⟨K, hK⟩ : ∃ K, K = n / 64 + 1 := ⟨_, rfl⟩
  obtain ⟨y, hy⟩ : ∃ y, y = crcSum (l.take kk) := ⟨_, rfl⟩
  obtain ⟨wb, hwb⟩ : ∃ wb, wb = w.alloc (.cells #[.slice (some ⟨b, o, none⟩) n c, .slice (some ⟨gs, 0, none⟩) (n / 64 + 1) cs] 77) := ⟨_, rfl⟩
  have SB := Lib.hid (show Still w wb by rw [hwb]; exact (Still.refl w).alloc (Nat.le_refl _) _)
  have BB := Lib.hid (show Blk wb w.heap.size 77 #[.slice (some ⟨b, o, none⟩) n c, .slice (some ⟨gs, 0, none⟩) (n / 64 + 1) cs] by rw [hwb]; exact Blk.new _ _ _)
  have MM := Lib.hid (fun W (s : Still w W) => M.still s)
  have c2 : wb.cell? ⟨gs, k, none⟩ = some (.int .u32 (y : Int)) := by
    have := (MM.out wb SB.out).sums k (by omega)
    rw [this, hy, hkk]
  have c0 : wb.cell? ⟨w.heap.size, 0, none⟩ = some (.slice (some ⟨b, o, none⟩) n c) := BB.out.cell 0
  have c1 : wb.cell? ⟨w.heap.size, 1, none⟩ = some (.slice (some ⟨gs, 0, none⟩) K cs) := by rw [hK]; exact BB.out.cell 1
  have hylt : y < 4294967296 := by rw [hy]; exact crcSum_lt _
  have hf := M.fit
  obtain ⟨g, hg⟩ : ∃ g, g = w.heap.size := ⟨_, rfl⟩
  rw [← hg] at c0 c1
  rw [← hK] at hwb ⊢
  obtain ⟨z, hz⟩ : ∃ z, z = crcSum (l.take m) := ⟨_, rfl⟩
  have key : (c = kk ∧ m = kk ∧ Hid (∀ W, Still w W → Calls Tryd.prog 45 #[.int .u32 y, .slice (some ⟨b, o, none⟩) 0 0] W fun e w' => e = .returned (.int .u32 (z : Int)) ∧ Still W w')) ∨ (¬ c = kk ∧ Hid (∀ W, Still w W → Calls Tryd.prog 45 #[.int .u32 y, .slice (some ⟨b, o + kk, none⟩) (m - kk) (c - kk)] W fun e w' => e = .returned (.int .u32 (z : Int)) ∧ Still W w')) := by
    have hfr := crcSum_front l kk m (by omega)
    rw [← hy, ← hz] at hfr
    by_cases hc : c = kk
    · refine .inl ⟨hc, by omega, fun W s => ?_⟩
      have h := crcadd_any y (some ⟨b, o, none⟩) 0 0 [] W B (MM.out W s).tabs hylt Reads.nil0 (MM.out W s).low (by omega)
      have e : crcAdd y [] = z := by
        rw [← hfr]
        have : (l.take m).drop kk = [] := List.drop_of_length_le (by rw [List.length_take]; omega)
        rw [this]
      rw [← e]
      exact h
    · refine .inr ⟨hc, fun W s => ?_⟩
      have h := crcadd_any y (some ⟨b, o + kk, none⟩) (m - kk) (c - kk) ((l.take m).drop kk) W B (MM.out W s).tabs hylt (by
        have h := ((MM.out W s).reads.takek (k := m) hm).dropk (k := kk) (by omega)
        simpa [Addr.add_lit] using h) (MM.out W s).low (by omega)
      rw [hfr] at h
      exact h
  rw [← hz]
  clear hz
  have i3 : IntKind.i64.wrap (kk : Int) = (kk : Int) := by rw [IntKind.wrap_i64]; omega
  have k9 : k ≤ 1048576 := by omega
  have kk9 : kk ≤ 1048576 := by omega
  have m9 : m ≤ 1048576 := by omega
  have i0 : (m : Int) / 64 = (k : Int) := by omega
  have i1 : IntKind.i64.wrap ((k : Int) * 64) = (kk : Int) := by rw [IntKind.wrap_i64]; omega
  have i2 : (k : Int) * 64 = (kk : Int) := by omega
  have z1 : (k : Int) < (K : Int) := by omega
  have z2 : (kk : Int) ≤ (m : Int) := by omega
  have z3 : (m : Int) ≤ (c : Int) := by omega
  have hgl : gs < wb.heap.size := by have := M.lt; have := SB.out.size; omega
  have HWB := Lib.hid (show w.alloc (.cells #[.slice (some ⟨b, o, none⟩) n c, .slice (some ⟨gs, 0, none⟩) K cs] 77) = wb from hwb.symm)
  have HG := Lib.hid hg
  clear M hk hkk hK hy hwb hf hm hylt hg
  have FF := Lib.hid (fun W (s : Still wb W) => (show W.cell? ⟨g, 0, none⟩ = some (.slice (some ⟨b, o, none⟩) n c) ∧ W.cell? ⟨g, 1, none⟩ = some (.slice (some ⟨gs, 0, none⟩) K cs) ∧ W.cell? ⟨gs, k, none⟩ = some (.int .u32 (y : Int)) from
    ⟨(s.cell (p := ⟨g, 0, none⟩) (World.block_lt_of_cell? wb _ c0)).trans c0, (s.cell (p := ⟨g, 1, none⟩) (World.block_lt_of_cell? wb _ c1)).trans c1, (s.cell (p := ⟨gs, k, none⟩) hgl).trans c2⟩))
  clear c0 c1 c2 hgl
  rcases key with ⟨hc, hmk, AD⟩ | ⟨hc, AD⟩
  · subst hc; subst hmk
    go_enter Tryd.func51, Tryd.ntmps51
    go_upto_region 1 with fail
    rw [HWB.out, ← HG.out]
    go_upto_region 2 with fail
    refine wp_region_held_drew (S := fun W => W.cell? ⟨g, 0, none⟩ = some (.slice (some ⟨b, o, none⟩) n m) ∧ W.cell? ⟨g, 1, none⟩ = some (.slice (some ⟨gs, 0, none⟩) K cs) ∧ W.cell? ⟨gs, k, none⟩ = some (.int .u32 (y : Int))) (by kernel_rfl) (FF.out _ ((Still.refl _).drew)) (fun hHeld => ?_)
    obtain ⟨wa, hwa⟩ : ∃ wa, wa = wb.drew := ⟨_, rfl⟩
    have SA := Lib.hid (show Still wb wa by rw [hwa]; exact (Still.refl _).drew)
    try rw [← hwa] at hHeld
    rw [← hwa]
    clear hwa
    try simp only [Act.put, List.setIfInBounds_toArray, List.set_cons_zero, List.set_cons_succ]
    refine wpAnyH_take (i := 0) (v := .pointer (some ⟨g, 1, none⟩)) rfl (by kernel_rfl) (by kernel_rfl) (by kernel_rfl) (fun _ _ _ h => h) (Or.inl ⟨by kernel_rfl, fun W hS => by obtain ⟨h0, h1, h2⟩ := hS; go_simp⟩) (by assumption) ?_
    try simp only [Act.put, List.setIfInBounds_toArray, List.set_cons_zero, List.set_cons_succ]
    refine wpAnyH_take (i := 1) (v := .slice (some ⟨gs, 0, none⟩) K cs) rfl (by kernel_rfl) (by kernel_rfl) (by kernel_rfl) (fun _ _ _ h => h) (Or.inl ⟨by kernel_rfl, fun W hS => by obtain ⟨h0, h1, h2⟩ := hS; go_simp⟩) (by assumption) ?_
    try simp only [Act.put, List.setIfInBounds_toArray, List.set_cons_zero, List.set_cons_succ]
    refine wpAnyH_take (i := 2) (v := .int .i64 (k : Int)) rfl (by kernel_rfl) (by kernel_rfl) (by kernel_rfl) (fun _ _ _ h => h) (Or.inl ⟨by kernel_rfl, fun W hS => by obtain ⟨h0, h1, h2⟩ := hS; go_simp⟩) (by assumption) ?_
    try simp only [Act.put, List.setIfInBounds_toArray, List.set_cons_zero, List.set_cons_succ]
    refine wpAnyH_take (i := 3) (v := .pointer (some ⟨gs, k, none⟩)) rfl (by kernel_rfl) (by kernel_rfl) (by kernel_rfl) (fun _ _ _ h => h) (Or.inl ⟨by kernel_rfl, fun W hS => by obtain ⟨h0, h1, h2⟩ := hS; go_simp⟩) (by assumption) ?_
    try simp only [Act.put, List.setIfInBounds_toArray, List.set_cons_zero, List.set_cons_succ]
    refine wpAnyH_take (i := 4) (v := .int .u32 (y : Int)) rfl (by kernel_rfl) (by kernel_rfl) (by kernel_rfl) (fun _ _ _ h => h) (Or.inl ⟨by kernel_rfl, fun W hS => by obtain ⟨h0, h1, h2⟩ := hS; go_simp⟩) (by assumption) ?_
    try simp only [Act.put, List.setIfInBounds_toArray, List.set_cons_zero, List.set_cons_succ]
    refine wpAnyH_take (i := 5) (v := .pointer (some ⟨g, 0, none⟩)) rfl (by kernel_rfl) (by kernel_rfl) (by kernel_rfl) (fun _ _ _ h => h) (Or.inl ⟨by kernel_rfl, fun W hS => by obtain ⟨h0, h1, h2⟩ := hS; go_simp⟩) (by assumption) ?_
    try simp only [Act.put, List.setIfInBounds_toArray, List.set_cons_zero, List.set_cons_succ]
    refine wpAnyH_take (i := 6) (v := .slice (some ⟨b, o, none⟩) n m) rfl (by kernel_rfl) (by kernel_rfl) (by kernel_rfl) (fun _ _ _ h => h) (Or.inl ⟨by kernel_rfl, fun W hS => by obtain ⟨h0, h1, h2⟩ := hS; go_simp⟩) (by assumption) ?_
    try simp only [Act.put, List.setIfInBounds_toArray, List.set_cons_zero, List.set_cons_succ]
    refine wpAnyH_take (i := 7) (v := .int .i64 (k : Int)) rfl (by kernel_rfl) (by kernel_rfl) (by kernel_rfl) (fun _ _ _ h => h) (Or.inl ⟨by kernel_rfl, fun W hS => by obtain ⟨h0, h1, h2⟩ := hS; go_simp⟩) (by assumption) ?_
    try simp only [Act.put, List.setIfInBounds_toArray, List.set_cons_zero, List.set_cons_succ]
    refine wpAnyH_take (i := 8) (v := .int .i64 (m : Int)) rfl (by kernel_rfl) (by kernel_rfl) (by kernel_rfl) (fun _ _ _ h => h) (Or.inl ⟨by kernel_rfl, fun W hS => by obtain ⟨h0, h1, h2⟩ := hS; go_simp⟩) (by assumption) ?_
    try simp only [Act.put, List.setIfInBounds_toArray, List.set_cons_zero, List.set_cons_succ]
    refine wpAnyH_take (i := 9) (v := .int .i64 (m : Int)) rfl (by kernel_rfl) (by kernel_rfl) (by kernel_rfl) (fun _ _ _ h => h) (Or.inl ⟨by kernel_rfl, fun W hS => by obtain ⟨h0, h1, h2⟩ := hS; go_simp⟩) (by assumption) ?_
    try simp only [Act.put, List.setIfInBounds_toArray, List.set_cons_zero, List.set_cons_succ]
    refine wpAnyH_take (i := 10) (v := .slice (some ⟨b, o, none⟩) 0 0) rfl (by kernel_rfl) (by kernel_rfl) (by kernel_rfl) (fun _ _ _ h => h) (Or.inl ⟨by kernel_rfl, fun W hS => by obtain ⟨h0, h1, h2⟩ := hS; go_simp⟩) (by assumption) ?_
    try simp only [Act.put, List.setIfInBounds_toArray, List.set_cons_zero, List.set_cons_succ]
    refine wpAnyH_ready (rs := [11]) (by kernel_rfl) (by simp) ?_
    refine AllReadyH.cons (o := ⟨some 19, .call { callee := .value (.func 45), args := #[.tmp 12, .tmp 18], argTypes := #[57, 24] }, _, _, _, none⟩) rfl (fun K' hK' => ?_) AllReadyH.nil
    have HK' := Lib.hid hK'
    clear hK'
    go_simp
    go_wp2_with (go_at_call 45; refine (AD.out _ (Still.trans SB.out SA.out)).mono ?_; rintro e w2 ⟨rfl, s2⟩; have S2 := Lib.hid (SA.out.trans s2); clear s2)
    refine HK'.out.out _ _ (FF.out _ S2.out) (fun hHeld => ?_)
    clear HK' K'
    try simp only [Act.put, List.setIfInBounds_toArray, List.set_cons_zero, List.set_cons_succ]
    refine wpAnyH_take (i := 12) (v := .int .u32 (z : Int)) rfl (by kernel_rfl) (by kernel_rfl) (by kernel_rfl) (fun _ _ _ h => h) (Or.inl ⟨by kernel_rfl, fun W hS => by obtain ⟨h0, h1, h2⟩ := hS; go_simp⟩) (by assumption) ?_
    try simp only [Act.put, List.setIfInBounds_toArray, List.set_cons_zero, List.set_cons_succ]
    refine wpAnyH_done (by kernel_rfl) ?_ _
    have S3 := Lib.hid (Still.trans SB.out S2.out)
    clear FF SA S2 hHeld AD MM i0 i1 i2 i3 z1 z2 z3 k9 kk9 m9
    go_simp
    go_wp2_with fail
    go_ret
    exact ⟨rfl, S3.out⟩
  · have hc2 := hc
    go_enter Tryd.func51, Tryd.ntmps51
    go_upto_region 1 with fail
    rw [HWB.out, ← HG.out]
    go_upto_region 2 with fail
    refine wp_region_held_drew (S := fun W => W.cell? ⟨g, 0, none⟩ = some (.slice (some ⟨b, o, none⟩) n c) ∧ W.cell? ⟨g, 1, none⟩ = some (.slice (some ⟨gs, 0, none⟩) K cs) ∧ W.cell? ⟨gs, k, none⟩ = some (.int .u32 (y : Int))) (by kernel_rfl) (FF.out _ ((Still.refl _).drew)) (fun hHeld => ?_)
    obtain ⟨wa, hwa⟩ : ∃ wa, wa = wb.drew := ⟨_, rfl⟩
    have SA := Lib.hid (show Still wb wa by rw [hwa]; exact (Still.refl _).drew)
    try rw [← hwa] at hHeld
    rw [← hwa]
    clear hwa
    try simp only [Act.put, List.setIfInBounds_toArray, List.set_cons_zero, List.set_cons_succ]
    refine wpAnyH_take (i := 0) (v := .pointer (some ⟨g, 1, none⟩)) rfl (by kernel_rfl) (by kernel_rfl) (by kernel_rfl) (fun _ _ _ h => h) (Or.inl ⟨by kernel_rfl, fun W hS => by obtain ⟨h0, h1, h2⟩ := hS; go_simp⟩) (by assumption) ?_
    try simp only [Act.put, List.setIfInBounds_toArray, List.set_cons_zero, List.set_cons_succ]
    refine wpAnyH_take (i := 1) (v := .slice (some ⟨gs, 0, none⟩) K cs) rfl (by kernel_rfl) (by kernel_rfl) (by kernel_rfl) (fun _ _ _ h => h) (Or.inl ⟨by kernel_rfl, fun W hS => by obtain ⟨h0, h1, h2⟩ := hS; go_simp⟩) (by assumption) ?_
    try simp only [Act.put, List.setIfInBounds_toArray, List.set_cons_zero, List.set_cons_succ]
    refine wpAnyH_take (i := 2) (v := .int .i64 (k : Int)) rfl (by kernel_rfl) (by kernel_rfl) (by kernel_rfl) (fun _ _ _ h => h) (Or.inl ⟨by kernel_rfl, fun W hS => by obtain ⟨h0, h1, h2⟩ := hS; go_simp⟩) (by assumption) ?_
    try simp only [Act.put, List.setIfInBounds_toArray, List.set_cons_zero, List.set_cons_succ]
    refine wpAnyH_take (i := 3) (v := .pointer (some ⟨gs, k, none⟩)) rfl (by kernel_rfl) (by kernel_rfl) (by kernel_rfl) (fun _ _ _ h => h) (Or.inl ⟨by kernel_rfl, fun W hS => by obtain ⟨h0, h1, h2⟩ := hS; go_simp⟩) (by assumption) ?_
    try simp only [Act.put, List.setIfInBounds_toArray, List.set_cons_zero, List.set_cons_succ]
    refine wpAnyH_take (i := 4) (v := .int .u32 (y : Int)) rfl (by kernel_rfl) (by kernel_rfl) (by kernel_rfl) (fun _ _ _ h => h) (Or.inl ⟨by kernel_rfl, fun W hS => by obtain ⟨h0, h1, h2⟩ := hS; go_simp⟩) (by assumption) ?_
    try simp only [Act.put, List.setIfInBounds_toArray, List.set_cons_zero, List.set_cons_succ]
    refine wpAnyH_take (i := 5) (v := .pointer (some ⟨g, 0, none⟩)) rfl (by kernel_rfl) (by kernel_rfl) (by kernel_rfl) (fun _ _ _ h => h) (Or.inl ⟨by kernel_rfl, fun W hS => by obtain ⟨h0, h1, h2⟩ := hS; go_simp⟩) (by assumption) ?_
    try simp only [Act.put, List.setIfInBounds_toArray, List.set_cons_zero, List.set_cons_succ]
    refine wpAnyH_take (i := 6) (v := .slice (some ⟨b, o, none⟩) n c) rfl (by kernel_rfl) (by kernel_rfl) (by kernel_rfl) (fun _ _ _ h => h) (Or.inl ⟨by kernel_rfl, fun W hS => by obtain ⟨h0, h1, h2⟩ := hS; go_simp⟩) (by assumption) ?_
    try simp only [Act.put, List.setIfInBounds_toArray, List.set_cons_zero, List.set_cons_succ]
    refine wpAnyH_take (i := 7) (v := .int .i64 (k : Int)) rfl (by kernel_rfl) (by kernel_rfl) (by kernel_rfl) (fun _ _ _ h => h) (Or.inl ⟨by kernel_rfl, fun W hS => by obtain ⟨h0, h1, h2⟩ := hS; go_simp⟩) (by assumption) ?_
    try simp only [Act.put, List.setIfInBounds_toArray, List.set_cons_zero, List.set_cons_succ]
    refine wpAnyH_take (i := 8) (v := .int .i64 (kk : Int)) rfl (by kernel_rfl) (by kernel_rfl) (by kernel_rfl) (fun _ _ _ h => h) (Or.inl ⟨by kernel_rfl, fun W hS => by obtain ⟨h0, h1, h2⟩ := hS; go_simp⟩) (by assumption) ?_
    try simp only [Act.put, List.setIfInBounds_toArray, List.set_cons_zero, List.set_cons_succ]
    refine wpAnyH_take (i := 9) (v := .int .i64 (m : Int)) rfl (by kernel_rfl) (by kernel_rfl) (by kernel_rfl) (fun _ _ _ h => h) (Or.inl ⟨by kernel_rfl, fun W hS => by obtain ⟨h0, h1, h2⟩ := hS; go_simp⟩) (by assumption) ?_
    try simp only [Act.put, List.setIfInBounds_toArray, List.set_cons_zero, List.set_cons_succ]
    refine wpAnyH_take (i := 10) (v := .slice (some ⟨b, o + kk, none⟩) (m - kk) (c - kk)) rfl (by kernel_rfl) (by kernel_rfl) (by kernel_rfl) (fun _ _ _ h => h) (Or.inl ⟨by kernel_rfl, fun W hS => by obtain ⟨h0, h1, h2⟩ := hS; go_simp⟩) (by assumption) ?_
    try simp only [Act.put, List.setIfInBounds_toArray, List.set_cons_zero, List.set_cons_succ]
    refine wpAnyH_ready (rs := [11]) (by kernel_rfl) (by simp) ?_
    refine AllReadyH.cons (o := ⟨some 19, .call { callee := .value (.func 45), args := #[.tmp 12, .tmp 18], argTypes := #[57, 24] }, _, _, _, none⟩) rfl (fun K' hK' => ?_) AllReadyH.nil
    have HK' := Lib.hid hK'
    clear hK'
    go_simp
    go_wp2_with (go_at_call 45; refine (AD.out _ (Still.trans SB.out SA.out)).mono ?_; rintro e w2 ⟨rfl, s2⟩; have S2 := Lib.hid (SA.out.trans s2); clear s2)
    refine HK'.out.out _ _ (FF.out _ S2.out) (fun hHeld => ?_)
    clear HK' K'
    try simp only [Act.put, List.setIfInBounds_toArray, List.set_cons_zero, List.set_cons_succ]
    refine wpAnyH_take (i := 12) (v := .int .u32 (z : Int)) rfl (by kernel_rfl) (by kernel_rfl) (by kernel_rfl) (fun _ _ _ h => h) (Or.inl ⟨by kernel_rfl, fun W hS => by obtain ⟨h0, h1, h2⟩ := hS; go_simp⟩) (by assumption) ?_
    try simp only [Act.put, List.setIfInBounds_toArray, List.set_cons_zero, List.set_cons_succ]
    refine wpAnyH_done (by kernel_rfl) ?_ _
    have S3 := Lib.hid (Still.trans SB.out S2.out)
    clear FF SA S2 hHeld AD MM i0 i1 i2 i3 z1 z2 z3 k9 kk9 m9
    go_simp
    go_wp2_with fail
    go_ret
    exact ⟨rfl, S3.out⟩
end Go.Proofs.YtnhkabohccbglaaDoor
