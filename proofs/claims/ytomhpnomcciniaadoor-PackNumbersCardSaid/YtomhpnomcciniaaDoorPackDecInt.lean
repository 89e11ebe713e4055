/- Contract: Decode of a number's bytes. It proves no statement. -/
import Derived.Test.YtomhpnomcciniaaDoorPackRdInt
namespace Go.Proofs.YtomhpnomcciniaaDoor
open Go.RowKit
set_option linter.unusedVariables false
set_option linter.unusedSimpArgs false

theorem Live.more {w : World} {lo B B' g : Nat} {A : Option Addr} {n c : Nat} {l : List UInt8} {x : Int} (h : Live w lo B g A n c l x) (hB : B ≤ B') : Live w lo B' g A n c l x :=
  ⟨h.blk, h.low, Nat.lt_of_lt_of_le h.high hB, h.reads.more hB, h.mine, h.fit, h.cap, h.nil⟩
theorem rd_end {w : World} {lo B h g : Nat} {l : List UInt8} (r : Rd w lo B h g l 0) :
    Calls Tryd.prog 31 #[.pointer (some ⟨g, 0, none⟩)] w fun e w' => e = .returned (.int .i64 (if l = [] then 0 else 6)) ∧ w = w' := by
  obtain ⟨A, n, c, lv⟩ := r.live
  refine (end_live lv).mono ?_
  rintro e w' ⟨rfl, rfl⟩
  refine ⟨?_, rfl⟩
  have hn := lv.reads.1
  congr 2
  unfold endOf
  by_cases hl : l = []
  · subst hl
    simp at hn
    subst hn
    simp
  · have : 0 < n := by
      rcases l with _ | ⟨a, r⟩
      · exact absurd rfl hl
      · simp at hn; omega
    rw [if_neg hl]
    simp
    omega

set_option maxRecDepth 100000 in
set_option maxHeartbeats 1600000 in
theorem decode_int (x : Int) (h1 : -9223372036854775808 ≤ x) (h2 : x ≤ 9223372036854775807) (A : Option Addr) (n c : Nat) (w : World) (B : Nat) (hr : Reads w B A n (encI x)) (hB : B ≤ w.heap.size) (hA : A = none → n = 0 ∧ c = 0) :
    Calls Tryd.prog 18 #[.slice A n c] w fun e w' => e = .returned (.tuple #[.agg (cellsI x), .int .i64 0]) ∧ Still w w' := by
  have hn : n ≤ 9 := by have := hr.1; rw [encI_length] at this; have := bh_le (nt x); omega
  obtain ⟨wA, hA'⟩ : ∃ wA, wA = w.alloc (.cells cellsZ 26) := ⟨_, rfl⟩
  have sA : Still w wA := by rw [hA']; exact (Still.refl w).alloc (Nat.le_refl _) _
  have bA : Blk wA w.heap.size 26 cellsZ := by rw [hA']; exact Blk.new _ _ _
  have OP := Lib.hid (open_any A n c _ wA B (hr.still hB sA) (Nat.le_trans hB sA.size) (by omega) hA)
  have RV : Hid (∀ (w : World) (lo B h g : Nat), Rd w lo B h g (encI x ++ []) 0 → Calls Tryd.prog 30 #[.pointer (some ⟨h, 0, none⟩), .int .i64 1] w fun e w' => e = .returned (.tuple #[.agg #[.int .i64 3, .int .i64 x, .slice none 0 0, .string ⟨#[]⟩, .slice none 0 0, .slice none 0 0], .int .i64 0]) ∧ Rd w' lo B h g [] 0 ∧ w.grownBy w' (some g)) := Lib.hid fun w lo B h g r => rvalue_int x 1 h1 h2 (by omega) r
  rw [List.append_nil] at RV
  obtain ⟨E, hE⟩ : ∃ E, E = encI x := ⟨_, rfl⟩
  rw [← hE] at OP RV
  obtain ⟨fs, hu⟩ := underValue
  have HU := Lib.hid hu
  have SA := Lib.hid sA
  have BA := Lib.hid bA
  have HA := Lib.hid hA'
  have d1 : ¬ 65536 < (n : Int) := by omega
  have HN := Lib.hid hn
  clear hA' sA bA hE hu h1 h2 hr hA hB hn
  go_enter Tryd.func18, Tryd.ntmps18
  go_upto_region 1 with fail
  rw [show (w.alloc (.cells #[.int .i64 0, .int .i64 0, .slice none 0 0, .string ⟨#[]⟩, .slice none 0 0, .slice none 0 0] 26)) = wA from HA.out.symm]
  go_wp2_with fail
  refine OP.out.mono ?_
  rintro e w1 ⟨⟨g, A', c', rfl, lv1⟩, s1⟩
  obtain ⟨h, hh⟩ : ∃ h, h = w1.heap.size := ⟨_, rfl⟩
  obtain ⟨w2, hw2⟩ : ∃ w2, w2 = w1.alloc (.cells #[.pointer (some ⟨g, 0, none⟩)] 61) := ⟨_, rfl⟩
  have s2 : Still w1 w2 := by rw [hw2]; exact (Still.refl w1).alloc (Nat.le_refl _) _
  have hz2 : w2.heap.size = w1.heap.size + 1 := by rw [hw2]; simp
  have r2 : Rd w2 wA.heap.size w2.heap.size h g E 0 := by
    refine ⟨by rw [hh]; exact s1.size, by omega, by have := lv1.high; omega, lv1.low, Nat.le_refl _, ?_, A', n, c', ((lv1.below (s2.mono (Nat.le_refl _))).more (by omega))⟩
    rw [hw2, hh]; exact Blk.new _ _ _
  have S2 := Lib.hid (SA.out.trans (s1.trans s2))
  have B2 := Lib.hid ((BA.out.still s1).still s2)
  have LOW := Lib.hid (show w.heap.size < wA.heap.size from BA.out.lt)
  have HW2 := Lib.hid hw2
  have HH := Lib.hid hh
  have V := Lib.hid (RV.out _ _ _ _ _ r2)
  clear s2 hz2 r2 hw2 hh lv1 s1 OP RV
  go_upto_region 4 with fail
  rw [← HW2.out, ← HH.out]
  clear HW2 HH
  go_wp2_with fail
  refine V.out.mono ?_
  rintro e w3 ⟨rfl, r3, gr3⟩
  have hlo := r3.low
  have S3 := Lib.hid (S2.out.grown gr3 S2.out.size (fun k hk => by cases hk; have := LOW.out; omega))
  have B3 := Lib.hid (show Blk w3 w.heap.size 26 cellsZ from (gr3.block _ B2.out.lt (fun e => by have := LOW.out; cases e; omega)).trans B2.out)
  obtain ⟨v, hv⟩ : ∃ v, v = w3.heap.size := ⟨_, rfl⟩
  obtain ⟨w4, hw4⟩ : ∃ w4, w4 = w3.alloc (.cells #[.int .i64 3, .int .i64 x, .slice none 0 0, .string ⟨#[]⟩, .slice none 0 0, .slice none 0 0] 26) := ⟨_, rfl⟩
  have s4 : Still w3 w4 := by rw [hw4]; exact (Still.refl w3).alloc (Nat.le_refl _) _
  have bv4 : Blk w4 v 26 (cellsI x) := by rw [hw4, hv]; exact Blk.new _ _ _
  have r4 := r3.still s4
  have k4 := r4.cell
  have EN := rd_end r4
  rw [if_pos rfl] at EN
  have S4 := Lib.hid (Still.trans (show Still w w3 from S3.out) s4)
  have B4 := Lib.hid (B3.out.still s4)
  have BV4 := Lib.hid bv4
  have HW4 := Lib.hid hw4
  have HV := Lib.hid hv
  have EN' := Lib.hid EN
  clear EN s4 bv4 r4 hw4 hv r3 gr3 S3 B3 hlo V
  go_upto_region 5 with fail
  rw [← HW4.out, ← HV.out]
  clear HW4 HV
  go_wp2_with fail
  refine EN'.out.mono ?_
  rintro e w5 ⟨rfl, rfl⟩
  go_upto_region 9 with fail
  refine wp_region_lit ?_
  refine wpList_load_row rfl 26 (.tmp 5) rfl v rfl _ _ _ _ BV4.out HU.out rfl (by rw [sizeValue]; rfl) ?_
  refine wpList_store_rowTo rfl 26 (.tmp 2) (.tmp 27) rfl rfl w.heap.size (cellsI x) rfl rfl 26 _ B4.out (by rw [sizeValue]; rfl) rfl (cellsI_all x) ?_
  go_wp2_with fail
  refine bodyPost_ret (results_val2 rfl _ _ w.heap.size (cellsI x) rfl (setRow_heap w4 _ _ _ _ _ B4.out) rfl _ rfl) rfl ?_
  exact ⟨rfl, below_setRow S4.out (Nat.le_refl _) _⟩
end Go.Proofs.YtomhpnomcciniaaDoor
