/- Walk: RollLast. It proves no statement. -/
import Derived.Test.YtaijilmafdoaoaaRlLives
import Derived.Test.YtaijilmafdoaoaaWithin
import Derived.Test.YtaijilmafdoaoaaLate
namespace Go.Proofs.Ytaijilmafdoaoaa
open Go.RowKit
set_option linter.unusedVariables false
set_option linter.unusedSimpArgs false

theorem byte_at {w : World} {b o n B i : Nat} {l : List UInt8} (h : Reads w B (some ⟨b, o, none⟩) n l) (hi : i < n) : w.cell? ⟨b, o + i, none⟩ = some (.int .u8 ((l.getD i 0).toNat : Nat)) := h.cellAt i hi
/-- A roller that was given l, behind whatever came with the world. -/
def Rol (w w' : World) (g seed m : Nat) (l : List UInt8) : Prop := Had w' g seed m l ∧ Still w w' ∧ w.heap.size ≤ g
theorem had_new_at (seed n g : Nat) (w : World) (hs : seed < 4294967296) (hn : 0 < n) (hm : n ≤ 63) (hg : g = w.heap.size) :
    Calls Try.prog 15 #[.int .u32 seed, .int .i64 (n : Nat)] w fun e w' => e = .returned (.tuple #[.pointer (some ⟨g, 0, none⟩), .int .i64 0]) ∧ Had w' g seed n [] ∧ Still w w' := by
  subst hg
  exact had_new seed n w hs hn hm
set_option maxRecDepth 100000 in
set_option maxHeartbeats 4000000 in
theorem rollLast_walk (seed : Nat) (win : Int) (a2 : Option Addr) (len2 cap2 : Nat) (z2 : List Int) (a3 : Option Addr) (len3 cap3 : Nat) (z3 : List Int) (a4 : Option Addr) (len4 cap4 : Nat) (z4 : List Int) (w : World) (hs : seed < 4294967296) (h2 : RowIn .u8 w a2 len2 cap2 z2) (h3 : RowIn .u8 w a3 len3 cap3 z3) (h4 : RowIn .u8 w a4 len4 cap4 z4) :
    Calls Try.prog 5 #[.int .u32 seed, .int .i64 win, .slice a2 len2 cap2, .slice a3 len3 cap3, .slice a4 len4 cap4] w fun e w' => e = .returned (.bool true) ∧ Still w w' := by
  obtain ⟨n2, l2, rl2, hn2, hcut2⟩ := cut_row h2 100 (by omega)
  obtain ⟨n3, l3, rl3, hn3, hcut3⟩ := cut_row h3 100 (by omega)
  obtain ⟨n4, l4, rl4, hn4, hcut4⟩ := cut_row h4 100 (by omega)
  have C2 := Lib.hid hcut2
  have C3 := Lib.hid hcut3
  have C4 := Lib.hid hcut4
  have R2 := Lib.hid rl2
  have R3 := Lib.hid rl3
  have R4 := Lib.hid rl4
  clear hcut2 hcut3 hcut4 rl2 rl3 rl4 h2 h3 h4
  go_enter Try.func5, Try.ntmps5
  go_wp2_with fail
  refine C2.out.mono ?_
  rintro e w1 ⟨rfl, rfl⟩
  go_wp2_with fail
  refine C3.out.mono ?_
  rintro e w1 ⟨rfl, rfl⟩
  go_wp2_with fail
  refine C4.out.mono ?_
  rintro e w1 ⟨rfl, rfl⟩
  clear C2 C3 C4
  go_wp2_with fail
  refine (within_any win 1 63 _ (by omega)).mono ?_
  rintro e w1 ⟨⟨m0, hm1, hm2, rfl⟩, rfl⟩
  obtain ⟨m, rfl⟩ : ∃ m : Nat, m0 = (m : Int) := ⟨m0.toNat, by omega⟩
  have hm : 0 < m := by omega
  have hm3 : m ≤ 63 := by omega
  by_cases hlt : n4 < m
  · have z1 : (n4 : Int) < (m : Int) := by omega
    go_wp2_with fail
    refine (lives_any _).mono ?_
    rintro e w1 ⟨rfl, s1⟩
    go_wp2_with fail
    go_ret
    exact ⟨rfl, s1⟩
  have z1 : ¬ (n4 : Int) < (m : Int) := by omega
  go_wp2_with fail
  obtain ⟨ga, hga⟩ : ∃ g, g = w.heap.size := ⟨_, rfl⟩
  refine (had_new_at seed m ga _ hs hm hm3 hga).mono ?_
  rintro e w1 ⟨rfl, ha1, s1⟩
  have A1 := Lib.hid ha1
  have S1 := Lib.hid s1
  have HGA := Lib.hid hga
  clear ha1 s1 z1 hga
  go_wp2_with fail
  obtain ⟨gb, hgb⟩ : ∃ g, g = w1.heap.size := ⟨_, rfl⟩
  refine (had_new_at seed m gb _ hs hm hm3 hgb).mono ?_
  rintro e w2 ⟨rfl, hb1, s2⟩
  have GG := Lib.hid (show w.heap.size ≤ ga ∧ ga < gb from ⟨by rw [HGA.out]; exact Nat.le_refl _, by rw [hgb]; exact A1.out.lt⟩)
  have A2 := Lib.hid (A1.out.still s2)
  have B2 := Lib.hid hb1
  have S2 := Lib.hid (S1.out.trans s2)
  clear hb1 s2 A1 S1 HGA hgb
  go_wp2_with fail
  go_loopw [15] (fun iv wr => ∃ k : Nat, iv = .int .i64 k ∧ k ≤ n2 ∧ Hid (Had wr ga seed m (l2.take k) ∧ Had wr gb seed m [] ∧ Still w wr)) (fun iv _ => n2 - (intOf iv).toNat)
  case atStart => exact ⟨0, rfl, by omega, A2.out, B2.out, S2.out⟩
  case round =>
    obtain ⟨k, rfl, hk, hin⟩ := hrel
    by_cases hlt2 : k < n2
    · have rd := R2.out.reads.still (Nat.le_refl _) hin.out.2.2
      obtain ⟨b, o, rfl, hb, hcc⟩ := rd.at_ (by omega)
      have hc := hcc k hlt2
      have PT := Lib.hid (had_put (l2.getD k 0) hin.out.1 hm hm3)
      have HL := Lib.hid (show l2.take k ++ [l2.getD k 0] = l2.take (k + 1) from (take_one (by rw [R2.out.reads.1]; exact hlt2)).symm)
      generalize (l2.getD k 0).toNat = d at hc PT
      clear hcc rd
      go_wp2_with fail
      refine PT.out.mono ?_
      rintro e w3 ⟨rfl, h3, g3⟩
      rw [HL.out] at h3
      have H3 := Lib.hid (And.intro h3 (And.intro (hin.out.2.1.grown g3 (by have := GG.out; omega)) (Still.put hin.out.2.2 g3 GG.out.1)))
      clear h3 g3
      go_wp2_with fail
      go_roundw
      case rel => exact ⟨k + 1, by go_num, by omega, H3.out⟩
      case measure => simp [intOf]; omega
    · obtain rfl : k = n2 := by omega
      have H5 := Lib.hid hin.out
      clear hin A2 B2 S2
      rw [List.take_of_length_le (by rw [R2.out.reads.1]; exact Nat.le_refl _)] at H5
      go_wp2_with fail
      go_loopw [16] (fun iv wr => ∃ j : Nat, iv = .int .i64 j ∧ j ≤ n3 ∧ Hid (Had wr ga seed m l2 ∧ Had wr gb seed m (l3.take j) ∧ Still w wr)) (fun iv _ => n3 - (intOf iv).toNat)
      case atStart => exact ⟨0, rfl, by omega, H5.out⟩
      case round =>
        obtain ⟨j, rfl, hj, hin⟩ := hrel
        by_cases hlt3 : j < n3
        · have rd := R3.out.reads.still (Nat.le_refl _) hin.out.2.2
          obtain ⟨b, o, rfl, hb, hcc⟩ := rd.at_ (by omega)
          have hc := hcc j hlt3
          have PT := Lib.hid (had_put (l3.getD j 0) hin.out.2.1 hm hm3)
          have HL := Lib.hid (show l3.take j ++ [l3.getD j 0] = l3.take (j + 1) from (take_one (by rw [R3.out.reads.1]; exact hlt3)).symm)
          generalize (l3.getD j 0).toNat = d at hc PT
          clear hcc rd
          go_wp2_with fail
          refine PT.out.mono ?_
          rintro e w3 ⟨rfl, h3, g3⟩
          rw [HL.out] at h3
          have H3 := Lib.hid (And.intro (hin.out.1.grown g3 (by have := GG.out; omega)) (And.intro h3 (Still.put hin.out.2.2 g3 (by have := GG.out; omega))))
          clear h3 g3
          go_wp2_with fail
          go_roundw
          case rel => exact ⟨j + 1, by go_num, by omega, H3.out⟩
          case measure => simp [intOf]; omega
        · obtain rfl : j = n3 := by omega
          have H6 := Lib.hid hin.out
          clear hin H5
          rw [List.take_of_length_le (by rw [R3.out.reads.1]; exact Nat.le_refl _)] at H6
          go_wp2_with fail
          go_loopw [17] (fun iv wr => ∃ t : Nat, iv = .int .i64 t ∧ t ≤ n4 ∧ Hid (Had wr ga seed m (l2 ++ l4.take t) ∧ Had wr gb seed m (l3 ++ l4.take t) ∧ Still w wr)) (fun iv _ => n4 - (intOf iv).toNat)
          case atStart => exact ⟨0, rfl, by omega, by simpa using H6.out.1, by simpa using H6.out.2.1, H6.out.2.2⟩
          case round =>
            obtain ⟨t, rfl, ht, hin⟩ := hrel
            by_cases hlt4 : t < n4
            · have rd := R4.out.reads.still (Nat.le_refl _) hin.out.2.2
              obtain ⟨b, o, rfl, hb, hcc⟩ := rd.at_ (by omega)
              have hc := hcc t hlt4
              have PT := Lib.hid (had_put (l4.getD t 0) hin.out.1 hm hm3)
              have PU := Lib.hid (fun W (h : Had W gb seed m (l3 ++ l4.take t)) => had_put (l4.getD t 0) h hm hm3)
              have HL := Lib.hid (show ∀ x : List UInt8, x ++ l4.take t ++ [l4.getD t 0] = x ++ l4.take (t + 1) from fun x => by rw [List.append_assoc, ← take_one (by rw [R4.out.reads.1]; exact hlt4)])
              obtain ⟨d, hd⟩ : ∃ d, d = (l4.getD t 0).toNat := ⟨_, rfl⟩
              rw [← hd] at hc PT PU
              have HD := Lib.hid hd
              clear hd
              have RB0 := Lib.hid rd
              clear hcc rd
              go_wp2_with fail
              refine PT.out.mono ?_
              rintro e w3 ⟨rfl, h3, g3⟩
              rw [HL.out] at h3
              have H3 := Lib.hid (And.intro h3 (And.intro (hin.out.2.1.grown g3 (by have := GG.out; omega)) (Still.put hin.out.2.2 g3 GG.out.1)))
              have hc3 := (R4.out.reads.still (Nat.le_refl _) H3.out.2.2).cellAt t hlt4
              rw [← HD.out] at hc3
              clear h3 g3 hc PT HD
              go_wp2_with fail
              refine (PU.out _ H3.out.2.1).mono ?_
              rintro e w4 ⟨rfl, h4, g4⟩
              rw [HL.out] at h4
              have H4 := Lib.hid (And.intro (H3.out.1.grown g4 (by have := GG.out; omega)) (And.intro h4 (Still.put H3.out.2.2 g4 (by have := GG.out; omega))))
              clear h4 g4 hc3 PU H3
              go_wp2_with fail
              go_roundw
              case rel => exact ⟨t + 1, by go_num, by omega, H4.out⟩
              case measure => simp [intOf]; omega
            · obtain rfl : n4 = t := by omega
              have H7 := Lib.hid hin.out
              clear hin H6
              rw [List.take_of_length_le (by rw [R4.out.reads.1]; exact Nat.le_refl _)] at H7
              have hx : lastL m (l2 ++ l4) = lastL m l4 := lastL_append m l2 l4 (by rw [R4.out.reads.1]; omega)
              have hy : lastL m (l3 ++ l4) = lastL m l4 := lastL_append m l3 l4 (by rw [R4.out.reads.1]; omega)
              have VX := Lib.hid (fun W (h : Still wr W) => had_value (H7.out.1.still h) hm hm3)
              have VY := Lib.hid (fun W (h : Still wr W) => had_value (H7.out.2.1.still h) hm hm3)
              have FX := Lib.hid (fun W (h : Still wr W) => had_full (H7.out.1.still h) hm hm3)
              have FY := Lib.hid (fun W (h : Still wr W) => had_full (H7.out.2.1.still h) hm hm3)
              rw [hx] at VX
              rw [hy] at VY
              rw [decide_eq_true (show m ≤ (l2 ++ l4).length by rw [List.length_append, R4.out.reads.1]; omega)] at FX
              rw [decide_eq_true (show m ≤ (l3 ++ l4).length by rw [List.length_append, R4.out.reads.1]; omega)] at FY
              have hdr := fun W (h : Still wr W) => (R4.out.reads.still (Nat.le_refl _) (H7.out.2.2.trans h)).dropk (k := n4 - m) (by omega)
              obtain ⟨b4, o4, rfl, _, _⟩ := R4.out.reads.at_ (by omega)
              simp only [Option.map_some, Addr.add_lit] at hdr
              have hll : l4.drop (n4 - m) = lastL m l4 := by unfold lastL; rw [R4.out.reads.1]
              rw [hll] at hdr
              have hfit := R4.out.fit
              have hcap := R4.out.cap
              obtain ⟨d, hd⟩ : ∃ d, d = n4 - m := ⟨_, rfl⟩
              rw [← hd] at hdr
              rw [show n4 - d = m by omega] at hdr
              have SMX := Lib.hid (fun W (h : Still wr W) => sum_any seed (some ⟨b4, o4 + d, none⟩) m (cap4 - d) (lastL m l4) W _ (hdr W h) hs (by omega))
              generalize sm seed (lastL m l4) = X at *
              have z1 : IntKind.i64.wrap ((n4 : Int) - (m : Int)) = (d : Int) := by rw [IntKind.wrap_i64]; omega
              have z2 : d ≤ n4 := by omega
              have z3 : (d : Int) ≤ (n4 : Int) := by omega
              have z4 : ¬ cap4 = d := by omega
              have z5 : n4 - d = m := by omega
              have z6 : (0 : Int) ≤ (d : Int) := by omega
              have z7 : (d : Int) ≤ (cap4 : Int) := by omega
              have S7 := Lib.hid H7.out.2.2
              clear H7 hx hy hdr hll hd
              go_wp2_with fail
              refine wp_region_late (S := fun _ => True) [] (by kernel_rfl) trivial (fun _ => ?_)
              have T0 := Lib.hid (show Still wr wr.drew from (Still.refl _).drew)
              generalize wr.drew = w8 at *
              try simp only [Act.put, List.setIfInBounds_toArray, List.set_cons_zero, List.set_cons_succ]
              refine wpLate_pure (i := 0) (v := .pointer (some ⟨ga, 0, none⟩)) rfl (by kernel_rfl) (by kernel_rfl) (by kernel_rfl) (by kernel_rfl) (fun _ _ _ h => h) (Or.inl ⟨by kernel_rfl, fun w _ => by go_simp⟩) ?_
              try simp only [Act.put, List.setIfInBounds_toArray, List.set_cons_zero, List.set_cons_succ]
              refine wpLate_pure (i := 2) (v := .pointer (some ⟨gb, 0, none⟩)) rfl (by kernel_rfl) (by kernel_rfl) (by kernel_rfl) (by kernel_rfl) (fun _ _ _ h => h) (Or.inl ⟨by kernel_rfl, fun w _ => by go_simp⟩) ?_
              try simp only [Act.put, List.setIfInBounds_toArray, List.set_cons_zero, List.set_cons_succ]
              refine wpLate_one (i := 1) (o := ⟨some 92, .call { callee := .value (.func 16), args := #[.tmp 91], argTypes := #[29] }, _, _, _, none⟩) (by kernel_rfl) rfl (fun K' hK' => ?_)
              go_simp
              go_wp2_with (go_at_call 16; refine (VX.out _ T0.out).mono ?_; rintro e w9 ⟨rfl, rfl⟩)
              refine hK'.out _ _ (fun _ _ => trivial) ?_
              clear hK' K'
              try simp only [Act.put, List.setIfInBounds_toArray, List.set_cons_zero, List.set_cons_succ]
              refine wpLate_one (i := 3) (o := ⟨some 94, .call { callee := .value (.func 16), args := #[.tmp 93], argTypes := #[29] }, _, _, _, none⟩) (by kernel_rfl) rfl (fun K' hK' => ?_)
              go_simp
              go_wp2_with (go_at_call 16; refine (VY.out _ T0.out).mono ?_; rintro e w9 ⟨rfl, rfl⟩)
              refine hK'.out _ _ (fun _ _ => trivial) ?_
              clear hK' K'
              try simp only [Act.put, List.setIfInBounds_toArray, List.set_cons_zero, List.set_cons_succ]
              refine wpLate_pure (i := 4) (v := .bool true) rfl (by kernel_rfl) (by kernel_rfl) (by kernel_rfl) (by kernel_rfl) (fun _ _ _ h => h) (Or.inl ⟨by kernel_rfl, fun w _ => by go_simp⟩) ?_
              try simp only [Act.put, List.setIfInBounds_toArray, List.set_cons_zero, List.set_cons_succ]
              refine wpLate_pure (i := 5) (v := .bool true) rfl (by kernel_rfl) (by kernel_rfl) (by kernel_rfl) (by kernel_rfl) (fun _ _ _ h => h) (Or.inl ⟨by kernel_rfl, fun w _ => by go_simp⟩) ?_
              try simp only [Act.put, List.setIfInBounds_toArray, List.set_cons_zero, List.set_cons_succ]
              refine wpLate_pure (i := 6) (v := .pointer (some ⟨ga, 0, none⟩)) rfl (by kernel_rfl) (by kernel_rfl) (by kernel_rfl) (by kernel_rfl) (fun _ _ _ h => h) (Or.inl ⟨by kernel_rfl, fun w _ => by go_simp⟩) ?_
              try simp only [Act.put, List.setIfInBounds_toArray, List.set_cons_zero, List.set_cons_succ]
              refine wpLate_one (i := 7) (o := ⟨some 98, .call { callee := .value (.func 17), args := #[.tmp 97], argTypes := #[29] }, _, _, _, some (5, true)⟩) (by kernel_rfl) rfl (fun K' hK' => ?_)
              rw [if_pos (by kernel_rfl)]
              go_simp
              go_wp2_with (go_at_call 17; refine (FX.out _ T0.out).mono ?_; rintro e w9 ⟨rfl, s9⟩)
              have T1 := Lib.hid (T0.out.trans (drewN_some s9))
              clear s9 T0
              have T0 := T1
              clear T1
              refine hK'.out _ _ (fun _ _ => trivial) ?_
              clear hK' K'
              try simp only [Act.put, List.setIfInBounds_toArray, List.set_cons_zero, List.set_cons_succ]
              refine wpLate_pure (i := 8) (v := .bool true) rfl (by kernel_rfl) (by kernel_rfl) (by kernel_rfl) (by kernel_rfl) (fun _ _ _ h => h) (Or.inl ⟨by kernel_rfl, fun w _ => by go_simp⟩) ?_
              try simp only [Act.put, List.setIfInBounds_toArray, List.set_cons_zero, List.set_cons_succ]
              refine wpLate_pure (i := 9) (v := .bool true) rfl (by kernel_rfl) (by kernel_rfl) (by kernel_rfl) (by kernel_rfl) (fun _ _ _ h => h) (Or.inl ⟨by kernel_rfl, fun w _ => by go_simp⟩) ?_
              try simp only [Act.put, List.setIfInBounds_toArray, List.set_cons_zero, List.set_cons_succ]
              refine wpLate_pure (i := 10) (v := .pointer (some ⟨gb, 0, none⟩)) rfl (by kernel_rfl) (by kernel_rfl) (by kernel_rfl) (by kernel_rfl) (fun _ _ _ h => h) (Or.inl ⟨by kernel_rfl, fun w _ => by go_simp⟩) ?_
              try simp only [Act.put, List.setIfInBounds_toArray, List.set_cons_zero, List.set_cons_succ]
              refine wpLate_one (i := 11) (o := ⟨some 102, .call { callee := .value (.func 17), args := #[.tmp 101], argTypes := #[29] }, _, _, _, some (9, true)⟩) (by kernel_rfl) rfl (fun K' hK' => ?_)
              rw [if_pos (by kernel_rfl)]
              go_simp
              go_wp2_with (go_at_call 17; refine (FY.out _ T0.out).mono ?_; rintro e w9 ⟨rfl, s9⟩)
              have T1 := Lib.hid (T0.out.trans (drewN_some s9))
              clear s9 T0
              have T0 := T1
              clear T1
              refine hK'.out _ _ (fun _ _ => trivial) ?_
              clear hK' K'
              try simp only [Act.put, List.setIfInBounds_toArray, List.set_cons_zero, List.set_cons_succ]
              refine wpLate_pure (i := 12) (v := .bool true) rfl (by kernel_rfl) (by kernel_rfl) (by kernel_rfl) (by kernel_rfl) (fun _ _ _ h => h) (Or.inl ⟨by kernel_rfl, fun w _ => by go_simp⟩) ?_
              try simp only [Act.put, List.setIfInBounds_toArray, List.set_cons_zero, List.set_cons_succ]
              refine wpLate_pure (i := 13) (v := .bool true) rfl (by kernel_rfl) (by kernel_rfl) (by kernel_rfl) (by kernel_rfl) (fun _ _ _ h => h) (Or.inl ⟨by kernel_rfl, fun w _ => by go_simp⟩) ?_
              try simp only [Act.put, List.setIfInBounds_toArray, List.set_cons_zero, List.set_cons_succ]
              refine wpLate_pure (i := 14) (v := .pointer (some ⟨ga, 0, none⟩)) rfl (by kernel_rfl) (by kernel_rfl) (by kernel_rfl) (by kernel_rfl) (fun _ _ _ h => h) (Or.inl ⟨by kernel_rfl, fun w _ => by go_simp⟩) ?_
              try simp only [Act.put, List.setIfInBounds_toArray, List.set_cons_zero, List.set_cons_succ]
              refine wpLate_pure (i := 16) (v := .int .u32 (seed : Nat)) rfl (by kernel_rfl) (by kernel_rfl) (by kernel_rfl) (by kernel_rfl) (fun _ _ _ h => h) (Or.inl ⟨by kernel_rfl, fun w _ => by go_simp⟩) ?_
              try simp only [Act.put, List.setIfInBounds_toArray, List.set_cons_zero, List.set_cons_succ]
              refine wpLate_pure (i := 17) (v := .slice (some ⟨b4, o4, none⟩) n4 cap4) rfl (by kernel_rfl) (by kernel_rfl) (by kernel_rfl) (by kernel_rfl) (fun _ _ _ h => h) (Or.inl ⟨by kernel_rfl, fun w _ => by go_simp⟩) ?_
              try simp only [Act.put, List.setIfInBounds_toArray, List.set_cons_zero, List.set_cons_succ]
              refine wpLate_pure (i := 18) (v := .slice (some ⟨b4, o4, none⟩) n4 cap4) rfl (by kernel_rfl) (by kernel_rfl) (by kernel_rfl) (by kernel_rfl) (fun _ _ _ h => h) (Or.inl ⟨by kernel_rfl, fun w _ => by go_simp⟩) ?_
              try simp only [Act.put, List.setIfInBounds_toArray, List.set_cons_zero, List.set_cons_succ]
              refine wpLate_pure (i := 19) (v := .int .i64 (n4 : Nat)) rfl (by kernel_rfl) (by kernel_rfl) (by kernel_rfl) (by kernel_rfl) (fun _ _ _ h => h) (Or.inl ⟨by kernel_rfl, fun w _ => by go_simp⟩) ?_
              try simp only [Act.put, List.setIfInBounds_toArray, List.set_cons_zero, List.set_cons_succ]
              refine wpLate_pure (i := 20) (v := .int .i64 (m : Nat)) rfl (by kernel_rfl) (by kernel_rfl) (by kernel_rfl) (by kernel_rfl) (fun _ _ _ h => h) (Or.inl ⟨by kernel_rfl, fun w _ => by go_simp⟩) ?_
              try simp only [Act.put, List.setIfInBounds_toArray, List.set_cons_zero, List.set_cons_succ]
              refine wpLate_pure (i := 21) (v := .int .i64 (d : Nat)) rfl (by kernel_rfl) (by kernel_rfl) (by kernel_rfl) (by kernel_rfl) (fun _ _ _ h => h) (Or.inl ⟨by kernel_rfl, fun w _ => by go_simp⟩) ?_
              try simp only [Act.put, List.setIfInBounds_toArray, List.set_cons_zero, List.set_cons_succ]
              refine wpLate_pure (i := 22) (v := .slice (some ⟨b4, o4 + d, none⟩) m (cap4 - d)) rfl (by kernel_rfl) (by kernel_rfl) (by kernel_rfl) (by kernel_rfl) (fun _ _ _ h => h) (Or.inl ⟨by kernel_rfl, fun w _ => by go_simp⟩) ?_
              try simp only [Act.put, List.setIfInBounds_toArray, List.set_cons_zero, List.set_cons_succ]
              refine wpLate_one (i := 15) (o := ⟨some 106, .call { callee := .value (.func 16), args := #[.tmp 105], argTypes := #[29] }, _, _, _, some (13, true)⟩) (by kernel_rfl) rfl (fun K' hK' => ?_)
              rw [if_pos (by kernel_rfl)]
              go_simp
              go_wp2_with (go_at_call 16; refine (VX.out _ T0.out).mono ?_; rintro e w9 ⟨rfl, rfl⟩)
              refine hK'.out _ _ (fun _ _ => trivial) ?_
              clear hK' K'
              try simp only [Act.put, List.setIfInBounds_toArray, List.set_cons_zero, List.set_cons_succ]
              refine wpLate_one (i := 23) (o := ⟨some 114, .call { callee := .value (.func 12), args := #[.tmp 107, .tmp 113], argTypes := #[22, 23] }, _, _, _, some (13, true)⟩) (by kernel_rfl) rfl (fun K' hK' => ?_)
              rw [if_pos (by kernel_rfl)]
              go_simp
              go_wp2_with (go_at_call 12; refine (SMX.out _ T0.out).mono ?_; rintro e w9 ⟨rfl, rfl⟩)
              refine hK'.out _ _ (fun _ _ => trivial) ?_
              clear hK' K'
              try simp only [Act.put, List.setIfInBounds_toArray, List.set_cons_zero, List.set_cons_succ]
              refine wpLate_pure (i := 24) (v := .bool true) rfl (by kernel_rfl) (by kernel_rfl) (by kernel_rfl) (by kernel_rfl) (fun _ _ _ h => h) (Or.inl ⟨by kernel_rfl, fun w _ => by go_simp⟩) ?_
              try simp only [Act.put, List.setIfInBounds_toArray, List.set_cons_zero, List.set_cons_succ]
              refine wpLate_pure (i := 25) (v := .bool true) rfl (by kernel_rfl) (by kernel_rfl) (by kernel_rfl) (by kernel_rfl) (fun _ _ _ h => h) (Or.inl ⟨by kernel_rfl, fun w _ => by go_simp⟩) ?_
              try simp only [Act.put, List.setIfInBounds_toArray, List.set_cons_zero, List.set_cons_succ]
              refine wpLate_pure (i := 26) (v := .bool true) rfl (by kernel_rfl) (by kernel_rfl) (by kernel_rfl) (by kernel_rfl) (fun _ _ _ h => h) (Or.inl ⟨by kernel_rfl, fun w _ => by go_simp⟩) ?_
              try simp only [Act.put, List.setIfInBounds_toArray, List.set_cons_zero, List.set_cons_succ]
              have S8 := Lib.hid (S7.out.trans T0.out)
              refine wpLate_one (i := 27) (o := ⟨some 118, .call { callee := .value (.func 14), args := #[], argTypes := #[] }, _, _, _, some (26, true)⟩) (by kernel_rfl) rfl (fun K' hK' => ?_)
              rw [if_pos (by kernel_rfl)]
              go_simp
              go_wp2_with (go_at_call 14; refine (lives_any _).mono ?_; rintro e w9 ⟨rfl, s9⟩)
              have S9 := Lib.hid (S8.out.trans s9)
              clear s9 S8 T0
              refine hK'.out _ _ (fun _ _ => trivial) ?_
              clear hK' K'
              try simp only [Act.put, List.setIfInBounds_toArray, List.set_cons_zero, List.set_cons_succ]
              refine wpLate_pure (i := 28) (v := .bool true) rfl (by kernel_rfl) (by kernel_rfl) (by kernel_rfl) (by kernel_rfl) (fun _ _ _ h => h) (Or.inl ⟨by kernel_rfl, fun w _ => by go_simp⟩) ?_
              try simp only [Act.put, List.setIfInBounds_toArray, List.set_cons_zero, List.set_cons_succ]
              refine wpLate_pure (i := 29) (v := .bool true) rfl (by kernel_rfl) (by kernel_rfl) (by kernel_rfl) (by kernel_rfl) (fun _ _ _ h => h) (Or.inl ⟨by kernel_rfl, fun w _ => by go_simp⟩) ?_
              try simp only [Act.put, List.setIfInBounds_toArray, List.set_cons_zero, List.set_cons_succ]
              refine wpLate_done (by kernel_rfl) ?_ _
              go_simp
              go_wp2_with fail
              go_ret
              exact ⟨rfl, S9.out⟩
end Go.Proofs.Ytaijilmafdoaoaa
