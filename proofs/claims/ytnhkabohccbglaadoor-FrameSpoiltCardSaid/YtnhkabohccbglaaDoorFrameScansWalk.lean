/- The walk of FrameScans: it returns true, and nothing that was there turns. -/
import Derived.Test.YtnhkabohccbglaaDoorFrSameF
import Derived.Test.YtnhkabohccbglaaDoorFrSalv
import Derived.Test.YtnhkabohccbglaaDoorRowS
import Derived.Test.YtnhkabohccbglaaDoorSpoil
namespace Go.Proofs.YtnhkabohccbglaaDoor
open Go.RowKit
set_option linter.unusedVariables false
set_option linter.unusedSimpArgs false

theorem fo_D (l : List UInt8) (a : Nat) : (fo l a).D.length ≤ l.length := by
  have h := rdD_len (l.drop a)
  rw [List.length_drop] at h
  show (rdD (l.drop a)).length ≤ l.length
  omega
theorem scF_D (l : List UInt8) : ∀ (k a : Nat), (scF l k a).1.length ≤ k ∧ ∀ f ∈ (scF l k a).1, f.D.length ≤ l.length
  | 0, a => by simp [scF]
  | k + 1, a => by
    unfold scF
    split
    · split
      · obtain ⟨h1, h2⟩ := scF_D l k (a + rdN (l.drop a))
        refine ⟨by simp only [List.length_cons]; omega, ?_⟩
        intro f hf
        rcases List.mem_cons.1 hf with rfl | h
        · exact fo_D l a
        · exact h2 f h
      · simp
    · simp
theorem svF_D (l : List UInt8) : ∀ (k a : Nat), (svF l k a).length ≤ k ∧ ∀ f ∈ svF l k a, f.D.length ≤ l.length
  | 0, a => by simp [svF]
  | k + 1, a => by
    unfold svF
    split
    · split
      · obtain ⟨h1, h2⟩ := svF_D l k (a + rdN (l.drop a))
        refine ⟨by simp only [List.length_cons]; omega, ?_⟩
        intro f hf
        rcases List.mem_cons.1 hf with rfl | h
        · exact fo_D l a
        · exact h2 f h
      · obtain ⟨h1, h2⟩ := svF_D l k (a + 1)
        exact ⟨by omega, h2⟩
    · simp
theorem scanR_D (l : List UInt8) : (scanR l).1.length ≤ l.length ∧ ∀ f ∈ (scanR l).1, f.D.length ≤ l.length := by
  unfold scanR
  split
  · exact scF_D l _ _
  · simp
theorem own_still0 {W W' : World} {B n z : Nat} {e : TypeId} {v : Value} {xs : List Value} (s : Still W W') (h : W.ownsRow B e z v n xs) : W'.ownsRow B e z v n xs :=
  h.kept (row := none) (grown_still0 s) (by cases v.ownBlock <;> simp)

set_option maxRecDepth 100000 in
set_option maxHeartbeats 3200000 in
theorem frameScans_walk (a1 : Option Addr) (len1 cap1 : Nat) (z1 : List Int) (w : World) (w1 : RowIn .u8 w a1 len1 cap1 z1) (T : Tabs w) :
    Calls Tryd.prog 5 #[.slice a1 len1 cap1] w fun e w' => e = .returned (.bool true) ∧ Below w.heap.size w w' := by
  obtain ⟨l0, r0, hc0, hm0, hA0⟩ := reads_of_row w1
  obtain ⟨n1, hn1⟩ : ∃ n1, n1 = min len1 1500 := ⟨_, rfl⟩
  have CUT := Lib.hid (show Calls Tryd.prog 18 #[.slice a1 len1 cap1, .int .i64 1500] w fun e w' => e = .returned (.slice a1 n1 cap1) ∧ w = w' from by rw [hn1]; exact cut_any a1 len1 cap1 1500 l0 w _ r0 hc0 hm0 (by omega))
  have RB := Lib.hid (show Reads w w.heap.size a1 n1 (l0.take 1500) by rw [hn1]; exact r0.take 1500)
  obtain ⟨l, hl⟩ : ∃ l, l = l0.take 1500 := ⟨_, rfl⟩
  rw [← hl] at RB
  have N1 := Lib.hid (show n1 ≤ 1500 ∧ n1 ≤ cap1 ∧ cap1 ≤ 9223372036854775807 from ⟨by omega, by omega, hm0⟩)
  have HT := Lib.hid (fun W (s : Still w W) => T.still s)
  have RW := Lib.hid (fun W (s : Still w W) => RB.out.still (Nat.le_refl _) s)
  have LL := Lib.hid (show l.length ≤ 1500 by have := RB.out.1; have := N1.out; omega)
  have SD := Lib.hid (scanR_D l)
  have VD := Lib.hid (show (salR l).length ≤ l.length ∧ ∀ f ∈ salR l, f.D.length ≤ l.length from svF_D l _ _)
  have SC := Lib.hid (scan_any a1 n1 cap1 l w w.heap.size RB.out (Nat.le_refl _) (by have := N1.out; omega) N1.out.2.1 N1.out.2.2 T)
  have LV := Lib.hid (fun w (T : Tabs w) => lives_any w T)
  clear r0 hc0 hm0 hA0 w1 hn1 hl T
  go_enter Tryd.func5, Tryd.ntmps5
  go_wp2_with fail
  refine CUT.out.mono ?_
  rintro e w' ⟨rfl, rfl⟩
  go_wp2_with fail
  refine SC.out.mono ?_
  rintro e w2 ⟨⟨lv1, xs1, rfl, own1, has1⟩, s2⟩
  have S2 := Lib.hid s2
  have O1 := Lib.hid own1
  have H1 := Lib.hid has1
  have RS := Lib.hid (rscan_any a1 n1 cap1 l w2 w.heap.size (RW.out _ S2.out) S2.out.size (by have := N1.out; omega) N1.out.2.1 N1.out.2.2)
  clear CUT SC own1 has1 s2
  go_wp2_with fail
  refine RS.out.mono ?_
  rintro e w3 ⟨⟨lv2, xs2, rfl, own2, has2⟩, s3⟩
  have S3 := Lib.hid (Still.trans S2.out s3)
  have SM := Lib.hid (sameF_yes lv1 lv2 xs1 xs2 (scanR l).1 w3 w.heap.size w2.heap.size S3.out.size s3.size (own_still0 s3 O1.out) own2 (H1.out.keep (fun v n l h => own_still0 s3 h)) has2 (fun f hf => by have := SD.out.2 f hf; have := LL.out; omega) (by have := SD.out.1; have := LL.out; omega))
  clear own2 has2 s3 RS
  go_wp2_with fail
  refine SM.out.mono ?_
  rintro e w4 ⟨rfl, s4⟩
  have S4 := Lib.hid (Still.trans S3.out s4)
  have SV := Lib.hid (salvage_any a1 n1 cap1 l w4 w.heap.size (RW.out _ S4.out) S4.out.size (by have := N1.out; omega) N1.out.2.1 N1.out.2.2 (HT.out _ S4.out))
  clear s4 SM
  go_wp2_with fail
  refine SV.out.mono ?_
  rintro e w5 ⟨⟨lv3, xs3, rfl, own3, has3⟩, s5⟩
  have O3 := Lib.hid own3
  have H3 := Lib.hid has3
  have S5 := Lib.hid (Still.trans S4.out s5)
  have S45 := Lib.hid s5
  have RV := Lib.hid (rsalvage_any a1 n1 cap1 l w5 w.heap.size (RW.out _ S5.out) S5.out.size (by have := N1.out; omega) N1.out.2.1 N1.out.2.2)
  clear s5 own3 has3 SV
  go_wp2_with fail
  refine RV.out.mono ?_
  rintro e w6 ⟨⟨lv4, xs4, rfl, own4, has4⟩, s6⟩
  have S6 := Lib.hid (Still.trans S5.out s6)
  have SM2 := Lib.hid (sameF_yes lv3 lv4 xs3 xs4 (salR l) w6 w4.heap.size w5.heap.size (Nat.le_trans S45.out.size s6.size) s6.size (own_still0 s6 O3.out) own4 (H3.out.keep (fun v n l h => own_still0 s6 h)) has4 (fun f hf => by have := VD.out.2 f hf; have := LL.out; omega) (by have := VD.out.1; have := LL.out; omega))
  clear own4 has4 s6 RV
  go_wp2_with fail
  refine SM2.out.mono ?_
  rintro e w7 ⟨rfl, s7⟩
  have S7 := Lib.hid (Still.trans S6.out s7)
  clear s7 SM2
  go_wp2_with fail
  refine (LV.out _ (HT.out _ S7.out)).mono ?_
  rintro e w8 ⟨rfl, s8⟩
  have S8 := Lib.hid (Still.trans S7.out s8)
  clear s8
  go_wp2_with fail
  go_ret
  exact ⟨rfl, S8.out⟩
end Go.Proofs.YtnhkabohccbglaaDoor
