/- Walk: MediaTears. It proves no statement. -/
import Derived.Test.YtlddmgofjeibaaaMdTears
import Derived.Deep.DeepCutAuto
namespace Go.Proofs.Ytlddmgofjeibaaa
open Go.RowKit Go.Maps Go.WideMaps Go.Sort
set_option linter.unusedVariables false
set_option linter.unusedSimpArgs false

theorem crSt_at {s : (Nat → Option Fi) × List Int} {f : Nat} {F : Fi} (h : s.1 f = some F) : crSt s f = (upd s.1 f (F.crash s.2), s.2.tail.tail) := by
  unfold crSt
  rw [h]
theorem stepL_un : stepL (-1) = -1 := by unfold stepL stepR; rfl
/-- One file, of which l1 is fast, behind i Appends. -/
structure TS (w wr : World) (g gf : Nat) (l1 : List UInt8) (i : Nat) (own : Own) (M : Me) (F : Fi) : Prop where
  med : MedI wr w.heap.size own g M
  ok : M.ok
  off : M.off = false
  left : M.left = -1
  now : M.now = [([97], gf)]
  fast : M.fast = [([97], gf)]
  wait : M.wait = []
  file : M.fs gf = some F
  ffast : F.fast = l1
  app : AppOnly l1 F.wait
  num : F.wait.length = i
  len : F.now.length ≤ 300 + 100 * i
  room : M.room = 5000
  cnt : M.cnt ≤ 10 + i
  still : Still w wr
theorem TS.fok {w wr : World} {g gf : Nat} {l1 : List UInt8} {i : Nat} {own : Own} {M : Me} {F : Fi} (h : TS w wr g gf l1 i own M F) : F.ok := (h.med.files gf F h.file).2.1
theorem TS.nowe {w wr : World} {g gf : Nat} {l1 : List UInt8} {i : Nat} {own : Own} {M : Me} {F : Fi} (h : TS w wr g gf l1 i own M F) : F.now = appAll l1 F.wait := by rw [h.fok.1, h.ffast]
theorem sizeA : (⟨#[97]⟩ : ByteArray).size ≤ maxLen := by decide
theorem med_still {w wr w' : World} {g : Nat} {own : Own} {M : Me} (h : MedI wr w.heap.size own g M) (s : Still w wr) (c : Chg wr w' (fun b => own b ≠ none)) : Still w w' := c.still s (fun k hk => (h.dom k hk).1)
theorem tears_append {w wr : World} {g gf i : Nat} {l1 : List UInt8} {own : Own} {M : Me} {F : Fi} (h : TS w wr g gf l1 i own M F) (hi : i < 10) (A : Option Addr) (m c B : Nat) (x : List UInt8) (hr : Reads wr B A m x) (hB : B ≤ wr.heap.size) (hA : A = none → m = 0 ∧ c = 0) (hm : m ≤ 100) :
    Calls Try.prog 24 #[.pointer (some ⟨g, 0, none⟩), .string ⟨#[97]⟩, .slice A m c] wr fun e w' => e = .returned (.int .i64 0) ∧ ∃ own' M' F', TS w w' g gf l1 (i + 1) own' M' F' := by
  have hu := a_used h.now h.file
  have hl := h.len
  have hn := h.num
  have hro := h.room
  have hxl : x.length = m := hr.1
  refine (append_I ⟨#[97]⟩ gf F A m c B x h.med h.ok h.off (by rw [h.left]; decide) sizeA (by rw [h.now]; exact a_found gf) h.file (by omega) hr hB hA (by rw [hu]; omega) (by rw [hu, hro]; omega) (by omega)).mono ?_
  rintro e w' ⟨he, ch, own', ho, hmed⟩
  refine ⟨he, own', _, _, hmed, Me.wrote_ok h.ok (by rw [h.left]; decide) _ _, h.off, by show stepL M.left = -1; rw [h.left, stepL_un], h.now, h.fast, h.wait, upd_same _ _ _, h.ffast, ?_, ?_, ?_, h.room, by show M.cnt + 1 ≤ 10 + (i + 1); have := h.cnt; omega, med_still h.med h.still ch⟩
  · have := h.app.snoc x
    rw [← h.nowe] at this
    exact this
  · show (F.wait ++ [_]).length = i + 1
    simp [hn]
  · show (F.now.take F.now.length ++ x).length ≤ 300 + 100 * (i + 1)
    rw [List.take_length, List.length_append]
    omega
theorem tears_first {w w1 : World} {g gf : Nat} {own : Own} {M : Me} (h : MedI w1 w.heap.size own g M) (hok : M.ok) (hoff : M.off = false) (hleft : M.left = -1) (hnow : M.now = [([97], gf)]) (hfs : M.fs gf = some ⟨[], [], []⟩) (hroom : M.room = 5000) (hs : Still w w1) (A : Option Addr) (m c B : Nat) (x : List UInt8) (hr : Reads w1 B A m x) (hB : B ≤ w1.heap.size) (hA : A = none → m = 0 ∧ c = 0) (hm : m ≤ 300) :
    Calls Try.prog 24 #[.pointer (some ⟨g, 0, none⟩), .string ⟨#[97]⟩, .slice A m c] w1 fun e w' => e = .returned (.int .i64 0) ∧ Still w w' ∧ ∃ own' : Own, MedI w' w.heap.size own' g (M.wrote gf ((⟨[], [], []⟩ : Fi).wrote ⟨0, x⟩)) := by
  have hu : M.used = 0 := a_used hnow hfs
  refine (append_I ⟨#[97]⟩ gf ⟨[], [], []⟩ A m c B x h hok hoff (by rw [hleft]; decide) sizeA (by rw [hnow]; exact a_found gf) hfs (by simp) hr hB hA (by rw [hu]; omega) (by rw [hu, hroom]; omega) (by simp; omega)).mono ?_
  rintro e w' ⟨he, ch, own', ho, hmed⟩
  exact ⟨he, med_still h hs ch, own', hmed⟩
set_option maxRecDepth 100000 in
set_option maxHeartbeats 4000000 in
theorem mediaTears_walk (a0 : Option Addr) (len0 cap0 : Nat) (z0 : List Int) (a1 : Option Addr) (len1 cap1 : Nat) (a2 : Option Addr) (len2 cap2 : Nat) (z2 : List Int) (w : World) (h0 : RowIn .u8 w a0 len0 cap0 z0) (h1 : RowsIn .u8 w a1 len1) (h2 : RowIn .i64 w a2 len2 cap2 z2) :
    Calls Try.prog 5 #[.slice a0 len0 cap0, .slice a1 len1 cap1, .slice a2 len2 cap2] w fun e w' => e = .returned (.bool true) ∧ Still w w' := by
  obtain ⟨lz, rz, hz1, hz2, hz3⟩ := reads_of_row h0
  obtain ⟨ys, ri, hi1, hi2, hi3⟩ := readsI_of_row h2
  obtain ⟨n0, hn0⟩ : ∃ n0, n0 = min len0 300 := ⟨_, rfl⟩
  obtain ⟨l0, hl0⟩ : ∃ l0, l0 = lz.take 300 := ⟨_, rfl⟩
  have R0 := Lib.hid (show RowS w w.heap.size a0 n0 cap0 l0 from ⟨by rw [hn0, hl0]; exact rz.take 300, by omega, hz2, fun e => ⟨by have := (hz3 e).1; omega, (hz3 e).2⟩⟩)
  have CUT := Lib.hid (fun (W : World) (s : Still w W) => cut_any a0 len0 cap0 300 lz W w.heap.size (rz.still (Nat.le_refl _) s) hz1 hz2 (by omega))
  rw [← hn0] at CUT
  have N0 := Lib.hid (show n0 ≤ 300 by omega)
  have RI := Lib.hid (And.intro ri hi3)
  have R1 := Lib.hid h1
  have NW := Lib.hid (new_I 5000 w ⟨by decide, by decide⟩)
  clear h0 h1 h2 rz hz1 hz2 hz3 ri hi3 hn0 hl0
  go_enter Try.func5, Try.ntmps5
  go_wp2_with fail
  refine NW.out.mono ?_
  rintro e w1 ⟨g, own1, rfl, hg1, hm1, s1⟩
  have M1 := Lib.hid (And.intro hm1 s1)
  clear hm1 s1 NW hg1
  go_wp2_with fail
  refine (CUT.out _ M1.out.2).mono ?_
  rintro e w2 ⟨rfl, rfl⟩
  clear CUT
  have CR := Lib.hid (create_I ⟨#[97]⟩ M1.out.1 (Me.new_ok ⟨by decide, by decide⟩) rfl (by decide) (by decide) sizeA (by decide) rfl (by decide))
  go_wp2_with fail
  refine CR.out.mono ?_
  rintro e w2 ⟨rfl, ch2, own2, gf, o2, hf2, hgf, hm2⟩
  have e2 : nmStep (Me.new 5000).now (⟨#[]⟩, ⟨#[97]⟩, (gf : Int)) = [([97], gf)] := a_first gf
  have ok2 : ((Me.new 5000).link (⟨#[]⟩, ⟨#[97]⟩, (gf : Int)) (upd (Me.new 5000).fs gf ⟨[], [], []⟩)).ok := Me.link_ok (Me.new_ok ⟨by decide, by decide⟩) (by decide) _ _ (fun _ _ h => by cases h) (fun _ => ⟨_, upd_same _ _ _⟩)
  have S2 := Lib.hid (med_still M1.out.1 M1.out.2 ch2)
  have M2 := Lib.hid hm2
  have OK2 := Lib.hid ok2
  have E2 := Lib.hid e2
  have AP := Lib.hid (tears_first (x := l0) hm2 ok2 rfl stepL_un e2 (upd_same _ _ _) rfl S2.out a0 n0 cap0 w.heap.size (R0.out.reads.still (Nat.le_refl _) S2.out) S2.out.size R0.out.nil N0.out)
  clear ch2 o2 hf2 hgf hm2 ok2 e2 CR M1
  go_wp2_with fail
  refine AP.out.mono ?_
  rintro e w3 ⟨rfl, s3, own3, hm3⟩
  obtain ⟨MA, hMA⟩ : ∃ MA, MA = ((Me.new 5000).link (⟨#[]⟩, ⟨#[97]⟩, (gf : Int)) (upd (Me.new 5000).fs gf ⟨[], [], []⟩)).wrote gf ((⟨[], [], []⟩ : Fi).wrote ⟨0, l0⟩) := ⟨_, rfl⟩
  rw [← hMA] at hm3
  have okA : MA.ok := by rw [hMA]; exact Me.wrote_ok OK2.out (by show stepL (-1) ≠ 0; rw [stepL_un]; decide) _ _
  have nowA : MA.now = [([97], gf)] := by rw [hMA]; exact E2.out
  have fsA : MA.fs gf = some ((⟨[], [], []⟩ : Fi).wrote ⟨0, l0⟩) := by rw [hMA]; exact upd_same _ _ _
  have FA := Lib.hid (show MA.off = false ∧ MA.left = -1 ∧ MA.room = 5000 ∧ MA.cnt = 2 by rw [hMA]; exact ⟨rfl, by show stepL (stepL (-1)) = -1; rw [stepL_un, stepL_un], rfl, rfl⟩)
  have SY := Lib.hid (sync_I ⟨#[97]⟩ gf _ hm3 okA FA.out.1 (by rw [FA.out.2.1]; decide) sizeA (by rw [nowA]; exact a_found gf) fsA)
  have M3 := Lib.hid (And.intro hm3 s3)
  have OKA := Lib.hid (And.intro okA (And.intro nowA fsA))
  clear hm3 s3 hMA okA nowA fsA AP M2 S2 OK2 E2
  go_wp2_with fail
  refine SY.out.mono ?_
  rintro e w4 ⟨rfl, ch4, own4, o4, hm4⟩
  have S4 := Lib.hid (med_still M3.out.1 M3.out.2 ch4)
  obtain ⟨MB, hMB⟩ : ∃ MB, MB = MA.wrote gf ((⟨[], [], []⟩ : Fi).wrote ⟨0, l0⟩).synced := ⟨_, rfl⟩
  rw [← hMB] at hm4
  have okB : MB.ok := by rw [hMB]; exact Me.wrote_ok OKA.out.1 (by rw [FA.out.2.1]; decide) _ _
  have FB := Lib.hid (show MB.off = false ∧ MB.left = -1 ∧ MB.room = 5000 ∧ MB.cnt = 3 ∧ MB.now = [([97], gf)] ∧ MB.fs gf = some ⟨l0, l0, []⟩ by
    rw [hMB]
    exact ⟨FA.out.1, by show stepL MA.left = -1; rw [FA.out.2.1, stepL_un], FA.out.2.2.1, by show MA.cnt + 1 = 3; rw [FA.out.2.2.2], OKA.out.2.1, upd_same _ _ _⟩)
  have SD := Lib.hid (syncDir_I hm4 okB FB.out.1 (by rw [FB.out.2.1]; decide) (by rw [FB.out.2.2.2.1]; decide))
  have M4 := Lib.hid hm4
  have OKB := Lib.hid okB
  clear hm4 hMB okB ch4 o4 SY M3 OKA FA
  go_wp2_with fail
  refine SD.out.mono ?_
  rintro e w5 ⟨rfl, ch5, hm5⟩
  have TS0 := Lib.hid (show ∃ own M F, TS w w5 g gf l0 0 own M F from ⟨own4, MB.syncedDir, ⟨l0, l0, []⟩, hm5, Me.syncedDir_ok OKB.out (by rw [FB.out.2.1]; decide), FB.out.1, by show stepL MB.left = -1; rw [FB.out.2.1, stepL_un], FB.out.2.2.2.2.1, FB.out.2.2.2.2.1, rfl, FB.out.2.2.2.2.2, rfl, AppOnly.nil _, rfl, by show l0.length ≤ 300 + 100 * 0; rw [R0.out.reads.1]; exact N0.out, FB.out.2.2.1, by show MB.cnt ≤ 10 + 0; rw [FB.out.2.2.2.1]; decide, med_still M4.out S4.out ch5⟩)
  clear ch5 hm5 SD M4 OKB FB S4
  go_wp2_with fail
  go_loopw [9] (fun iv wr => ∃ i : Nat, iv = .int .i64 i ∧ i ≤ len1 ∧ i ≤ 10 ∧ Hid (∃ own M F, TS w wr g gf l0 i own M F)) (fun iv _ => 10 - (intOf iv).toNat)
  case atStart => exact ⟨0, rfl, by omega, by omega, TS0.out⟩
  case round =>
    obtain ⟨i, rfl, hil, hi10, hh⟩ := hrel
    by_cases hlt : i < len1 ∧ i < 10
    · obtain ⟨hlt1, hlt2⟩ := hlt
      obtain ⟨own, M, F, ts⟩ := hh.out
      obtain ⟨b, o, A, L, C, zs, rfl, hb, hcell, hrow⟩ := R1.out.2 i hlt1
      obtain ⟨lx, rx⟩ := rowsIn_row hrow ts.still
      obtain ⟨m, x, rm, hm, hcut⟩ := cut_rowS rx 100 (by omega)
      have kc : wr.cell? ⟨b, o + i, none⟩ = some (.slice A L C) := (ts.still.cell (p := ⟨b, o + i, none⟩) hb).trans hcell
      have AP := Lib.hid (tears_append ts hlt2 A m C w.heap.size x rm.reads ts.still.size rm.nil hm)
      have CU := Lib.hid hcut
      have z1 : (i : Int) < (len1 : Int) := by omega
      have z2 : (0 : Int) ≤ (i : Int) := by omega
      have z3 : (i : Int) < 10 := by omega
      have HI := Lib.hid (And.intro hlt1 hlt2)
      clear hh ts hrow rx rm hcut hcell hb hlt1
      go_wp2_with fail
      refine CU.out.mono ?_
      rintro e w6 ⟨rfl, rfl⟩
      go_wp2_with fail
      refine AP.out.mono ?_
      rintro e w6 ⟨rfl, ts6⟩
      have TS6 := Lib.hid ts6
      clear ts6 AP CU kc
      go_wp2_with fail
      go_roundw
      case rel => exact ⟨i + 1, by go_num, HI.out.1, by omega, TS6.out⟩
      case measure => simp [intOf]; omega
    · obtain hc | hc : (¬ i < len1) ∨ (i < len1 ∧ ¬ i < 10) := by omega
      · have y1 : ¬ (i : Int) < (len1 : Int) := by omega
        obtain ⟨own, M, F, ts⟩ := hh.out
        have AL := Lib.hid (all_I ⟨#[97]⟩ gf F ts.med ts.off sizeA (by rw [ts.now]; exact a_found gf) ts.file)
        have TSH := Lib.hid ts
        clear hh ts
        go_wp2_with fail
        refine AL.out.mono ?_
        rintro e w6 ⟨⟨v6, rfl, o6⟩, s6⟩
        obtain ⟨A6, c6, rfl, g1, g2, g3⟩ := own_form o6
        have O6 := Lib.hid o6
        have S6 := Lib.hid s6
        have MD6 := Lib.hid (TSH.out.med.still s6)
        have SW6 := Lib.hid (TSH.out.still.trans s6)
        have NU := Lib.hid (numbers_k a2 len2 cap2 10 w6 (by omega) hi1 hi2 (fun h => by obtain ⟨b, o, e, _⟩ := RI.out.1.2 h; exact ⟨b, o, e⟩))
        clear o6 s6 AL g3
        go_wp2_with fail
        refine NU.out.mono ?_
        rintro e w7 ⟨rfl, rfl⟩
        obtain ⟨zs, hzs⟩ : ∃ zs, zs = ys.take (min len2 10) := ⟨_, rfl⟩
        have RN := (RI.out.1.chg (Chg.of_still SW6.out (fun _ => False)) (Nat.le_refl _) (fun _ h => h.elim)).front (k := min len2 10) (by omega)
        rw [← hzs] at RN
        have CR := Lib.hid (mcrash_I MD6.out TSH.out.ok (by have := TSH.out.cnt; omega) RN (Nat.le_refl _) (show min len2 10 ≤ cap2 by omega) hi2)
        clear hzs RN NU
        go_wp2_with fail
        refine CR.out.mono ?_
        rintro e w8 ⟨rfl, ch8, own8, o8, m8⟩
        have la : M.lasts zs = [([97], gf)] := by unfold Me.lasts; rw [TSH.out.wait, TSH.out.fast, List.take_nil]; rfl
        have fs8 : (M.crash zs).fs gf = some (F.crash zs.tail) := by
          show (crAll M.fs zs.tail ((M.lasts zs).map (·.2))).1 gf = _
          rw [la]
          show (crSt (M.fs, zs.tail) gf).1 gf = _
          rw [crSt_at (s := (M.fs, zs.tail)) TSH.out.file]
          exact upd_same _ _ _
        have AL8 := Lib.hid (all_I ⟨#[97]⟩ gf (F.crash zs.tail) m8 rfl sizeA (by show nFind (M.lasts zs) [97] = some gf; rw [la]; exact a_found gf) fs8)
        have S8 := Lib.hid (show Still w w8 from ch8.still SW6.out (fun k hk => (TSH.out.med.dom k hk).1))
        have R6 := Lib.hid (show Reads w8 w8.heap.size A6 F.now.length F.now from (Reads.of_own (ch8.own O6.out (fun b hb hk => hk (ownSize TSH.out.med.dom (O6.out.lt b hb).1)))))
        have FR := crash_front TSH.out.app zs.tail
        rw [← TSH.out.nowe] at FR
        have FRR := Lib.hid (show l0 <+: (F.crash zs.tail).now ∧ (F.crash zs.tail).now <+: F.now from by
          show l0 <+: crashL F.fast F.wait zs.tail ∧ crashL F.fast F.wait zs.tail <+: F.now
          rw [TSH.out.ffast]
          exact FR)
        have LEN := Lib.hid (show F.now.length ≤ 2000 from by have := TSH.out.len; omega)
        obtain ⟨R, hR⟩ : ∃ R, R = (F.crash zs.tail).now := ⟨_, rfl⟩
        rw [← hR] at AL8 FRR
        clear ch8 o8 m8 la fs8 CR FR hR MD6 O6
        go_wp2_with fail
        refine AL8.out.mono ?_
        rintro e w9 ⟨⟨v9, rfl, o9⟩, s9⟩
        obtain ⟨A9, c9, rfl, g4, g5, g6⟩ := own_form o9
        have B1 := Lib.hid (begins_yes a0 A9 n0 R.length cap0 c9 l0 R w9 w.heap.size w9.heap.size (R0.out.reads.still (Nat.le_refl _) (S8.out.trans s9)) (Reads.of_own o9) FRR.out.1 (by have := FRR.out.2.length_le; have := LEN.out; omega) g4 g5)
        have B2 := Lib.hid (fun (W : World) (q : Still w9 W) => begins_yes A9 A6 R.length F.now.length c9 c6 R F.now W w9.heap.size w9.heap.size ((Reads.of_own o9).still (Nat.le_refl _) q) (((R6.out.still (Nat.le_refl _) s9).more s9.size).still (Nat.le_refl _) q) FRR.out.2 (by have := LEN.out; omega) g1 g2)
        have S9 := Lib.hid (S8.out.trans s9)
        clear o9 s9 AL8 g4 g5 g6
        go_wp2_with fail
        refine B1.out.mono ?_
        rintro e w10 ⟨rfl, s10⟩
        have BB := Lib.hid (B2.out w10 s10)
        have S10 := Lib.hid (S9.out.trans s10)
        clear s10 B2
        go_wp2_with fail
        refine BB.out.mono ?_
        rintro e w11 ⟨rfl, s11⟩
        have S11 := Lib.hid (S10.out.trans s11)
        clear s11
        go_wp2_with fail
        refine (lives_any w11).mono ?_
        rintro e w12 ⟨rfl, s12⟩
        go_wp2_with fail
        go_ret
        exact ⟨rfl, S11.out.trans s12⟩
      · obtain ⟨hc1, hc2⟩ := hc
        have y1 : (i : Int) < (len1 : Int) := by omega
        have y2 : ¬ (i : Int) < 10 := by omega
        obtain ⟨own, M, F, ts⟩ := hh.out
        have AL := Lib.hid (all_I ⟨#[97]⟩ gf F ts.med ts.off sizeA (by rw [ts.now]; exact a_found gf) ts.file)
        have TSH := Lib.hid ts
        clear hh ts
        go_wp2_with fail
        refine AL.out.mono ?_
        rintro e w6 ⟨⟨v6, rfl, o6⟩, s6⟩
        obtain ⟨A6, c6, rfl, g1, g2, g3⟩ := own_form o6
        have O6 := Lib.hid o6
        have S6 := Lib.hid s6
        have MD6 := Lib.hid (TSH.out.med.still s6)
        have SW6 := Lib.hid (TSH.out.still.trans s6)
        have NU := Lib.hid (numbers_k a2 len2 cap2 10 w6 (by omega) hi1 hi2 (fun h => by obtain ⟨b, o, e, _⟩ := RI.out.1.2 h; exact ⟨b, o, e⟩))
        clear o6 s6 AL g3
        go_wp2_with fail
        refine NU.out.mono ?_
        rintro e w7 ⟨rfl, rfl⟩
        obtain ⟨zs, hzs⟩ : ∃ zs, zs = ys.take (min len2 10) := ⟨_, rfl⟩
        have RN := (RI.out.1.chg (Chg.of_still SW6.out (fun _ => False)) (Nat.le_refl _) (fun _ h => h.elim)).front (k := min len2 10) (by omega)
        rw [← hzs] at RN
        have CR := Lib.hid (mcrash_I MD6.out TSH.out.ok (by have := TSH.out.cnt; omega) RN (Nat.le_refl _) (show min len2 10 ≤ cap2 by omega) hi2)
        clear hzs RN NU
        go_wp2_with fail
        refine CR.out.mono ?_
        rintro e w8 ⟨rfl, ch8, own8, o8, m8⟩
        have la : M.lasts zs = [([97], gf)] := by unfold Me.lasts; rw [TSH.out.wait, TSH.out.fast, List.take_nil]; rfl
        have fs8 : (M.crash zs).fs gf = some (F.crash zs.tail) := by
          show (crAll M.fs zs.tail ((M.lasts zs).map (·.2))).1 gf = _
          rw [la]
          show (crSt (M.fs, zs.tail) gf).1 gf = _
          rw [crSt_at (s := (M.fs, zs.tail)) TSH.out.file]
          exact upd_same _ _ _
        have AL8 := Lib.hid (all_I ⟨#[97]⟩ gf (F.crash zs.tail) m8 rfl sizeA (by show nFind (M.lasts zs) [97] = some gf; rw [la]; exact a_found gf) fs8)
        have S8 := Lib.hid (show Still w w8 from ch8.still SW6.out (fun k hk => (TSH.out.med.dom k hk).1))
        have R6 := Lib.hid (show Reads w8 w8.heap.size A6 F.now.length F.now from (Reads.of_own (ch8.own O6.out (fun b hb hk => hk (ownSize TSH.out.med.dom (O6.out.lt b hb).1)))))
        have FR := crash_front TSH.out.app zs.tail
        rw [← TSH.out.nowe] at FR
        have FRR := Lib.hid (show l0 <+: (F.crash zs.tail).now ∧ (F.crash zs.tail).now <+: F.now from by
          show l0 <+: crashL F.fast F.wait zs.tail ∧ crashL F.fast F.wait zs.tail <+: F.now
          rw [TSH.out.ffast]
          exact FR)
        have LEN := Lib.hid (show F.now.length ≤ 2000 from by have := TSH.out.len; omega)
        obtain ⟨R, hR⟩ : ∃ R, R = (F.crash zs.tail).now := ⟨_, rfl⟩
        rw [← hR] at AL8 FRR
        clear ch8 o8 m8 la fs8 CR FR hR MD6 O6
        go_wp2_with fail
        refine AL8.out.mono ?_
        rintro e w9 ⟨⟨v9, rfl, o9⟩, s9⟩
        obtain ⟨A9, c9, rfl, g4, g5, g6⟩ := own_form o9
        have B1 := Lib.hid (begins_yes a0 A9 n0 R.length cap0 c9 l0 R w9 w.heap.size w9.heap.size (R0.out.reads.still (Nat.le_refl _) (S8.out.trans s9)) (Reads.of_own o9) FRR.out.1 (by have := FRR.out.2.length_le; have := LEN.out; omega) g4 g5)
        have B2 := Lib.hid (fun (W : World) (q : Still w9 W) => begins_yes A9 A6 R.length F.now.length c9 c6 R F.now W w9.heap.size w9.heap.size ((Reads.of_own o9).still (Nat.le_refl _) q) (((R6.out.still (Nat.le_refl _) s9).more s9.size).still (Nat.le_refl _) q) FRR.out.2 (by have := LEN.out; omega) g1 g2)
        have S9 := Lib.hid (S8.out.trans s9)
        clear o9 s9 AL8 g4 g5 g6
        go_wp2_with fail
        refine B1.out.mono ?_
        rintro e w10 ⟨rfl, s10⟩
        have BB := Lib.hid (B2.out w10 s10)
        have S10 := Lib.hid (S9.out.trans s10)
        clear s10 B2
        go_wp2_with fail
        refine BB.out.mono ?_
        rintro e w11 ⟨rfl, s11⟩
        have S11 := Lib.hid (S10.out.trans s11)
        clear s11
        go_wp2_with fail
        refine (lives_any w11).mono ?_
        rintro e w12 ⟨rfl, s12⟩
        go_wp2_with fail
        go_ret
        exact ⟨rfl, S11.out.trans s12⟩
end Go.Proofs.Ytlddmgofjeibaaa
