/- Contracts and facts, several texts in one. It proves no statement. -/
import Derived.Test.YtblgphfdicffcaaGreatDoorHfo
import Derived.Test.YtblgphfdicffcaaGreatDoorHfb
import Derived.Test.YtblgphfdicffcaaGreatDoorHfm
import Derived.Test.YtblgphfdicffcaaGreatDoorHfa
import Derived.Outline
import Derived.Deep.DeepMust
import Derived.Deep.QuietTactic
import Derived.BigQuiet
import Derived.RegionTactic
import Derived.ChangeAlike
import Derived.BigRegion
import Derived.Test.YtblgphfdicffcaaGreatDoorHfn
import Derived.Deep.MidRow
import Derived.Deep.WholeRow
import Derived.Deep.DeepCutAuto
import Derived.Great.BuildSlice
import Derived.Great.Walk
import Derived.Stop.BytesEq

/- Contracts: what a log tells: Fresh, Sync, Size, Bytes. It proves no statement. -/


namespace Go.Proofs.YtblgphfdicffcaaGreatDoor
open Go.RowKit Go.Maps Go.WideMaps Go.Sort
set_option linter.unusedVariables false
set_option linter.unusedSimpArgs false

section
variable {w : World} {base g gl k : Nat} {own : Own} {lo : LOwn} {M : Me} {S : Lg} {sv : Value}
theorem lsync_any (h : LM w base g gl own lo M S) (hg : M.good k) (hk : k ≤ 900000) : Calls Tryz.prog 72 #[.pointer (some ⟨gl, 0, none⟩)] w fun e w' => e = .returned (.int .i64 (opSyncDir M).1) ∧ LLeft w w' base g gl own lo (opSyncDir M).2 S := by
  obtain ⟨sv, hl⟩ := h.log
  have WK := Lib.hid (lworks_any hl)
  have k0 := hl.cells.1
  have SD := Lib.hid (syncDir_M h.med hg.ok (by have := hg.cnt; omega))
  have CH := Lib.hid (fun W M' (l : Left w W base g own M') => LLeft.med h l)
  clear hl h
  go_enter Tryz.func72, Tryz.ntmps72
  go_wp2_with fail
  refine WK.out.mono ?_
  rintro e w1 ⟨rfl, rfl⟩
  go_wp2_with fail
  refine SD.out.mono ?_
  rintro e w2 ⟨rfl, l2⟩
  have L2 := Lib.hid (CH.out _ _ l2)
  clear l2
  go_wp2_with fail
  go_ret
  exact ⟨rfl, L2.out⟩
/-- Size: what it answers, what it leaves. -/
def findL (S : Lg) (n : Int) : Option (Nat × (Nat × Nat)) := match S.segs.findIdx? (fun p => decide ((p.1 : Int) = n)) with
  | some i => (S.segs[i]?).map fun p => (i, p)
  | none => none
theorem findL_none {S : Lg} {n : Int} (h : ∀ p ∈ S.segs, (p.1 : Int) ≠ n) : findL S n = none := by
  unfold findL
  have : S.segs.findIdx? (fun p => decide ((p.1 : Int) = n)) = none := by
    rw [List.findIdx?_eq_none_iff]
    intro p hp
    simpa using h p hp
  rw [this]
theorem findL_some {S : Lg} (hok : S.ok) {n : Int} {i : Nat} {p : Nat × Nat} (hp : S.segs[i]? = some p) (e : (p.1 : Int) = n) : findL S n = some (i, p) := by
  unfold findL
  have : S.segs.findIdx? (fun p => decide ((p.1 : Int) = n)) = some i := by
    obtain ⟨k2, e2⟩ := List.getElem?_eq_some_iff.1 hp
    rw [List.findIdx?_eq_some_iff_getElem]
    refine ⟨k2, by rw [e2]; simpa using e, fun j hj => ?_⟩
    have := List.pairwise_iff_getElem.1 hok.rise j i (by omega) k2 hj
    rw [e2] at this
    simp
    omega
  rw [this]
  simp [hp]
def szL (M : Me) (S : Lg) (n : Int) : Nat × Lg := match findL S n with
  | some (i, _) => sizeL M S i
  | none => (0, S)
theorem lSize_any {w0 : World} (h : LM w base g gl own lo M S) (hok : S.ok) (hg : M.good k) (T : SgT0 w0) (s0 : Still w0 w) (n : Int) : Calls Tryz.prog 24 #[.pointer (some ⟨gl, 0, none⟩), .int .i64 n] w fun e w' => e = .returned (.int .i64 ((szL M S n).1 : Int)) ∧ LLeft w w' base g gl own lo M (szL M S n).2 := by
  obtain ⟨sv, hl⟩ := h.log
  have FI := Lib.hid (lfind_any hl hok n)
  have EN := Lib.hid (fun (hh : ∀ p ∈ S.segs, (p.1 : Int) ≠ n) => show szL M S n = (0, S) by unfold szL; rw [findL_none hh])
  have ES := Lib.hid (fun (i : Nat) (p : Nat × Nat) (hp : S.segs[i]? = some p) (e : (p.1 : Int) = n) => show szL M S n = sizeL M S i by unfold szL; rw [findL_some hok hp e])
  have SZ := Lib.hid (fun W i (s : Still w W) (hi : i < S.segs.length) => lsize_any (h.still s) hg (T.still (Still.trans s0 s)) hi (by have := hok.few; omega))
  have HH := Lib.hid h
  clear h hl hok hg T s0
  go_enter Tryz.func24, Tryz.ntmps24
  go_wp2_with fail
  refine FI.out.mono ?_
  rintro e w1 ⟨s1, ⟨hno, rfl⟩ | ⟨i, p, hp, hpe, rfl⟩⟩
  · have E := Lib.hid (EN.out hno)
    have S1 := Lib.hid s1
    clear hno s1
    go_wp2_with fail
    go_ret
    exact ⟨by rw [E.out]; rfl, by rw [E.out]; exact LLeft.still HH.out S1.out⟩
  · have E := Lib.hid (ES.out i p hp hpe)
    have S1 := Lib.hid s1
    have SZ1 := Lib.hid (SZ.out w1 i s1 (List.getElem?_eq_some_iff.1 hp).1)
    clear hp hpe s1 SZ
    go_wp2_with fail
    refine SZ1.out.mono ?_
    rintro e w2 ⟨rfl, l2⟩
    have L2 := Lib.hid (LLeft.of_still S1.out l2)
    clear l2
    go_wp2_with fail
    go_ret
    exact ⟨by rw [E.out]; rfl, by rw [E.out]; exact L2.out⟩
/-- Bytes: a segment's file. -/
def bytesL (M : Me) (S : Lg) (n : Int) : List UInt8 × Int := match findL S n with
  | some _ => M.bytes (nameS n)
  | none => ([], 9)
theorem lbytes_any {w0 : World} (h : LM w base g gl own lo M S) (hok : S.ok) (hg : M.good k) (T : SgT0 w0) (s0 : Still w0 w) (n : Int) : Calls Tryz.prog 89 #[.pointer (some ⟨gl, 0, none⟩), .int .i64 n] w fun e w' => (∃ v, e = .returned (.tuple #[v, .int .i64 (bytesL M S n).2]) ∧ w'.ownsRow w.heap.size 5 1 v (bytesL M S n).1.length (bytesV (bytesL M S n).1)) ∧ Still w w' := by
  obtain ⟨sv, hl⟩ := h.log
  have FI := Lib.hid (lfind_any hl hok n)
  have EN := Lib.hid (fun (hh : ∀ p ∈ S.segs, (p.1 : Int) ≠ n) => show bytesL M S n = ([], 9) by unfold bytesL; rw [findL_none hh])
  have ES := Lib.hid (fun (i : Nat) (p : Nat × Nat) (hp : S.segs[i]? = some p) (e : (p.1 : Int) = n) => show bytesL M S n = M.bytes (nameS n) by unfold bytesL; rw [findL_some hok hp e])
  have NM := Lib.hid (fun W (s : Still w W) => name_any n W (T.still (Still.trans s0 s)))
  have AL := Lib.hid (fun W (s : Still w W) => all_M (nameS n) (h.med.still s) hg.ok (by have := nameS_size n; unfold maxLen; omega))
  have KC := Lib.hid (fun W (s : Still w W) => show W.cell? ⟨gl, 0, none⟩ = some (.pointer (some ⟨g, 0, none⟩)) from (s.cell (p := ⟨gl, 0, none⟩) hl.blk.lt).trans hl.cells.1)
  clear h hl hok hg T s0
  go_enter Tryz.func89, Tryz.ntmps89
  go_wp2_with fail
  refine FI.out.mono ?_
  rintro e w1 ⟨s1, ⟨hno, rfl⟩ | ⟨i, p, hp, hpe, rfl⟩⟩
  · have E := Lib.hid (EN.out hno)
    have S1 := Lib.hid s1
    clear hno s1
    go_wp2_with fail
    go_ret2
    exact ⟨⟨_, by rw [E.out]; rfl, by rw [E.out]; exact World.ownsRow_nil _ _ _ _⟩, S1.out⟩
  · have E := Lib.hid (ES.out i p hp hpe)
    have S1 := Lib.hid s1
    obtain ⟨nm, hnm⟩ : ∃ nm, nm = nameS n := ⟨_, rfl⟩
    rw [← hnm] at E NM AL
    obtain ⟨Z, hZ⟩ : ∃ Z, Z = M.bytes nm := ⟨_, rfl⟩
    rw [← hZ] at E AL
    clear hp hpe s1 hnm hZ EN ES FI
    go_upto_region 4 with fail
    have D1 := Lib.hid (show Still w w1.drew from S1.out.drew)
    go_region_held3 (fun W => W.cell? ⟨gl, 0, none⟩ = some (.pointer (some ⟨g, 0, none⟩))) (first | exact KC.out _ D1.out | exact KC.out _ S3.out | exact KC.out _ S4.out) (first
      | (go_at_call 61; with_reducible refine (NM.out _ D1.out).mono ?_; rintro e w3 ⟨rfl, s3⟩; have S3 := Lib.hid (Still.trans D1.out s3); clear s3)
      | (go_at_call 147; with_reducible refine (AL.out _ S3.out).mono ?_; rintro e w4 ⟨⟨v, rfl, o4⟩, s4⟩; obtain ⟨A4, c4, rfl⟩ := own_formN2 o4; have O4 := Lib.hid (own_lower9 o4 S3.out.size); have S4 := Lib.hid (Still.trans S3.out s4); clear o4 s4))
    all_goals
      obtain ⟨er, her⟩ : ∃ er, er = Z.2 := ⟨_, rfl⟩
      rw [← her]
      go_wp2_with fail
      go_ret2
      exact ⟨⟨_, by rw [E.out, her]; rfl, by rw [E.out]; exact O4.out⟩, S4.out⟩
end
end Go.Proofs.YtblgphfdicffcaaGreatDoor

/- Contract: lives, of layer 16. It proves no statement. -/



namespace Go.Proofs.YtblgphfdicffcaaGreatDoor
open Go.RowKit Go.Maps Go.WideMaps Go.Sort
set_option linter.unusedVariables false
set_option linter.unusedSimpArgs false

theorem bytesL_none (M : Me) (S : Lg) (n : Int) (h : ∀ p ∈ S.segs, (p.1 : Int) ≠ n) : bytesL M S n = ([], 9) := by
  unfold bytesL
  rw [findL_none h]
/-- read, where there is no such file. -/
theorem hread_none {w : World} {base g : Nat} {own : Own} {M : Me} (n : Int) (h : MedI w base own g M) (hok : M.ok) (T : SgT0 w) (E : Int) (hE : (M.bytes (nameF idxF n)).2 = E) (hE0 : E ≠ 0) :
    Calls Tryz.prog 90 #[.pointer (some ⟨g, 0, none⟩), .int .i64 n] w fun e w' => e = .returned (.tuple #[.slice none 0 0, .slice none 0 0, .int .i64 E]) ∧ Still w w' := by
  have IX := Lib.hid (idx_any n w T)
  obtain ⟨nm, hnm⟩ : ∃ nm, nm = nameF idxF n := ⟨_, rfl⟩
  have hsz : nm.size ≤ 12 := by rw [hnm]; exact nameF_size rfl n
  rw [← hnm] at IX hE
  have AL := Lib.hid (fun W (s : Still w W) => all_M nm (h.still s) hok (by unfold maxLen; omega))
  rw [hE] at AL
  clear h hok T hE hnm hsz
  go_enter Tryz.func90, Tryz.ntmps90
  go_wp2_with fail
  refine IX.out.mono ?_
  rintro e w1 ⟨rfl, s1⟩
  have S1 := Lib.hid s1
  clear s1
  go_wp2_with fail
  refine (AL.out _ S1.out).mono ?_
  rintro e w2 ⟨⟨v, rfl, o2⟩, s2⟩
  have S2 := Lib.hid (Still.trans S1.out s2)
  clear o2 s2
  go_wp2_with fail
  go_ret3
  exact ⟨rfl, S2.out⟩
/-- Load, where there is no such file. -/
theorem hload_none {w0 w : World} {base g gl k : Nat} {own : Own} {lo : LOwn} {M : Me} {S : Lg} (h : LM w base g gl own lo M S) (hok : S.ok) (hg : M.good k) (T : SgT0 w0) (s0 : Still w0 w) (n : Int) (E : Int) (hE : (M.bytes (nameF idxF n)).2 = E) (hE0 : E ≠ 0) :
    Calls Tryz.prog 36 #[.pointer (some ⟨gl, 0, none⟩), .pointer (some ⟨g, 0, none⟩), .int .i64 n] w fun e w' => e = .returned (.tuple #[.pointer none, .int .i64 E]) ∧ Still w w' := by
  have BY := Lib.hid (lbytes_any h hok hg T s0 (-1))
  rw [bytesL_none M S (-1) (fun p _ => by omega)] at BY
  have RD := Lib.hid (fun W (s : Still w W) => hread_none n (h.med.still s) hg.ok (T.still (Still.trans s0 s)) E hE hE0)
  clear h hok hg T s0 hE
  go_enter Tryz.func36, Tryz.ntmps36
  go_wp2_with fail
  refine BY.out.mono ?_
  rintro e w1 ⟨⟨v, rfl, o1⟩, s1⟩
  have S1 := Lib.hid s1
  clear o1 s1
  go_wp2_with fail
  refine (RD.out _ S1.out).mono ?_
  rintro e w2 ⟨rfl, s2⟩
  have S2 := Lib.hid (Still.trans S1.out s2)
  clear s2
  go_wp2_with fail
  go_ret2
  exact ⟨rfl, S2.out⟩
/-- Newest, of a medium without files. -/
theorem hnewest_none {w : World} {base g : Nat} {own : Own} {M : Me} (h : MedI w base own g M) (hok : M.ok) (hcnt : M.cnt ≤ 1000000) (hn : M.names = []) :
    Calls Tryz.prog 35 #[.pointer (some ⟨g, 0, none⟩)] w fun e w' => e = .returned (.int .i64 (-1)) ∧ Still w w' := by
  have LI := Lib.hid (list_M h hok hcnt)
  rw [hn] at LI
  clear h hok hcnt hn
  go_enter Tryz.func35, Tryz.ntmps35
  go_wp2_with fail
  refine LI.out.mono ?_
  rintro e w1 ⟨⟨v, rfl, o1⟩, s1⟩
  have S1 := Lib.hid s1
  obtain ⟨A, c, rfl⟩ : ∃ A c, v = .slice A 0 c := by
    rcases o1.2 with ⟨h, _⟩ | ⟨b, cap, cur, h, _⟩
    · exact ⟨_, _, h⟩
    · exact ⟨_, _, h⟩
  clear o1 s1
  go_wp2_with fail
  go_loopw [3, 11] (fun nv iv wr => nv = .int .i64 (-1) ∧ iv = .int .i64 0 ∧ wr = w1) (fun _ _ _ => 0)
  case atStart => exact ⟨rfl, rfl, rfl⟩
  case round =>
    obtain ⟨rfl, rfl, rfl⟩ := hrel
    go_wp2_with fail
    go_ret
    exact ⟨rfl, S1.out⟩
theorem name7 : nameF idxF 7 = ⟨#[105, 100, 120, 46, 48, 48, 48, 48, 48, 48, 48, 55]⟩ := by decide +kernel
theorem bytes_new (room : Int) (s : ByteArray) : ((Me.new room).bytes s).2 = 9 := by
  unfold Me.bytes Me.find
  rw [if_neg (by show ¬ (false = true); decide)]
  rfl
set_option maxRecDepth 100000 in
set_option maxHeartbeats 3200000 in
theorem hlives (w : World) (T : SgT0 w) : Calls Tryz.prog 40 #[] w fun e w' => e = .returned (.bool true) ∧ Still w w' := by
  have NW := Lib.hid (new_I 100 w ⟨by decide, by decide⟩)
  have HT := Lib.hid T
  clear T
  go_enter Tryz.func40, Tryz.ntmps40
  go_wp2_with fail
  refine NW.out.mono ?_
  rintro e w1 ⟨g, own, rfl, hg, med, s1⟩
  have OPN := Lib.hid (open_any (k := 0) med (Me.new_good ⟨by decide, by decide⟩) (by omega) (HT.out.still s1) 128 rfl (fun p hp => by cases hp))
  have S1 := Lib.hid s1
  have MED := Lib.hid med
  clear med s1 hg NW
  go_wp2_with fail
  refine OPN.out.mono ?_
  rintro e w2 ⟨s2, ⟨h, _⟩ | ⟨_, h, _⟩ | ⟨_, _, gl, rfl, lo, lm, _, _, _⟩⟩
  · exact absurd h (by decide)
  · exact absurd ⟨by decide, by decide⟩ h
  have S2 := Lib.hid (Still.trans S1.out s2)
  have sok : (logOf 128 []).ok := ⟨⟨by decide, by decide⟩, fun p hp => (by cases hp), List.Pairwise.nil, (by decide), Nat.le_refl _, fun e => (by cases e)⟩
  have LD := Lib.hid (hload_none (k := 0) (show LM w2 w.heap.size g gl own lo (Me.new 100) (logOf 128 []) from lm) sok (Me.new_good ⟨by decide, by decide⟩) HT.out S2.out 0 9 (bytes_new _ _) (by decide))
  have MD2 := Lib.hid (MED.out.still s2)
  clear lm s2 OPN sok
  go_wp2_with fail
  refine LD.out.mono ?_
  rintro e w3 ⟨rfl, s3⟩
  have S3 := Lib.hid (Still.trans S2.out s3)
  have IX := Lib.hid (idx_any 7 w3 (HT.out.still S3.out))
  rw [name7] at IX
  have MD3 := Lib.hid (MD2.out.still s3)
  clear s3 LD
  go_wp2_with fail
  refine IX.out.mono ?_
  rintro e w4 ⟨rfl, s4⟩
  have S4 := Lib.hid (Still.trans S3.out s4)
  have NE := Lib.hid (hnewest_none (MD3.out.still s4) (Me.new_ok ⟨by decide, by decide⟩) (by decide) rfl)
  clear s4 IX
  go_wp2_with fail
  refine NE.out.mono ?_
  rintro e w5 ⟨rfl, s5⟩
  have S5 := Lib.hid (Still.trans S4.out s5)
  clear s5
  go_wp2_with fail
  go_ret
  exact ⟨rfl, S5.out⟩
end Go.Proofs.YtblgphfdicffcaaGreatDoor

/- The document's own Within. It proves no statement. -/








namespace Go.Proofs.YtblgphfdicffcaaGreatDoor
open Go.RowKit
set_option linter.unusedVariables false
set_option linter.unusedSimpArgs false

theorem within_lo (x lo hi : Int) (w : World) (h : x < lo) :
    Calls Tryz.prog 27 #[.int .i64 x, .int .i64 lo, .int .i64 hi] w fun e w' => e = .returned (.int .i64 lo) ∧ w = w' := by
  go_enter Tryz.func27, Tryz.ntmps27
  go_wp2
  go_ret
  exact ⟨rfl, rfl⟩
theorem within_hi (x lo hi : Int) (w : World) (h1 : lo ≤ x) (h : hi < x) :
    Calls Tryz.prog 27 #[.int .i64 x, .int .i64 lo, .int .i64 hi] w fun e w' => e = .returned (.int .i64 hi) ∧ w = w' := by
  go_enter Tryz.func27, Tryz.ntmps27
  go_wp2
  go_ret
  exact ⟨rfl, rfl⟩
theorem within_in (x lo hi : Int) (w : World) (h1 : lo ≤ x) (h : x ≤ hi) :
    Calls Tryz.prog 27 #[.int .i64 x, .int .i64 lo, .int .i64 hi] w fun e w' => e = .returned (.int .i64 x) ∧ w = w' := by
  go_enter Tryz.func27, Tryz.ntmps27
  go_wp2
  go_ret
  exact ⟨rfl, rfl⟩
/-- A number between two others. -/
theorem within_any (x lo hi : Int) (w : World) (hh : lo ≤ hi) :
    Calls Tryz.prog 27 #[.int .i64 x, .int .i64 lo, .int .i64 hi] w fun e w' => (∃ y : Int, lo ≤ y ∧ y ≤ hi ∧ e = .returned (.int .i64 y)) ∧ w = w' := by
  by_cases h1 : x < lo
  · exact (within_lo x lo hi w h1).mono fun e w' ⟨he, hw⟩ => ⟨⟨lo, by omega, hh, he⟩, hw⟩
  · by_cases h2 : hi < x
    · exact (within_hi x lo hi w (by omega) h2).mono fun e w' ⟨he, hw⟩ => ⟨⟨hi, hh, by omega, he⟩, hw⟩
    · exact (within_in x lo hi w (by omega) (by omega)).mono fun e w' ⟨he, hw⟩ => ⟨⟨x, by omega, by omega, he⟩, hw⟩

theorem within_nat (x hi : Nat) (w : World) :
    Calls Tryz.prog 27 #[.int .i64 x, .int .i64 0, .int .i64 hi] w fun e w' => e = .returned (.int .i64 (min x hi : Nat)) ∧ w = w' := by
  by_cases h2 : hi < x
  · rw [show min x hi = hi by omega]
    exact within_hi x 0 hi w (by omega) (by omega)
  · rw [show min x hi = x by omega]
    exact within_in x 0 hi w (by omega) (by omega)

end Go.Proofs.YtblgphfdicffcaaGreatDoor

/- Contracts: segments' names, by the document. It proves no statement. -/


namespace Go.Proofs.YtblgphfdicffcaaGreatDoor
open Go.RowKit
set_option linter.unusedVariables false
set_option linter.unusedSimpArgs false

theorem slice_dec (w : World) (q : Nat) (h : q < 10) : (Instr.slice 9 (.string ⟨#[48, 49, 50, 51, 52, 53, 54, 55, 56, 57]⟩) (some (.int .i64 (q : Int))) (some (.int .i64 ((q + 1 : Nat) : Int))) none).run Tryz.prog w = .ok (.string ⟨#[UInt8.ofNat (48 + q)]⟩) w := by
  rw [run_slice_string w 9 _ .i64 .i64 (q : Int) ((q + 1 : Nat) : Int) (by kernel_rfl) (by omega) (by omega) (by have : (⟨#[48, 49, 50, 51, 52, 53, 54, 55, 56, 57]⟩ : ByteArray).size = 10 := rfl; omega)]
  congr 2
  obtain rfl | rfl | rfl | rfl | rfl | rfl | rfl | rfl | rfl | rfl : q = 0 ∨ q = 1 ∨ q = 2 ∨ q = 3 ∨ q = 4 ∨ q = 5 ∨ q = 6 ∨ q = 7 ∨ q = 8 ∨ q = 9 := by omega
  all_goals decide +kernel
theorem catR (a b : List UInt8) : (⟨a.toArray⟩ : ByteArray) ++ ⟨b.toArray⟩ = ⟨(a ++ b).toArray⟩ := by
  apply ByteArray.ext
  simp [ByteArray.data_append]
theorem sizeR (a : List UInt8) : (⟨a.toArray⟩ : ByteArray).size = a.length := by simp [ByteArray.size]
set_option maxRecDepth 100000 in
theorem rname_any (n : Int) (w : World) : Calls Tryz.prog 103 #[.int .i64 n] w fun e w' => e = .returned (.string (nameS n)) ∧ w' = w := by
  by_cases h0 : n < 0
  · have e : nameS n = ⟨#[]⟩ := by unfold nameS; rw [if_neg (by omega)]
    rw [e]
    clear e
    go_enter Tryz.func103, Tryz.ntmps103
    go_wp2_with fail
    go_ret
    exact ⟨rfl, rfl⟩
  by_cases h1 : 1048576 ≤ n
  · have e : nameS n = ⟨#[]⟩ := by unfold nameS; rw [if_neg (by omega)]
    rw [e]
    clear e
    go_enter Tryz.func103, Tryz.ntmps103
    go_wp2_with fail
    go_ret
    exact ⟨rfl, rfl⟩
  obtain ⟨m, rfl⟩ := Int.eq_ofNat_of_zero_le (show 0 ≤ n by omega)
  have hm : m < 1048576 := by omega
  have HM := Lib.hid hm
  obtain ⟨V0, hV0⟩ : ∃ V, V = nameS m := ⟨_, rfl⟩
  have HV0 := Lib.hid hV0
  rw [← hV0]
  clear h0 hm hV0
  go_enter Tryz.func103, Tryz.ntmps103
  go_wp2_with fail
  go_loopw [0, 3, 4] (fun nv sv iv wr => ∃ (i k : Nat) (S : ByteArray), nv = .int .i64 k ∧ sv = .string S ∧ iv = .int .i64 i ∧ i ≤ 8 ∧ Hid (k = m / 10 ^ i ∧ S = ⟨(dig i m).toArray⟩ ∧ wr = w)) (fun _ _ iv _ => 8 - (intOf iv).toNat)
  case atStart => exact ⟨0, m, ⟨#[]⟩, rfl, rfl, rfl, by omega, by simp, rfl, rfl⟩
  case round =>
    obtain ⟨i, k, S, rfl, rfl, rfl, hi, hh⟩ := hrel
    obtain ⟨hk, hS, hw⟩ := hh.out
    by_cases hlt : i < 8
    · have hkm : k < 1048576 := by
        have : m / 10 ^ i ≤ m := Nat.div_le_self _ _
        have := HM.out
        omega
      obtain ⟨q, hq⟩ : ∃ q, q = k % 10 := ⟨_, rfl⟩
      obtain ⟨r, hr⟩ : ∃ r, r = k / 10 := ⟨_, rfl⟩
      have e1 : (k : Int) % 10 = (q : Int) := by omega
      have e1' : Int.tmod (k : Int) 10 = (q : Int) := by rw [Int.tmod_eq_emod_of_nonneg (by omega)]; omega
      have e2 : Int.tdiv (k : Int) 10 = (r : Int) := by rw [Int.tdiv_eq_ediv_of_nonneg (by omega)]; omega
      have e2' : (k : Int) / 10 = (r : Int) := by omega
      have hq10 : q < 10 := by omega
      have sl := fun W => slice_dec W q hq10
      obtain ⟨q1, hq1⟩ : ∃ q1, q1 = q + 1 := ⟨_, rfl⟩
      rw [← hq1] at sl
      have e3 : (q : Int) + 1 = (q1 : Int) := by omega
      obtain ⟨D, hD⟩ : ∃ D : ByteArray, D = ⟨#[UInt8.ofNat (48 + q)]⟩ := ⟨_, rfl⟩
      rw [← hD] at sl
      obtain ⟨V, hV⟩ : ∃ V, V = D ++ S := ⟨_, rfl⟩
      have a1 : D ++ S = V := hV.symm
      have NX := Lib.hid (show V = ⟨(dig (i + 1) m).toArray⟩ ∧ r = m / 10 ^ (i + 1) from by
        constructor
        · rw [hV, hD, hS, dig_front]
          have e4 := catR [UInt8.ofNat (48 + q)] (dig i m)
          rw [show (⟨#[UInt8.ofNat (48 + q)]⟩ : ByteArray) = ⟨[UInt8.ofNat (48 + q)].toArray⟩ from rfl, e4, hq, hk]
          rfl
        · rw [hr, hk, Nat.div_div_eq_div_mul, ← Nat.pow_succ])
      have z1 : D.size + S.size ≤ 9223372036854775807 := by
        have s1 : D.size = 1 := by rw [hD]; rfl
        have s2 : S.size = i := by rw [hS, sizeR, dig_length]
        omega
      have HW := Lib.hid hw
      have lsz : (⟨#[48, 49, 50, 51, 52, 53, 54, 55, 56, 57]⟩ : ByteArray).size = 10 := rfl
      have f0 : (0 : Int) ≤ (q : Int) := by omega
      have f1 : (q1 : Int) ≤ 10 := by omega
      have f2 : (q : Int) ≤ (q1 : Int) := by omega
      have f3 : (0 : Int) ≤ (q1 : Int) := by omega
      have w64r : wrap64 (r : Int) = (r : Int) := by unfold wrap64; omega
      clear hh hk hS hw hq hr hq1 hD hV hkm h1
      go_wp2_with fail
      go_roundw
      case rel => exact ⟨i + 1, r, V, by go_num, by go_num, by go_num, by omega, NX.out.2, NX.out.1, HW.out⟩
      case measure => simp [intOf]; omega
    · obtain rfl : i = 8 := by omega
      have a1 : (⟨#[115, 101, 103, 46]⟩ : ByteArray) ++ S = V0 := by
        rw [hS, HV0.out, nameS_nat HM.out]
        have e2 := catR [115, 101, 103, 46] (dig 8 m)
        rw [show (⟨#[115, 101, 103, 46]⟩ : ByteArray) = ⟨[115, 101, 103, 46].toArray⟩ from rfl, e2]
        rfl
      have z1 : (⟨#[115, 101, 103, 46]⟩ : ByteArray).size + S.size ≤ 9223372036854775807 := by
        have s1 : (⟨#[115, 101, 103, 46]⟩ : ByteArray).size = 4 := rfl
        have s2 : S.size = 8 := by rw [hS, sizeR, dig_length]
        omega
      have HW := Lib.hid hw
      clear hh hk hS hw
      go_wp2_with fail
      go_ret
      exact ⟨rfl, HW.out⟩
end Go.Proofs.YtblgphfdicffcaaGreatDoor

/- Contract: the names of files of hints, by the document. It proves no statement. -/


namespace Go.Proofs.YtblgphfdicffcaaGreatDoor
open Go.RowKit
set_option linter.unusedVariables false
set_option linter.unusedSimpArgs false

theorem slice_tail8 (w : World) (l : List UInt8) (h : l.length = 8) (f : List UInt8) (hf : f.length = 4) : (Instr.slice 9 (.string ⟨(f ++ l).toArray⟩) (some (.int .i64 4)) none none).run Tryz.prog w = .ok (.string ⟨l.toArray⟩) w := by
  have h12 : (⟨(f ++ l).toArray⟩ : ByteArray).size = 12 := by simp [ByteArray.size, h, hf]
  rw [run_slice_string_l w 9 _ (by kernel_rfl) .i64 4 (by omega) (by omega)]
  congr 2
  apply ByteArray.ext
  rw [ByteArray.data_extract, h12]
  apply Array.ext'
  simp [hf, h]
  exact List.take_of_length_le (by omega)
set_option maxRecDepth 100000 in
theorem rhname_any (f : List UInt8) (hf : f.length = 4) (n : Int) (w : World) : Calls Tryz.prog 46 #[.string ⟨f.toArray⟩, .int .i64 n] w fun e w' => e = .returned (.string (nameF f n)) ∧ w' = w := by
  have RN := Lib.hid (rname_any n w)
  by_cases hn : 0 ≤ n ∧ n < 1048576
  · obtain ⟨m, rfl⟩ := Int.eq_ofNat_of_zero_le hn.1
    have hm : m < 1048576 := by omega
    rw [nameS_nat hm] at RN
    obtain ⟨F, hF⟩ : ∃ F : ByteArray, F = ⟨f.toArray⟩ := ⟨_, rfl⟩
    obtain ⟨X, hX⟩ : ∃ X : ByteArray, X = ⟨(dig 8 m).toArray⟩ := ⟨_, rfl⟩
    obtain ⟨Y, hY⟩ : ∃ Y : ByteArray, Y = ⟨(sgnB m).toArray⟩ := ⟨_, rfl⟩
    have SL := Lib.hid (fun W => slice_tail8 W (dig 8 m) (dig_length 8 m) [115, 101, 103, 46] rfl)
    rw [show [115, 101, 103, 46] ++ dig 8 m = sgnB m from rfl, ← hX, ← hY] at SL
    rw [← hY] at RN
    have a1 : F ++ X = nameF f m := by rw [hF, hX, nameF_nat f hm, catR]
    have hne : Y.toList.isEmpty = false := by
      rw [hY, ByteArray.toList_eq]
      rfl
    have z1 : F.size + X.size ≤ 9223372036854775807 := by
      have h1 : F.size = 4 := by rw [hF, sizeR, hf]
      have h2 : X.size = 8 := by rw [hX, sizeR, dig_length]
      omega
    have sl := SL.out
    rw [← hF]
    obtain ⟨V, hV⟩ : ∃ V, V = nameF f m := ⟨_, rfl⟩
    rw [← hV] at a1 ⊢
    clear hn hm hF hX hY hf hV SL
    go_enter Tryz.func46, Tryz.ntmps46
    go_wp2_with fail
    refine RN.out.mono ?_
    rintro e w1 ⟨rfl, rfl⟩
    go_wp2_with fail
    go_ret
    exact ⟨rfl, rfl⟩
  · have e0 : nameS n = ⟨#[]⟩ := by unfold nameS; rw [if_neg hn]
    rw [e0] at RN
    rw [nameF_out f hn]
    obtain ⟨F, hF⟩ : ∃ F : ByteArray, F = ⟨f.toArray⟩ := ⟨_, rfl⟩
    rw [← hF]
    clear hn e0 hf hF
    go_enter Tryz.func46, Tryz.ntmps46
    go_wp2_with fail
    refine RN.out.mono ?_
    rintro e w1 ⟨rfl, rfl⟩
    go_wp2_with fail
    go_ret
    exact ⟨rfl, rfl⟩
end Go.Proofs.YtblgphfdicffcaaGreatDoor

/- Contracts: Size and List of no medium. It proves no statement. -/


namespace Go.Proofs.YtblgphfdicffcaaGreatDoor
open Go.RowKit Go.Maps Go.WideMaps
set_option linter.unusedVariables false
set_option linter.unusedSimpArgs false

theorem works_nil (w : World) : Calls Tryz.prog 99 #[.pointer none] w fun e w' => e = .returned (.int .i64 1) ∧ w = w' := by
  go_enter Tryz.func99, Tryz.ntmps99
  go_wp2
  go_ret
  exact ⟨rfl, rfl⟩
theorem find_nil (s : ByteArray) (w : World) : Calls Tryz.prog 117 #[.pointer none, .string s] w fun e w' => e = .returned (.tuple #[.pointer none, .int .i64 1]) ∧ w = w' := by
  have HW := Lib.hid (works_nil w)
  go_enter Tryz.func117, Tryz.ntmps117
  go_wp2_with fail
  refine HW.out.mono ?_
  rintro e w1 ⟨rfl, rfl⟩
  go_wp2_with fail
  go_ret2
  exact ⟨rfl, rfl⟩
theorem size_nil (s : ByteArray) (w : World) : Calls Tryz.prog 67 #[.pointer none, .string s] w fun e w' => e = .returned (.tuple #[.int .i64 0, .int .i64 1]) ∧ w = w' := by
  have HW := Lib.hid (find_nil s w)
  go_enter Tryz.func67, Tryz.ntmps67
  go_wp2_with fail
  refine HW.out.mono ?_
  rintro e w1 ⟨rfl, rfl⟩
  go_wp2_with fail
  go_ret2
  exact ⟨rfl, rfl⟩
theorem list_nil (w : World) : Calls Tryz.prog 68 #[.pointer none] w fun e w' => e = .returned (.slice none 0 0) ∧ Still w w' := by
  have HW := Lib.hid (works_nil w)
  go_enter Tryz.func68, Tryz.ntmps68
  go_wp2_with fail
  refine HW.out.mono ?_
  rintro e w1 ⟨rfl, rfl⟩
  go_wp2_with fail
  go_ret
  exact ⟨rfl, Still.refl _⟩
end Go.Proofs.YtblgphfdicffcaaGreatDoor

/- Mathematics of open addressed slots: searches, keys put and taken away. It proves no statement. -/

namespace Go.Proofs.YtblgphfdicffcaaGreatDoor
set_option linter.unusedVariables false
set_option linter.unusedSimpArgs false

/-- A slot. -/
inductive Sl where
  | empty : Sl
  | dead : Sl
  | full : List UInt8 → List Int → Sl
def Sl.ends (k : List UInt8) : Sl → Bool
  | .empty => true
  | .dead => false
  | .full k' _ => decide (k' = k)
def Sl.pair : Sl → Option (List UInt8 × List Int)
  | .full k v => some (k, v)
  | _ => none
def Sl.isFull : Sl → Bool
  | .full _ _ => true
  | _ => false
def Sl.isDead : Sl → Bool
  | .dead => true
  | _ => false
def Sl.key : Sl → List UInt8
  | .full k _ => k
  | _ => List.replicate 32 0
def Sl.val (m : Nat) : Sl → List Int
  | .full _ v => v
  | _ => List.replicate m 0
def Sl.st : Sl → Nat
  | .empty => 0
  | .dead => 1
  | .full _ _ => 2
def fulls (S : List Sl) : List (List UInt8 × List Int) := S.filterMap Sl.pair
def keysN (S : List Sl) : Nat := S.countP Sl.isFull
def deadN (S : List Sl) : Nat := S.countP Sl.isDead
/-- Where a search begins. -/
def homeN (k : List UInt8) : Nat := (k.getD 0 0).toNat + 256 * (k.getD 1 0).toNat + 65536 * (k.getD 2 0).toNat + 16777216 * (k.getD 3 0).toNat
def pos (k : List UInt8) (n j : Nat) : Nat := (homeN k % n + j) % n
def slot (S : List Sl) (i : Nat) : Sl := S.getD i .empty
theorem slot_eq {S : List Sl} {i : Nat} (h : i < S.length) : S[i]? = some (slot S i) := by simp [slot, List.getD, h]
theorem slot_of {S : List Sl} {i : Nat} {x : Sl} (h : S[i]? = some x) : slot S i = x := by simp [slot, List.getD, h]
theorem pos_lt (k : List UInt8) {n : Nat} (j : Nat) (h : 0 < n) : pos k n j < n := Nat.mod_lt _ h
theorem pos_next (k : List UInt8) (n j : Nat) : pos k n (j + 1) = (pos k n j + 1) % n := by unfold pos; rw [Nat.mod_add_mod (homeN k % n + j), Nat.add_assoc]
theorem pos_zero (k : List UInt8) (n : Nat) : pos k n 0 = homeN k % n := by unfold pos; rw [Nat.add_zero, Nat.mod_mod]
theorem pos_inj (k : List UInt8) {n i j : Nat} (hi : i < n) (hj : j < n) (h : pos k n i = pos k n j) : i = j := by
  unfold pos at h
  have hh : homeN k % n < n := Nat.mod_lt _ (by omega)
  generalize homeN k % n = a at *
  have e1 : (a + i) % n = if a + i < n then a + i else a + i - n := by
    split
    · rename_i h1; exact Nat.mod_eq_of_lt h1
    · rename_i h1; rw [Nat.mod_eq_sub_mod (by omega)]; exact Nat.mod_eq_of_lt (by omega)
  have e2 : (a + j) % n = if a + j < n then a + j else a + j - n := by
    split
    · rename_i h1; exact Nat.mod_eq_of_lt h1
    · rename_i h1; rw [Nat.mod_eq_sub_mod (by omega)]; exact Nat.mod_eq_of_lt (by omega)
  rw [e1, e2] at h
  split at h <;> split at h <;> omega
theorem pos_surj (k : List UInt8) {n p : Nat} (hp : p < n) : ∃ i, i < n ∧ pos k n i = p := by
  have hh : homeN k % n < n := Nat.mod_lt _ (by omega)
  unfold pos
  generalize homeN k % n = a at *
  by_cases h : a ≤ p
  · exact ⟨p - a, by omega, by rw [show a + (p - a) = p by omega]; exact Nat.mod_eq_of_lt hp⟩
  · exact ⟨p + n - a, by omega, by rw [show a + (p + n - a) = p + n by omega, Nat.add_mod_right]; exact Nat.mod_eq_of_lt hp⟩

/-- A search for k ends behind j steps more. -/
structure Stop (S : List Sl) (k : List UInt8) (j : Nat) : Prop where
  lt : j < S.length
  yes : (slot S (pos k S.length j)).ends k = true
  no : ∀ i, i < j → (slot S (pos k S.length i)).ends k = false
theorem Stop.uniq {S : List Sl} {k : List UInt8} {i j : Nat} (h1 : Stop S k i) (h2 : Stop S k j) : i = j := by
  rcases Nat.lt_trichotomy i j with h | h | h
  · have := h2.no i h; rw [h1.yes] at this; cases this
  · exact h
  · have := h1.no j h; rw [h2.yes] at this; cases this
theorem least_ex (P : Nat → Bool) : ∀ n i, i < n → P i = true → ∃ j, j ≤ i ∧ P j = true ∧ ∀ i', i' < j → P i' = false := by
  intro n
  induction n with
  | zero => intro i hi; omega
  | succ n ih =>
    intro i hi hP
    by_cases h : ∃ i', i' < i ∧ P i' = true
    · obtain ⟨i', h1, h2⟩ := h
      obtain ⟨j, h3, h4, h5⟩ := ih i' (by omega) h2
      exact ⟨j, by omega, h4, h5⟩
    · refine ⟨i, Nat.le_refl _, hP, fun i' hi' => ?_⟩
      cases hc : P i' with
      | false => rfl
      | true => exact absurd ⟨i', hi', hc⟩ h
theorem empty_ex : ∀ S : List Sl, keysN S + deadN S < S.length → ∃ p, p < S.length ∧ S[p]? = some Sl.empty := by
  intro S
  induction S with
  | nil => intro h; simp at h
  | cons x r ih =>
    intro h
    cases x with
    | empty => exact ⟨0, by simp, rfl⟩
    | dead =>
      obtain ⟨p, h1, h2⟩ := ih (by simp only [keysN, deadN, List.countP_cons, List.length_cons, Sl.isFull, Sl.isDead] at h ⊢; simp at h; omega)
      exact ⟨p + 1, by simp; omega, by simpa using h2⟩
    | full k v =>
      obtain ⟨p, h1, h2⟩ := ih (by simp only [keysN, deadN, List.countP_cons, List.length_cons, Sl.isFull, Sl.isDead] at h ⊢; simp at h; omega)
      exact ⟨p + 1, by simp; omega, by simpa using h2⟩

/-- What holds in a table. -/
structure Inv (m : Nat) (S : List Sl) : Prop where
  pow : ∃ e, S.length = 8 * 2 ^ e
  probe : ∀ (p : Nat) (k : List UInt8) (v : List Int), S[p]? = some (Sl.full k v) → k.length = 32 ∧ v.length = m ∧ ∃ j, Stop S k j ∧ pos k S.length j = p
  load : 4 * (keysN S + deadN S) ≤ 3 * S.length
section
variable {m : Nat} {S : List Sl} {k : List UInt8} {v : List Int} {j : Nat}
theorem Inv.len8 (h : Inv m S) : 8 ≤ S.length := by
  obtain ⟨e, he⟩ := h.pow
  have := Nat.two_pow_pos e
  omega
theorem Inv.stop_ex (h : Inv m S) (k : List UInt8) : ∃ j, Stop S k j := by
  have h8 := h.len8
  have hl := h.load
  obtain ⟨p, hp, he⟩ := empty_ex S (by omega)
  obtain ⟨i, hi, hpi⟩ := pos_surj k hp
  obtain ⟨j, h1, h2, h3⟩ := least_ex (fun i => (slot S (pos k S.length i)).ends k) S.length i hi (by simp only [hpi, slot_of he]; rfl)
  exact ⟨j, by omega, h2, h3⟩
theorem mem_fulls {x : List UInt8 × List Int} : x ∈ fulls S ↔ ∃ p : Nat, S[p]? = some (Sl.full x.1 x.2) := by
  unfold fulls
  rw [List.mem_filterMap]
  constructor
  · rintro ⟨a, ha, hx⟩
    obtain ⟨p, hp⟩ := List.mem_iff_getElem?.1 ha
    cases a with
    | empty => cases hx
    | dead => cases hx
    | full k v => cases hx; exact ⟨p, hp⟩
  · rintro ⟨p, hp⟩
    exact ⟨_, List.mem_iff_getElem?.2 ⟨p, hp⟩, rfl⟩
theorem Inv.at_uniq (h : Inv m S) {p q : Nat} {v' : List Int} (hp : S[p]? = some (Sl.full k v)) (hq : S[q]? = some (Sl.full k v')) : p = q ∧ v = v' := by
  obtain ⟨_, _, i, hi, hpi⟩ := h.probe p k v hp
  obtain ⟨_, _, i', hi', hqi⟩ := h.probe q k v' hq
  have := hi.uniq hi'
  subst this
  have e : p = q := hpi.symm.trans hqi
  subst e
  rw [hp] at hq
  cases hq
  exact ⟨rfl, rfl⟩
theorem Inv.uniq (h : Inv m S) {v' : List Int} (hp : (k, v) ∈ fulls S) (hq : (k, v') ∈ fulls S) : v = v' := by
  obtain ⟨p, hp⟩ := mem_fulls.1 hp
  obtain ⟨q, hq⟩ := mem_fulls.1 hq
  exact (h.at_uniq hp hq).2
/-- Where a search ends there is the key, or the key is nowhere. -/
theorem Inv.find (h : Inv m S) (s : Stop S k j) : (∃ v, S[pos k S.length j]? = some (Sl.full k v)) ∨ (S[pos k S.length j]? = some Sl.empty ∧ ∀ v, (k, v) ∉ fulls S) := by
  have h8 := h.len8
  have hlt := pos_lt k j (show 0 < S.length by omega)
  have hs := slot_eq hlt
  have hy := s.yes
  cases hc : slot S (pos k S.length j) with
  | empty =>
    rw [hc] at hs
    refine .inr ⟨hs, fun v hv => ?_⟩
    obtain ⟨p, hp⟩ := mem_fulls.1 hv
    obtain ⟨_, _, i, hi, hpi⟩ := h.probe p k v hp
    have := hi.uniq s
    subst this
    rw [hpi, hp] at hs
    cases hs
  | dead => rw [hc] at hy; cases hy
  | full k' v =>
    rw [hc] at hy hs
    have e : k' = k := of_decide_eq_true hy
    subst e
    exact .inl ⟨v, hs⟩
/-- Slots of which one was given another content: searches that don't meet it in a new way go as they went. -/
theorem Stop.set {p : Nat} {x : Sl} {k' : List UInt8} (s : Stop S k' j) (hx : ∀ y, S[p]? = some y → x.ends k' = y.ends k') : Stop (S.set p x) k' j := by
  have key : ∀ q, (slot (S.set p x) q).ends k' = (slot S q).ends k' := by
    intro q
    by_cases hq : q < S.length
    · by_cases e : p = q
      · subst e
        have h1 : (S.set p x)[p]? = some x := by simp [hq]
        rw [slot_of h1]
        exact hx _ (slot_eq hq)
      · have h1 : (S.set p x)[q]? = some (slot S q) := by rw [List.getElem?_set_ne e]; exact slot_eq hq
        rw [slot_of h1]
    · have h1 : (S.set p x)[q]? = none := by simp; omega
      have h2 : S[q]? = none := by simp; omega
      simp [slot, List.getD, h1, h2]
  exact ⟨by simpa using s.lt, by rw [List.length_set, key]; exact s.yes, fun i hi => by rw [List.length_set, key]; exact s.no i hi⟩
/-- .. or meet it on their way. -/
theorem Stop.set_dead {p : Nat} {k' : List UInt8} {kk : List UInt8} {vv : List Int} (s : Stop S k' j) (hp : S[p]? = some (Sl.full kk vv)) (hne : kk ≠ k') : Stop (S.set p .dead) k' j :=
  s.set fun y hy => by rw [hp] at hy; cases hy; simp [Sl.ends, hne]
theorem Stop.set_full {p : Nat} {k' : List UInt8} {kk : List UInt8} {vv : List Int} (s : Stop S k' j) (hp : S[p]? = some Sl.empty) (hne : pos k' S.length j ≠ p) (h0 : 0 < S.length) : Stop (S.set p (.full kk vv)) k' j := by
  have key : ∀ i, i ≤ j → pos k' S.length i ≠ p → slot (S.set p (.full kk vv)) (pos k' S.length i) = slot S (pos k' S.length i) := by
    intro i _ hi
    have h1 : (S.set p (Sl.full kk vv))[pos k' S.length i]? = some (slot S (pos k' S.length i)) := by
      rw [List.getElem?_set_ne (fun e => hi e.symm)]; exact slot_eq (pos_lt _ _ h0)
    exact slot_of h1
  refine ⟨by simpa using s.lt, by rw [List.length_set, key j (Nat.le_refl _) hne]; exact s.yes, fun i hi => ?_⟩
  have hne2 : pos k' S.length i ≠ p := by
    intro e
    have := s.no i hi
    rw [e, slot_of hp] at this
    cases this
  rw [List.length_set, key i (by omega) hne2]
  exact s.no i hi
theorem keysN_set {p : Nat} {x y : Sl} (h : S[p]? = some y) : keysN (S.set p x) + (if y.isFull then 1 else 0) = keysN S + (if x.isFull then 1 else 0) := by
  obtain ⟨hp, hy⟩ := List.getElem?_eq_some_iff.1 h
  unfold keysN
  rw [List.countP_set (h := hp), hy]
  have : y.isFull = true → 0 < S.countP Sl.isFull := fun hf => List.countP_pos_iff.2 ⟨y, List.mem_of_getElem? h, hf⟩
  split <;> rename_i hh <;> split <;> simp_all <;> omega
theorem deadN_set {p : Nat} {x y : Sl} (h : S[p]? = some y) : deadN (S.set p x) + (if y.isDead then 1 else 0) = deadN S + (if x.isDead then 1 else 0) := by
  obtain ⟨hp, hy⟩ := List.getElem?_eq_some_iff.1 h
  unfold deadN
  rw [List.countP_set (h := hp), hy]
  have : y.isDead = true → 0 < S.countP Sl.isDead := fun hf => List.countP_pos_iff.2 ⟨y, List.mem_of_getElem? h, hf⟩
  split <;> rename_i hh <;> split <;> simp_all <;> omega
theorem mem_set {p : Nat} {x y : Sl} (h : S[p]? = some y) (z : List UInt8 × List Int) : z ∈ fulls (S.set p x) ↔ x = Sl.full z.1 z.2 ∨ ∃ q : Nat, q ≠ p ∧ S[q]? = some (Sl.full z.1 z.2) := by
  obtain ⟨hp, hy⟩ := List.getElem?_eq_some_iff.1 h
  rw [mem_fulls]
  constructor
  · rintro ⟨q, hq⟩
    by_cases e : p = q
    · subst e
      rw [List.getElem?_set_self hp] at hq
      cases hq
      exact .inl rfl
    · rw [List.getElem?_set_ne e] at hq
      exact .inr ⟨q, fun e' => e e'.symm, hq⟩
  · rintro (rfl | ⟨q, hne, hq⟩)
    · exact ⟨p, by rw [List.getElem?_set_self hp]⟩
    · exact ⟨q, by rw [List.getElem?_set_ne (fun e => hne e.symm)]; exact hq⟩
/-- Another value under a key that is there. -/
theorem Inv.over (h : Inv m S) {p : Nat} {v' : List Int} (hp : S[p]? = some (Sl.full k v)) (hv : v'.length = m) :
    Inv m (S.set p (.full k v')) ∧ keysN (S.set p (.full k v')) = keysN S ∧ deadN (S.set p (.full k v')) = deadN S ∧ ∀ z, z ∈ fulls (S.set p (.full k v')) ↔ (z = (k, v') ∨ (z ∈ fulls S ∧ z.1 ≠ k)) := by
  have hk := keysN_set (x := .full k v') hp
  have hd := deadN_set (x := .full k v') hp
  simp [Sl.isFull, Sl.isDead] at hk hd
  have hlt := (List.getElem?_eq_some_iff.1 hp).1
  refine ⟨⟨by simpa using h.pow, ?_, by simp only [hk, hd, List.length_set]; exact h.load⟩, hk, hd, ?_⟩
  · intro q k2 v2 hq
    by_cases e : p = q
    · subst e
      rw [List.getElem?_set_self hlt] at hq
      cases hq
      obtain ⟨a, _, j, hj, hpj⟩ := h.probe p k v hp
      exact ⟨a, hv, j, hj.set (fun y hy => by rw [hp] at hy; cases hy; rfl), by rw [List.length_set]; exact hpj⟩
    · rw [List.getElem?_set_ne e] at hq
      obtain ⟨a, b, j, hj, hpj⟩ := h.probe q k2 v2 hq
      exact ⟨a, b, j, hj.set (fun y hy => by rw [hp] at hy; cases hy; rfl), by rw [List.length_set]; exact hpj⟩
  · intro z
    rw [mem_set hp]
    constructor
    · rintro (e | ⟨q, hne, hq⟩)
      · cases e; exact .inl rfl
      · refine .inr ⟨mem_fulls.2 ⟨q, hq⟩, fun e => hne ?_⟩
        rw [e] at hq
        exact (h.at_uniq hq hp).1
    · rintro (rfl | ⟨hz, hne⟩)
      · exact .inl rfl
      · obtain ⟨q, hq⟩ := mem_fulls.1 hz
        refine .inr ⟨q, fun e => hne ?_, hq⟩
        rw [e, hp] at hq
        cases hq; rfl
/-- A key more. -/
theorem Inv.more (h : Inv m S) {j : Nat} (s : Stop S k j) (hp : S[pos k S.length j]? = some Sl.empty) (hk32 : k.length = 32) (hv : v.length = m) (hl : 4 * (keysN S + 1 + deadN S) ≤ 3 * S.length) :
    Inv m (S.set (pos k S.length j) (.full k v)) ∧ keysN (S.set (pos k S.length j) (.full k v)) = keysN S + 1 ∧ deadN (S.set (pos k S.length j) (.full k v)) = deadN S ∧ ∀ z, z ∈ fulls (S.set (pos k S.length j) (.full k v)) ↔ (z = (k, v) ∨ z ∈ fulls S) := by
  have hk := keysN_set (x := .full k v) hp
  have hd := deadN_set (x := .full k v) hp
  simp [Sl.isFull, Sl.isDead] at hk hd
  have h8 := h.len8
  have hlt := (List.getElem?_eq_some_iff.1 hp).1
  refine ⟨⟨by simpa using h.pow, ?_, by simp only [hk, hd, List.length_set]; omega⟩, hk, hd, ?_⟩
  · intro q k2 v2 hq
    by_cases e : pos k S.length j = q
    · rw [← e, List.getElem?_set_self hlt] at hq
      cases hq
      refine ⟨hk32, hv, j, ⟨by simpa using s.lt, ?_, fun i hi => ?_⟩, by rw [List.length_set]; exact e⟩
      · rw [List.length_set]
        have h1 : (S.set (pos k S.length j) (Sl.full k v))[pos k S.length j]? = some (.full k v) := List.getElem?_set_self hlt
        rw [slot_of h1]
        simp [Sl.ends]
      · rw [List.length_set]
        have hne : pos k S.length j ≠ pos k S.length i := fun e' => by
          have := pos_inj k s.lt (by have := s.lt; omega) e'
          omega
        have h1 : (S.set (pos k S.length j) (Sl.full k v))[pos k S.length i]? = some (slot S (pos k S.length i)) := by
          rw [List.getElem?_set_ne hne]; exact slot_eq (pos_lt _ _ (by omega))
        rw [slot_of h1]
        exact s.no i hi
    · rw [List.getElem?_set_ne e] at hq
      obtain ⟨a, b, j2, hj, hpj⟩ := h.probe q k2 v2 hq
      exact ⟨a, b, j2, hj.set_full hp (by rw [hpj]; exact fun e' => e e'.symm) (by omega), by rw [List.length_set]; exact hpj⟩
  · intro z
    rw [mem_set hp]
    constructor
    · rintro (e | ⟨q, hne, hq⟩)
      · cases e; exact .inl rfl
      · exact .inr (mem_fulls.2 ⟨q, hq⟩)
    · rintro (rfl | hz)
      · exact .inl rfl
      · obtain ⟨q, hq⟩ := mem_fulls.1 hz
        refine .inr ⟨q, fun e => ?_, hq⟩
        rw [e, hp] at hq
        cases hq
/-- A key taken away. -/
theorem Inv.less (h : Inv m S) {p : Nat} (hp : S[p]? = some (Sl.full k v)) :
    Inv m (S.set p .dead) ∧ keysN (S.set p .dead) + 1 = keysN S ∧ deadN (S.set p .dead) = deadN S + 1 ∧ ∀ z, z ∈ fulls (S.set p .dead) ↔ (z ∈ fulls S ∧ z.1 ≠ k) := by
  have hk := keysN_set (x := .dead) hp
  have hd := deadN_set (x := .dead) hp
  simp [Sl.isFull, Sl.isDead] at hk hd
  have hlt := (List.getElem?_eq_some_iff.1 hp).1
  have hl := h.load
  refine ⟨⟨by simpa using h.pow, ?_, by simp only [hd, List.length_set]; omega⟩, hk, hd, ?_⟩
  · intro q k2 v2 hq
    by_cases e : p = q
    · subst e
      rw [List.getElem?_set_self hlt] at hq
      cases hq
    · rw [List.getElem?_set_ne e] at hq
      obtain ⟨a, b, j, hj, hpj⟩ := h.probe q k2 v2 hq
      refine ⟨a, b, j, hj.set_dead hp (fun e2 => e ?_), by rw [List.length_set]; exact hpj⟩
      subst e2
      exact (h.at_uniq hp hq).1
  · intro z
    rw [mem_set hp]
    constructor
    · rintro (e | ⟨q, hne, hq⟩)
      · cases e
      · refine ⟨mem_fulls.2 ⟨q, hq⟩, fun e => hne ?_⟩
        rw [e] at hq
        exact (h.at_uniq hq hp).1
    · rintro ⟨hz, hne⟩
      obtain ⟨q, hq⟩ := mem_fulls.1 hz
      refine .inr ⟨q, fun e => hne ?_, hq⟩
      rw [e, hp] at hq
      cases hq; rfl
end
/-- Slots that nothing was put into. -/
theorem rep_get {n p : Nat} {x : Sl} (h : (List.replicate n Sl.empty)[p]? = some x) : x = .empty := by
  rw [List.getElem?_replicate] at h
  split at h
  · cases h; rfl
  · cases h
theorem keysN_rep (n : Nat) : keysN (List.replicate n .empty) = 0 := by simp [keysN, List.countP_replicate, Sl.isFull]
theorem deadN_rep (n : Nat) : deadN (List.replicate n .empty) = 0 := by simp [deadN, List.countP_replicate, Sl.isDead]
theorem fulls_rep (n : Nat) : fulls (List.replicate n .empty) = [] := by
  apply List.eq_nil_iff_forall_not_mem.2
  intro z hz
  obtain ⟨p, hp⟩ := mem_fulls.1 hz
  cases rep_get hp
theorem Inv.rep (m e : Nat) : Inv m (List.replicate (8 * 2 ^ e) .empty) :=
  ⟨⟨e, by simp⟩, fun p k v hp => (by cases rep_get hp), by rw [keysN_rep, deadN_rep]; omega⟩
/-- How far a search goes. -/
theorem nodup_le {l r : List Nat} (h : l.Nodup) (hs : ∀ x ∈ l, x ∈ r) : l.length ≤ r.length := by
  induction l generalizing r with
  | nil => simp
  | cons a l ih =>
    obtain ⟨h1, h2⟩ := List.nodup_cons.1 h
    have ha := hs a (by simp)
    have := ih (r := r.erase a) h2 (fun x hx => (List.mem_erase_of_ne (fun e => h1 (by rw [← e]; exact hx))).2 (hs x (by simp [hx])))
    rw [List.length_erase_of_mem ha] at this
    have := List.length_pos_of_mem ha
    simp
    omega
theorem inUse_count : ∀ (S : List Sl), S.countP (fun x => x.isFull || x.isDead) = keysN S + deadN S := by
  intro S
  induction S with
  | nil => rfl
  | cons x r ih =>
    unfold keysN deadN at *
    rw [List.countP_cons, List.countP_cons, List.countP_cons, ih]
    cases x <;> simp [Sl.isFull, Sl.isDead] <;> omega
theorem countP_idx (P : Sl → Bool) : ∀ (S : List Sl), ((List.range S.length).filter fun i => P (slot S i)).length = S.countP P := by
  intro S
  rw [← List.countP_eq_length_filter]
  have h1 : S = (List.range S.length).map (slot S) := by
    refine List.ext_getElem? fun i => ?_
    rw [List.getElem?_map]
    by_cases h : i < S.length
    · rw [slot_eq h, List.getElem?_range h]; rfl
    · rw [List.getElem?_eq_none (by omega), List.getElem?_eq_none (by simp; omega)]; rfl
  conv => rhs; rw [h1]
  rw [List.countP_map]
  rfl
theorem Stop.steps {S : List Sl} {k : List UInt8} {j : Nat} (s : Stop S k j) : j ≤ keysN S + deadN S := by
  have h0 : 0 < S.length := by have := s.lt; omega
  have h1 : ((List.range j).map (pos k S.length)).length ≤ ((List.range S.length).filter fun i => (fun x : Sl => x.isFull || x.isDead) (slot S i)).length := by
    refine nodup_le ?_ ?_
    · rw [List.nodup_iff_pairwise_ne, List.pairwise_map]
      refine List.Pairwise.imp_of_mem ?_ (List.nodup_iff_pairwise_ne.1 List.nodup_range)
      intro a b ha hb hne e
      have := s.lt
      simp at ha hb
      exact hne (pos_inj k (by omega) (by omega) e)
    · intro x hx
      obtain ⟨i, hi, rfl⟩ := List.mem_map.1 hx
      simp at hi
      refine List.mem_filter.2 ⟨by simp; exact pos_lt _ _ h0, ?_⟩
      have := s.no i hi
      cases hc : slot S (pos k S.length i) with
      | empty => rw [hc] at this; cases this
      | dead => rfl
      | full a b => rfl
  have h2 := Nat.le_trans h1 (Nat.le_of_eq ((countP_idx (fun x : Sl => x.isFull || x.isDead) S).trans (inUse_count S)))
  simpa using h2
end Go.Proofs.YtblgphfdicffcaaGreatDoor

/- Slots in memory, a table in memory. It proves no statement. -/









namespace Go.Proofs.YtblgphfdicffcaaGreatDoor
open Go.RowKit
set_option linter.unusedVariables false
set_option linter.unusedSimpArgs false

/-- A slot's cells: its state, its key, its value. -/
def slL (m : Nat) (s : Sl) : List Value := .int .i64 (s.st : Nat) :: (bytesV s.key ++ (s.val m).map (Value.int .i64))
def SlOK (m : Nat) (s : Sl) : Prop := s.key.length = 32 ∧ (s.val m).length = m
theorem SlOK.empty (m : Nat) : SlOK m .empty := ⟨by simp [Sl.key], by simp [Sl.val]⟩
theorem SlOK.dead (m : Nat) : SlOK m .dead := ⟨by simp [Sl.key], by simp [Sl.val]⟩
theorem Inv.slOK {m : Nat} {S : List Sl} (h : Inv m S) {p : Nat} {s : Sl} (hp : S[p]? = some s) : SlOK m s := by
  cases s with
  | empty => exact .empty m
  | dead => exact .dead m
  | full k v => obtain ⟨a, b, _⟩ := h.probe p k v hp; exact ⟨a, b⟩
theorem ints_one (l : List Int) : ∀ u ∈ l.map (Value.int .i64), u.oneCell' = true := by
  intro u hu
  obtain ⟨_, _, rfl⟩ := List.mem_map.1 hu
  rfl
theorem slL_len {m : Nat} {s : Sl} (h : SlOK m s) : (slL m s).length = 33 + m := by simp [slL, bytesV_length, h.1, h.2]; omega
theorem slL_one (m : Nat) (s : Sl) : ∀ u ∈ slL m s, u.oneCell' = true := by
  intro u hu
  unfold slL at hu
  rcases List.mem_cons.1 hu with rfl | hu
  · rfl
  · rcases List.mem_append.1 hu with hu | hu
    · exact bytesV_one _ u hu
    · exact ints_one _ u hu
theorem slL_0 (m : Nat) (s : Sl) : (slL m s)[0]? = some (.int .i64 (s.st : Nat)) := rfl
theorem slL_key {m : Nat} {s : Sl} {j : Nat} {u : Value} (h : (bytesV s.key)[j]? = some u) : (slL m s)[1 + j]? = some u := by
  unfold slL
  have hj := (List.getElem?_eq_some_iff.1 h).1
  rw [Nat.add_comm, List.getElem?_cons_succ, List.getElem?_append_left hj, h]
theorem slL_val {m : Nat} {s : Sl} (hs : SlOK m s) {j : Nat} {u : Value} (h : ((s.val m).map (Value.int .i64))[j]? = some u) : (slL m s)[33 + j]? = some u := by
  unfold slL
  rw [show 33 + j = (32 + j) + 1 by omega, List.getElem?_cons_succ, List.getElem?_append_right (by rw [bytesV_length, hs.1]; omega), bytesV_length, hs.1, show 32 + j - 32 = j by omega, h]
theorem grown_setC {g : Nat} : ∀ (vs : List Value) (o : Nat) (w : World), w.grownBy (w.setCells g o vs) (some g)
  | [], _, w => World.grownBy.refl w _
  | v :: r, o, w => by
    have h := grown_setC (g := g) r (o + 1) (w.setCell ⟨g, o, none⟩ v)
    have h0 := grownBy_set w g o v
    exact ⟨h.os.trans h0.os, h.tape.trans h0.tape, h.output.trans h0.output, Nat.le_trans h0.size h.size, fun k hk hne => (h.block k (Nat.lt_of_lt_of_le hk h0.size) hne).trans (h0.block k hk hne)⟩
/-- Slots in block b. -/
structure SlB (w : World) (b m : Nat) (S : List Sl) : Prop where
  at_ : ∀ (i : Nat) (s : Sl), S[i]? = some s → w.rangeAt b (i * (33 + m)) (slL m s)
  fr : ∀ q, w.frozen? ⟨b, q, none⟩ = false
  lt : b < w.heap.size
section
variable {w w' : World} {b m : Nat} {S : List Sl}
theorem SlB.st (h : SlB w b m S) {i : Nat} {s : Sl} (hi : S[i]? = some s) : w.cell? ⟨b, i * (33 + m), none⟩ = some (.int .i64 (s.st : Nat)) := by
  have := h.at_ i s hi 0 _ (slL_0 m s)
  simpa using this
theorem SlB.key (h : SlB w b m S) {i : Nat} {s : Sl} (hi : S[i]? = some s) : w.rangeAt b (i * (33 + m) + 1) (bytesV s.key) := fun j u hj => by
  rw [Nat.add_assoc]
  exact h.at_ i s hi (1 + j) u (slL_key hj)
theorem SlB.val (h : SlB w b m S) {i : Nat} {s : Sl} (hi : S[i]? = some s) (hs : SlOK m s) : w.rangeAt b (i * (33 + m) + 33) ((s.val m).map (Value.int .i64)) := fun j u hj => by
  rw [Nat.add_assoc]
  exact h.at_ i s hi (33 + j) u (slL_val hs hj)
theorem SlB.keep (h : SlB w b m S) (hk : w'.heap[b]? = w.heap[b]?) : SlB w' b m S := by
  refine ⟨fun i s hi j v hv => (World.cell?_of_block (w := w) hk).trans (h.at_ i s hi j v hv), fun q => ?_, ?_⟩
  · have := h.fr q
    unfold World.frozen? at this ⊢
    simp only [hk]
    exact this
  · have h1 := h.lt
    have : w'.heap[b]?.isSome := by rw [hk]; simp [h1]
    simpa using this
theorem SlB.still (h : SlB w b m S) (s : Still w w') : SlB w' b m S := h.keep (s.block b h.lt)
theorem SlB.chg {R : Nat → Prop} (h : SlB w b m S) (c : Chg w w' R) (hb : ¬ R b) : SlB w' b m S := h.keep (c.block b h.lt hb)
theorem SlB.there (h : SlB w b m S) {i : Nat} {s : Sl} (hi : S[i]? = some s) (hs : SlOK m s) : w.there b (i * (33 + m)) (33 + m) := fun j hj =>
  ⟨(h.at_ i s hi).isSome j (by rw [slL_len hs]; exact hj), h.fr _⟩
/-- A slot is written whole. -/
theorem SlB.set (h : SlB w b m S) (hO : ∀ (i : Nat) s, S[i]? = some s → SlOK m s) {i : Nat} {s x : Sl} (hi : S[i]? = some s) (hx : SlOK m x) : SlB (w.setCells b (i * (33 + m)) (slL m x)) b m (S.set i x) := by
  refine ⟨fun q y hq => ?_, fun q => by rw [World.frozen?_setCells]; exact h.fr q, ?_⟩
  · by_cases e : i = q
    · subst e
      rw [List.getElem?_set_self (List.getElem?_eq_some_iff.1 hi).1] at hq
      cases hq
      exact World.rangeAt_setCells_same _ _ _ _ (by rw [slL_len hx]; exact h.there hi (hO i s hi))
    · rw [List.getElem?_set_ne e] at hq
      refine World.rangeAt_setCells_apart (h.at_ q y hq) _ _ _ (.inr ?_)
      rw [slL_len hx, slL_len (hO q y hq)]
      rcases Nat.lt_or_gt_of_ne e with h1 | h1
      · right
        have : (i + 1) * (33 + m) ≤ q * (33 + m) := Nat.mul_le_mul_right _ h1
        rw [Nat.add_mul, Nat.one_mul] at this; omega
      · left
        have : (q + 1) * (33 + m) ≤ i * (33 + m) := Nat.mul_le_mul_right _ h1
        rw [Nat.add_mul, Nat.one_mul] at this; omega
  · have h1 := h.lt
    have h2 := (grown_setC (g := b) (slL m x) (i * (33 + m)) w).size
    omega
/-- A slot's value alone is written. -/
theorem SlB.setVal (h : SlB w b m S) (hO : ∀ (i : Nat) s, S[i]? = some s → SlOK m s) {i : Nat} {k : List UInt8} {v v' : List Int} (hi : S[i]? = some (Sl.full k v)) (hv : v'.length = m) : SlB (w.setCells b (i * (33 + m) + 33) (v'.map (Value.int .i64))) b m (S.set i (.full k v')) := by
  have hok := hO i _ hi
  have hvl : v.length = m := hok.2
  refine ⟨fun q y hq => ?_, fun q => by rw [World.frozen?_setCells]; exact h.fr q, ?_⟩
  · by_cases e : i = q
    · subst e
      rw [List.getElem?_set_self (List.getElem?_eq_some_iff.1 hi).1] at hq
      cases hq
      intro j u hj
      have hj2 : j < 33 + m := by
        have := (List.getElem?_eq_some_iff.1 hj).1
        rwa [slL_len (m := m) (s := .full k v') ⟨hok.1, hv⟩] at this
      by_cases h33 : j < 33
      · rw [World.cell?_setCells_out b _ _ w ⟨b, i * (33 + m) + j, none⟩ (fun _ _ => by left; show i * (33 + m) + j < i * (33 + m) + 33; omega)]
        refine h.at_ i _ hi j u ?_
        rw [← hj]
        unfold slL
        rcases j with _ | j
        · rfl
        · rw [List.getElem?_cons_succ, List.getElem?_cons_succ, List.getElem?_append_left (by rw [bytesV_length, hok.1]; omega), List.getElem?_append_left (by rw [bytesV_length]; have := hok.1; simp only [Sl.key] at this ⊢; omega)]
          rfl
      · have h4 : ∃ q, j = 33 + q := ⟨j - 33, by omega⟩
        obtain ⟨q, rfl⟩ := h4
        have hq : ((Sl.full k v').val m).map (Value.int .i64) = v'.map (Value.int .i64) := rfl
        have h5 : (v'.map (Value.int .i64))[q]? = some u := by
          rw [← hj]
          unfold slL
          rw [show 33 + q = (32 + q) + 1 by omega, List.getElem?_cons_succ, List.getElem?_append_right (by rw [bytesV_length]; have := hok.1; simp only [Sl.key] at this ⊢; omega), bytesV_length, show (Sl.full k v').key.length = 32 from hok.1, show 32 + q - 32 = q by omega]
          rfl
        rw [← Nat.add_assoc]
        refine World.rangeAt_setCells_same _ _ _ _ (fun j hj => ?_) q u h5
        rw [Nat.add_assoc]
        exact h.there hi hok (33 + j) (by rw [List.length_map, hv] at hj; omega)
    · rw [List.getElem?_set_ne e] at hq
      refine World.rangeAt_setCells_apart (h.at_ q y hq) _ _ _ (.inr ?_)
      rw [List.length_map, hv, slL_len (hO q y hq)]
      rcases Nat.lt_or_gt_of_ne e with h1 | h1
      · right
        have : (i + 1) * (33 + m) ≤ q * (33 + m) := Nat.mul_le_mul_right _ h1
        rw [Nat.add_mul, Nat.one_mul] at this; omega
      · left
        have : (q + 1) * (33 + m) ≤ i * (33 + m) := Nat.mul_le_mul_right _ h1
        rw [Nat.add_mul, Nat.one_mul] at this; omega
  · have h1 := h.lt
    have h2 := (grown_setC (g := b) (v'.map (Value.int .i64)) (i * (33 + m) + 33) w).size
    omega
end
/-- A table at g, its slots in block b. -/
structure TB (T : TypeId) (m : Nat) (w : World) (g b c : Nat) (S : List Sl) : Prop where
  box : Blk w g T #[.slice (some ⟨b, 0, none⟩) S.length c, .int .i64 (keysN S : Nat), .int .i64 (deadN S : Nat)]
  row : SlB w b m S
  inv : Inv m S
  ne : b ≠ g
  cap : S.length ≤ c ∧ c ≤ 9223372036854775807
section
variable {T : TypeId} {m : Nat} {w w' : World} {g b c : Nat} {S : List Sl}
theorem TB.still (h : TB T m w g b c S) (s : Still w w') : TB T m w' g b c S := ⟨h.box.still s, h.row.still s, h.inv, h.ne, h.cap⟩
theorem TB.chg {R : Nat → Prop} (h : TB T m w g b c S) (k : Chg w w' R) (hg : ¬ R g) (hb : ¬ R b) : TB T m w' g b c S := ⟨k.blk h.box hg, h.row.chg k hb, h.inv, h.ne, h.cap⟩
theorem TB.c0 (h : TB T m w g b c S) : w.cell? ⟨g, 0, none⟩ = some (.slice (some ⟨b, 0, none⟩) S.length c) := h.box.cell 0
theorem TB.c1 (h : TB T m w g b c S) : w.cell? ⟨g, 1, none⟩ = some (.int .i64 (keysN S : Nat)) := h.box.cell 1
theorem TB.c2 (h : TB T m w g b c S) : w.cell? ⟨g, 2, none⟩ = some (.int .i64 (deadN S : Nat)) := h.box.cell 2
theorem TB.len8 (h : TB T m w g b c S) : 8 ≤ S.length := h.inv.len8
end
/-- A key in a box. -/
theorem box_key (w : World) (k : List UInt8) : (w.alloc (.cells (bytesV k).toArray 24)).rangeAt w.heap.size 0 (bytesV k) := fun j u hj => by
  rw [(Blk.new w _ _).cell, Nat.zero_add, List.getElem?_toArray, hj]
end Go.Proofs.YtblgphfdicffcaaGreatDoor
