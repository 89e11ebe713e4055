/- Contracts and facts, several texts in one. It proves no statement. -/
import Derived.Test.YtgbkpbmilaafgaaBkGx
import Derived.Test.YtgbkpbmilaafgaaBkGp
import Derived.Test.YtgbkpbmilaafgaaBkGe
import Derived.Test.YtgbkpbmilaafgaaBkGb
import Derived.Test.YtgbkpbmilaafgaaBkGu
import Derived.Test.YtgbkpbmilaafgaaBkGv
import Derived.Test.YtgbkpbmilaafgaaBkGw
import Derived.Test.YtgbkpbmilaafgaaBkGa
import Derived.Outline
import Derived.Deep.DeepMust
import Derived.Deep.QuietTactic
import Derived.BigQuiet
import Derived.RegionTactic
import Derived.ChangeAlike
import Derived.BigRegion

/- Contract: the document's Same of rows (uses) that are alike. It proves no statement. -/



namespace Go.Proofs.Ytgbkpbmilaafgaa
open Go.RowKit
set_option linter.unusedVariables false
set_option linter.unusedSimpArgs false

theorem sizeS_u : (Try.prog.info? 86).map (·.size) = some 3 := by kernel_rfl
theorem underS_u : ∃ fs, Try.prog.underlying 86 = some (.struct fs) := ⟨_, Try.underlying86⟩
set_option maxRecDepth 100000 in
set_option maxHeartbeats 3200000 in
theorem sameR_u {w : World} {A A' : Option Addr} {n c n' c' : Nat} {L : List Rw} (h : RwRow kU w A n c L) (h' : RwRow kU w A' n' c' L) (hn : n ≤ 1048576) :
    Calls Try.prog 27 #[.slice A n c, .slice A' n' c'] w fun e w' => e = .returned (.bool true) ∧ Still w w' := by
  obtain rfl : n = n' := by rw [← h.len, ← h'.len]
  have HR := Lib.hid (fun W (s : Still w W) => h.still s)
  have HR' := Lib.hid (fun W (s : Still w W) => h'.still s)
  have hlen := h.len
  have OK := Lib.hid h.ok
  have HLN := Lib.hid hlen
  obtain ⟨fs, hu⟩ := underS_u
  have UP := Lib.hid hu
  have d3 : (n : Int) ≤ 1048576 := by omega
  have d4 : (n : Int) ≤ (c : Int) := by have := h.row.fit; omega
  have d5 : (n : Int) ≤ (c' : Int) := by have := h'.row.fit; omega
  clear h h' hn hlen hu
  go_enter Try.func27, Try.ntmps27
  go_wp2_with fail
  go_loopw [5] (fun iv wr => ∃ i : Nat, i ≤ n ∧ iv = .int .i64 (i : Int) ∧ Hid (Still w wr)) (fun iv _ => n - (intOf iv).toNat)
  case atStart => exact ⟨0, Nat.zero_le _, rfl, Lib.hid (Still.refl _)⟩
  case round =>
    obtain ⟨i, hin, rfl, IN⟩ := hrel
    by_cases hlt : i < n
    · have SW := Lib.hid IN.out
      obtain ⟨a, ha⟩ : ∃ a, L[i]? = some a := ⟨_, List.getElem?_eq_getElem (by have := HLN.out; omega)⟩
      obtain ⟨bb, o, rfl, hbb, _⟩ := (HR.out _ SW.out).at_ ha
      obtain ⟨bb', o', rfl, hbb', _⟩ := (HR'.out _ SW.out).at_ ha
      have QA := Lib.hid (fun W (s : Still w W) => show W.rangeAt bb (o + i * 3) (rowV a) from by
        obtain ⟨b2, o2, e, _, h2⟩ := (HR.out _ s).at_ ha
        cases e
        exact h2)
      have QB := Lib.hid (fun W (s : Still w W) => show W.rangeAt bb' (o' + i * 3) (rowV a) from by
        obtain ⟨b2, o2, e, _, h2⟩ := (HR'.out _ s).at_ ha
        cases e
        exact h2)
      have OA := Lib.hid (OK.out a (List.mem_of_getElem? ha))
      have SZA := Lib.hid (show (Try.prog.info? 86).map (·.size) = some (rowV a).length from by rw [sizeS_u, rowV_length, OA.out.1, OA.out.2]; rfl)
      have NE := Lib.hid (fun W => neqR_u W a OA.out)
      have d1 : (i : Int) < (n : Int) := by omega
      have HLT := Lib.hid hlt
      have ne := NE.out
      clear ha hbb hbb' hlt hin IN
      obtain ⟨V, hV⟩ : ∃ V, V = (rowV a).toArray := ⟨_, rfl⟩
      go_upto_region 6 with fail
      refine wp_region_quiet_still w SW.out (by kernel_rfl) (by kernel_rfl) ?_
      repeat (first
        | (guard_target =~ wpQuiet _ _ _ _ (Oper.mk (some 20) _ _ _ _ _ :: _) _; go_must (refine quiet_load_mid (by kernel_rfl) 86 (.tmp 19) rfl bb (o + i * 3) (by kernel_rfl) (rowV a) _ (fun W hW => by obtain ⟨p, rfl⟩ := hW; exact QA.out _ p.still) UP.out rfl SZA.out ?_); rw [← hV])
        | (guard_target =~ wpQuiet _ _ _ _ (Oper.mk (some 24) _ _ _ _ _ :: _) _; go_must (refine quiet_load_mid (by kernel_rfl) 86 (.tmp 23) rfl bb' (o' + i * 3) (by kernel_rfl) (rowV a) _ (fun W hW => by obtain ⟨p, rfl⟩ := hW; exact QB.out _ p.still) UP.out rfl SZA.out ?_); rw [← hV])
        | quiet_step (fail))
      refine wpQuiet_nil ?_
      intro wq hw'
      have SQ := Lib.hid (show Still w wq from by obtain ⟨p, rfl⟩ := hw'; exact p.still)
      clear hw' ne
      go_wp2_with fail
      go_roundw
      case rel => exact ⟨i + 1, HLT.out, by go_num, Lib.hid SQ.out⟩
      case measure => simp [intOf]; have := HLT.out; omega
    · have d1 : ¬ (i : Int) < (n : Int) := by omega
      have SW := Lib.hid IN.out
      clear hin hlt IN
      go_wp2_with fail
      go_ret
      exact ⟨rfl, SW.out⟩
end Go.Proofs.Ytgbkpbmilaafgaa

/- What is left of a slice that came in. It proves no statement. -/

namespace Go.Proofs.Ytgbkpbmilaafgaa
open Go.RowKit
set_option linter.unusedVariables false

/-- A slice that came in, or what is left of it. -/
structure RowS (w : World) (B : Nat) (A : Option Addr) (n c : Nat) (l : List UInt8) : Prop where
  reads : Reads w B A n l
  fit : n ≤ c
  cap : c ≤ 9223372036854775807
  nil : A = none → n = 0 ∧ c = 0
theorem RowS.still {w w' : World} {B n c : Nat} {A : Option Addr} {l : List UInt8} (h : RowS w B A n c l) (hB : B ≤ w.heap.size) (hs : Still w w') : RowS w' B A n c l := ⟨h.reads.still hB hs, h.fit, h.cap, h.nil⟩
theorem RowS.dropk {w : World} {B n c k : Nat} {A : Option Addr} {l : List UInt8} (h : RowS w B A n c l) (hk : k ≤ n) : RowS w B (A.map (·.add k)) (n - k) (c - k) (l.drop k) :=
  ⟨h.reads.dropk hk, by have := h.fit; omega, by have := h.cap; omega, fun e => by
    have e2 : A = none := by simpa using e
    have := h.nil e2
    omega⟩
theorem RowS.endk {w : World} {B n c : Nat} {A : Option Addr} {l : List UInt8} (h : RowS w B A n c l) {k : Nat} (hk : n ≤ k) : RowS w B A 0 0 (l.drop k) := by
  have e : l.drop k = [] := List.drop_of_length_le (by have := h.reads.1; omega)
  rw [e]
  exact ⟨⟨rfl, fun h => by omega⟩, by omega, by omega, fun _ => ⟨rfl, rfl⟩⟩
/-- A row that came in, cut. -/
theorem cut_row {w : World} {A : Option Addr} {n0 c0 : Nat} {z : List Int} (h : RowIn .u8 w A n0 c0 z) (k : Nat) (hk : 1 ≤ k) :
    ∃ n l, RowS w w.heap.size A n c0 l ∧ n ≤ k ∧ Calls Try.prog 17 #[.slice A n0 c0, .int .i64 k] w fun e w' => e = .returned (.slice A n c0) ∧ w = w' := by
  obtain ⟨l0, r0, hc0, hm0, hA0⟩ := reads_of_row h
  exact ⟨_, _, ⟨r0.take k, by omega, hm0, fun e => ⟨by have := (hA0 e).1; omega, (hA0 e).2⟩⟩, by omega, cut_any A n0 c0 k l0 w _ r0 hc0 hm0 hk⟩
end Go.Proofs.Ytgbkpbmilaafgaa

/- Small facts for the laws of books that are read. It proves no statement. -/








namespace Go.Proofs.Ytgbkpbmilaafgaa
open Go.RowKit
set_option linter.unusedVariables false
set_option linter.unusedSimpArgs false

theorem rd_len {k : Kd} (b : List UInt8) : (k.rd b).1.length ≤ 65536 := by
  by_cases h : (k.rd b).2 = 0
  · obtain ⟨h1, _, _, e⟩ := rd_inv h
    obtain ⟨_, _, h3, _, _⟩ := rd1_inv h1
    rw [e]
    simp only [rows_len]
    omega
  · have e : (k.rd b).1 = [] := by
      unfold Kd.rd at h ⊢
      split
      · rfl
      · rename_i g
        rw [if_neg g] at h
        split
        · rfl
        · rename_i g2
          rw [if_neg g2] at h
          exact absurd rfl h
    rw [e]; simp
theorem getR_i {w : World} {B n c : Nat} {A : Option Addr} {b : List UInt8} (h : RowS w B A n c b) (hB : B ≤ w.heap.size) (hn : n ≤ 65536) :
    Calls Try.prog 19 #[.slice A n c] w fun e w' => ∃ A' c', e = .returned (.tuple #[.slice A' (kI.rd b).1.length c', .int .i64 (kI.rd b).2]) ∧ RwRow kI w' A' (kI.rd b).1.length c' (kI.rd b).1 ∧ Still w w' :=
  get_i A n c b w B h.reads hB (by omega) h.fit h.cap h.nil
theorem docR_i {w : World} {B n c : Nat} {A : Option Addr} {b : List UInt8} (h : RowS w B A n c b) (hB : B ≤ w.heap.size) (hn : n ≤ 65536) :
    Calls Try.prog 22 #[.slice A n c] w fun e w' => ∃ A' c', e = .returned (.tuple #[.slice A' (kI.rd b).1.length c', .int .i64 (kI.rd b).2]) ∧ RwRow kI w' A' (kI.rd b).1.length c' (kI.rd b).1 ∧ Still w w' := by
  refine refr_i h.reads.len (by omega) (fun h12 => ?_)
  obtain ⟨b0, o0, e, _, _⟩ := h.reads.at_ (by omega)
  subst e
  exact ⟨b0, o0, rfl, h.reads.more hB, h.fit, h.cap, by omega⟩
theorem getR_c {w : World} {B n c : Nat} {A : Option Addr} {b : List UInt8} (h : RowS w B A n c b) (hB : B ≤ w.heap.size) (hn : n ≤ 65536) :
    Calls Try.prog 20 #[.slice A n c] w fun e w' => ∃ A' c', e = .returned (.tuple #[.slice A' (kC.rd b).1.length c', .int .i64 (kC.rd b).2]) ∧ RwRow kC w' A' (kC.rd b).1.length c' (kC.rd b).1 ∧ Still w w' :=
  get_c A n c b w B h.reads hB (by omega) h.fit h.cap h.nil
theorem docR_c {w : World} {B n c : Nat} {A : Option Addr} {b : List UInt8} (h : RowS w B A n c b) (hB : B ≤ w.heap.size) (hn : n ≤ 65536) :
    Calls Try.prog 23 #[.slice A n c] w fun e w' => ∃ A' c', e = .returned (.tuple #[.slice A' (kC.rd b).1.length c', .int .i64 (kC.rd b).2]) ∧ RwRow kC w' A' (kC.rd b).1.length c' (kC.rd b).1 ∧ Still w w' := by
  refine refr_c h.reads.len (by omega) (fun h12 => ?_)
  obtain ⟨b0, o0, e, _, _⟩ := h.reads.at_ (by omega)
  subst e
  exact ⟨b0, o0, rfl, h.reads.more hB, h.fit, h.cap, by omega⟩
theorem getR_u {w : World} {B n c : Nat} {A : Option Addr} {b : List UInt8} (h : RowS w B A n c b) (hB : B ≤ w.heap.size) (hn : n ≤ 65536) :
    Calls Try.prog 21 #[.slice A n c] w fun e w' => ∃ A' c', e = .returned (.tuple #[.slice A' (kU.rd b).1.length c', .int .i64 (kU.rd b).2]) ∧ RwRow kU w' A' (kU.rd b).1.length c' (kU.rd b).1 ∧ Still w w' :=
  get_u A n c b w B h.reads hB (by omega) h.fit h.cap h.nil
theorem docR_u {w : World} {B n c : Nat} {A : Option Addr} {b : List UInt8} (h : RowS w B A n c b) (hB : B ≤ w.heap.size) (hn : n ≤ 65536) :
    Calls Try.prog 24 #[.slice A n c] w fun e w' => ∃ A' c', e = .returned (.tuple #[.slice A' (kU.rd b).1.length c', .int .i64 (kU.rd b).2]) ∧ RwRow kU w' A' (kU.rd b).1.length c' (kU.rd b).1 ∧ Still w w' := by
  refine refr_u h.reads.len (by omega) (fun h12 => ?_)
  obtain ⟨b0, o0, e, _, _⟩ := h.reads.at_ (by omega)
  subst e
  exact ⟨b0, o0, rfl, h.reads.more hB, h.fit, h.cap, by omega⟩
end Go.Proofs.Ytgbkpbmilaafgaa

/- The document's own Within. It proves no statement. -/








namespace Go.Proofs.Ytgbkpbmilaafgaa
open Go.RowKit
set_option linter.unusedVariables false
set_option linter.unusedSimpArgs false

theorem within_lo (x lo hi : Int) (w : World) (h : x < lo) :
    Calls Try.prog 28 #[.int .i64 x, .int .i64 lo, .int .i64 hi] w fun e w' => e = .returned (.int .i64 lo) ∧ w = w' := by
  go_enter Try.func28, Try.ntmps28
  go_wp2
  go_ret
  exact ⟨rfl, rfl⟩
theorem within_hi (x lo hi : Int) (w : World) (h1 : lo ≤ x) (h : hi < x) :
    Calls Try.prog 28 #[.int .i64 x, .int .i64 lo, .int .i64 hi] w fun e w' => e = .returned (.int .i64 hi) ∧ w = w' := by
  go_enter Try.func28, Try.ntmps28
  go_wp2
  go_ret
  exact ⟨rfl, rfl⟩
theorem within_in (x lo hi : Int) (w : World) (h1 : lo ≤ x) (h : x ≤ hi) :
    Calls Try.prog 28 #[.int .i64 x, .int .i64 lo, .int .i64 hi] w fun e w' => e = .returned (.int .i64 x) ∧ w = w' := by
  go_enter Try.func28, Try.ntmps28
  go_wp2
  go_ret
  exact ⟨rfl, rfl⟩
/-- A number between two others. -/
theorem within_any (x lo hi : Int) (w : World) (hh : lo ≤ hi) :
    Calls Try.prog 28 #[.int .i64 x, .int .i64 lo, .int .i64 hi] w fun e w' => (∃ y : Int, lo ≤ y ∧ y ≤ hi ∧ e = .returned (.int .i64 y)) ∧ w = w' := by
  by_cases h1 : x < lo
  · exact (within_lo x lo hi w h1).mono fun e w' ⟨he, hw⟩ => ⟨⟨lo, by omega, hh, he⟩, hw⟩
  · by_cases h2 : hi < x
    · exact (within_hi x lo hi w (by omega) h2).mono fun e w' ⟨he, hw⟩ => ⟨⟨hi, hh, by omega, he⟩, hw⟩
    · exact (within_in x lo hi w (by omega) (by omega)).mono fun e w' ⟨he, hw⟩ => ⟨⟨x, by omega, by omega, he⟩, hw⟩

theorem within_nat (x hi : Nat) (w : World) :
    Calls Try.prog 28 #[.int .i64 x, .int .i64 0, .int .i64 hi] w fun e w' => e = .returned (.int .i64 (min x hi : Nat)) ∧ w = w' := by
  by_cases h2 : hi < x
  · rw [show min x hi = hi by omega]
    exact within_hi x 0 hi w (by omega) (by omega)
  · rw [show min x hi = x by omega]
    exact within_in x 0 hi w (by omega) (by omega)

end Go.Proofs.Ytgbkpbmilaafgaa
