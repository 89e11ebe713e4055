/- Contracts: the law's own same: names and bytes compared. It proves no statement. -/
import Derived.Test.YtdadcfbapeldpaaMdGc
import Derived.Test.YtdadcfbapeldpaaMdGb
import Derived.Test.YtdadcfbapeldpaaMdKeys
namespace Go.Proofs.Ytdadcfbapeldpaa
open Go.RowKit Go.Maps Go.WideMaps
set_option linter.unusedVariables false
set_option linter.unusedSimpArgs false

theorem rows_ext (L L' : List (List UInt8)) (hl : L.length = L'.length) (h : ∀ i, i < L.length → L.getD i [] = L'.getD i []) : L = L' := by
  apply List.ext_getElem hl
  intro i h1 h2
  have := h i h1
  simpa [List.getD, h1, h2] using this
def Short (L : List (List UInt8)) : Prop := ∀ i, i < L.length → (L.getD i []).length ≤ 70368744177664
/-- Rows of names that can be read. -/
def NamesR (w : World) (A : Option Addr) (n : Nat) (N : NT) : Prop := N.length = n ∧ (0 < n → ∃ b o, A = some ⟨b, o, none⟩ ∧ b < w.heap.size ∧ ∀ i p, N[i]? = some p → w.cell? ⟨b, o + i, none⟩ = some (.string ⟨p.1.toArray⟩))
theorem NamesR.still {w w' : World} {A : Option Addr} {n : Nat} {N : NT} (h : NamesR w A n N) (s : Still w w') : NamesR w' A n N :=
  ⟨h.1, fun hn => by
    obtain ⟨b, o, e, hb, hc⟩ := h.2 hn
    exact ⟨b, o, e, Nat.lt_of_lt_of_le hb s.size, fun i p hp => (s.cell (p := ⟨b, o + i, none⟩) hb).trans (hc i p hp)⟩⟩
theorem NamesR.of_own {w : World} {base n c : Nat} {A : Option Addr} {N : NT} (h : w.ownsRow base 9 1 (.slice A n c) n (namesV N)) : NamesR w A n N := by
  have hl : N.length = n := by have := h.1; rw [namesV_length] at this; omega
  refine ⟨hl, fun hn => ?_⟩
  rcases h.2 with ⟨_, h0⟩ | ⟨g, cp, cur, hv, hg, hb, _⟩
  · omega
  · injection hv with hv1
    subst hv1
    refine ⟨g, 0, rfl, (Array.getElem?_eq_some_iff.1 hb).1, fun i p hp => ?_⟩
    have hi : i < N.length := (List.getElem?_eq_some_iff.1 hp).1
    rw [Nat.zero_add, h.cellAt i (by omega)]
    exact namesV_get N i p hp
set_option maxRecDepth 100000 in
set_option maxHeartbeats 1600000 in
/-- The document's Same of two rows of names that are alike. -/
theorem names_same (A A' : Option Addr) (n c c' : Nat) (N : NT) (w : World) (h : NamesR w A n N) (h' : NamesR w A' n N) (hn : n ≤ 70368744177664) :
    Calls Try.prog 17 #[.slice A n c, .slice A' n c'] w fun e w' => e = .returned (.bool true) ∧ ∃ m, w' = w.drewN m := by
  have HH := Lib.hid h
  have HH' := Lib.hid h'
  clear h h'
  go_enter Try.func17, Try.ntmps17
  go_wp2_with fail
  go_loopw [5] (fun iv wr => ∃ k : Nat, k ≤ n ∧ iv = .int .i64 k ∧ Hid (∃ m, wr = w.drewN m)) (fun iv _ => n - (intOf iv).toNat)
  case atStart => exact ⟨0, Nat.zero_le _, rfl, 0, rfl⟩
  case round =>
    obtain ⟨k, hk, rfl, hin⟩ := hrel
    obtain ⟨mm, hwm⟩ := hin.out
    have st : Still w wr := by rw [hwm]; exact still_drewN (Still.refl w) mm
    have HWM := Lib.hid hwm
    have hr := HH.out.still st
    have hr' := HH'.out.still st
    clear hwm st
    by_cases hlt : k < n
    · obtain ⟨b, o, rfl, hb, hc⟩ := hr.2 (by omega)
      obtain ⟨b', o', rfl, hb', hc'⟩ := hr'.2 (by omega)
      obtain ⟨pp, hp⟩ : ∃ pp, N[k]? = some pp := ⟨_, List.getElem?_eq_getElem (by rw [hr.1]; exact hlt)⟩
      have d1 := hc k _ hp
      have d2 := hc' k _ hp
      obtain ⟨X, hX⟩ : ∃ X : ByteArray, X = ⟨pp.1.toArray⟩ := ⟨_, rfl⟩
      rw [← hX] at d1 d2
      have z1 : (0 : Int) ≤ (k : Int) := by omega
      have z2 : (k : Int) < (n : Int) := by omega
      have HLT := Lib.hid hlt
      clear hc hc' hb hb' hlt hr hr' hp hX
      go_wp2_with fail
      go_quiet (fail)
      go_wp2_with fail
      go_roundw
      case rel => exact ⟨k + 1, by have := HLT.out; omega, by go_num, mm + nq, by rw [HWM.out, World.drewN_drewN]⟩
      case measure => simp [intOf]; have := HLT.out; omega
    · obtain rfl : k = n := by omega
      clear hr hr'
      go_wp2_with fail
      go_ret
      exact ⟨rfl, mm, HWM.out⟩
set_option maxRecDepth 100000 in
set_option maxHeartbeats 3200000 in
/-- The law's same of names and bytes that are alike. -/
theorem alike_same {O P O' P' : Nat → Prop} (A A' B B' : Option Addr) (n c c' m d d' : Nat) (N : NT) (L : List (List UInt8)) (w : World) (h : NamesR w A n N) (h' : NamesR w A' n N) (g : RowsR w O P B m d L) (g' : RowsR w O' P' B' m d' L) (hn : n ≤ 70368744177664) (hm : m ≤ 70368744177664) (hs : Short L) :
    Calls Try.prog 12 #[.slice A n c, .slice B m d, .slice A' n c', .slice B' m d'] w fun e w' => e = .returned (.bool true) ∧ ∃ q, w' = w.drewN q := by
  have HS := Lib.hid (names_same A A' n c c' N w h h' hn)
  have G := Lib.hid g
  have G' := Lib.hid g'
  have S := Lib.hid hs
  have HL := Lib.hid g.len
  clear h h' g g' hs
  go_enter Try.func12, Try.ntmps12
  go_wp2_with fail
  refine HS.out.mono ?_
  rintro e w1 ⟨rfl, m1, hw1⟩
  have HW1 := Lib.hid hw1
  have G1 := Lib.hid (G.out.still (hw1 ▸ still_drewN (Still.refl w) m1))
  have G1' := Lib.hid (G'.out.still (hw1 ▸ still_drewN (Still.refl w) m1))
  clear hw1 HS G G'
  go_wp2_with fail
  go_loopw [9] (fun iv wr => ∃ k : Nat, k ≤ m ∧ iv = .int .i64 k ∧ Hid (∃ q, wr = w1.drewN q)) (fun iv _ => m - (intOf iv).toNat)
  case atStart => exact ⟨0, Nat.zero_le _, rfl, 0, rfl⟩
  case round =>
    obtain ⟨k, hk, rfl, hin⟩ := hrel
    obtain ⟨mm, hwm⟩ := hin.out
    have st : Still w1 wr := by rw [hwm]; exact still_drewN (Still.refl w1) mm
    have HWM := Lib.hid hwm
    have hr := G1.out.still st
    have hr' := G1'.out.still st
    clear hwm st
    by_cases hlt : k < m
    · obtain ⟨b, o, rfl, _, hb, hc⟩ := hr.at_ (by omega)
      obtain ⟨b', o', rfl, _, hb', hc'⟩ := hr'.at_ (by omega)
      obtain ⟨C, x, y, c1, p1⟩ := hc k hlt
      obtain ⟨C', x', y', c2, p2⟩ := hc' k hlt
      have hle := S.out k (by rw [HL.out]; exact hlt)
      have HC := Lib.hid (fun i => same_quiet C C' x x' y y' _ _ (wr.drewN i) _ _ (p1.still (still_drewN (Still.refl wr) i)).reads (p2.still (still_drewN (Still.refl wr) i)).reads (by rw [← p1.len]; exact hle) (by rw [← p2.len]; exact hle))
      rw [decide_eq_true rfl] at HC
      have HLT := Lib.hid hlt
      have z1 : (0 : Int) ≤ (k : Int) := by omega
      have z2 : (k : Int) < (m : Int) := by omega
      clear hc hc' hb hb' hlt p1 p2 hr hr' hle
      go_wp2_with fail
      go_quiet ((go_at_call 35; exact Calls.quiet_of (HC.out _)))
      go_wp2_with fail
      go_roundw
      case rel => exact ⟨k + 1, by have := HLT.out; omega, by go_num, mm + nq, by rw [HWM.out, World.drewN_drewN]⟩
      case measure => simp [intOf]; have := HLT.out; omega
    · obtain rfl : k = m := by omega
      clear hr hr'
      go_wp2_with fail
      go_ret
      exact ⟨rfl, m1 + mm, by rw [HWM.out, HW1.out, World.drewN_drewN]⟩
end Go.Proofs.Ytdadcfbapeldpaa
