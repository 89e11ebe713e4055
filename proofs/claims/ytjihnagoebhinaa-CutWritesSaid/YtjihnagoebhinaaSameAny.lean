/- Contract: hoardref01.Same of whatever bytes. It proves no statement. -/
import Derived.Test.YtjihnagoebhinaaSame
namespace Go.Proofs.Ytjihnagoebhinaa
open Go.RowKit
set_option linter.unusedVariables false
set_option linter.unusedSimpArgs false

theorem bytes_ext (l l' : List UInt8) (hl : l.length = l'.length) (h : ∀ i, i < l.length → l.getD i 0 = l'.getD i 0) : l = l' := by
  apply List.ext_getElem hl
  intro i h1 h2
  have := h i h1
  simpa [List.getD, h1, h2] using this

set_option maxRecDepth 100000 in
set_option maxHeartbeats 1600000 in
theorem same_quiet (A A' : Option Addr) (n n' c c' : Nat) (l l' : List UInt8) (w : World) (B B' : Nat) (h : Reads w B A n l) (h' : Reads w B' A' n' l') (hn : n ≤ 70368744177664) (hn' : n' ≤ 70368744177664) :
    Calls Try.prog 19 #[.slice A n c, .slice A' n' c'] w fun e w' => e = .returned (.bool (decide (l = l'))) ∧ ∃ m, w' = w.drewN m := by
  have h1 := h.1
  have h2 := h'.1
  by_cases hlen : n = n'
  · subst hlen
    obtain ⟨q, hq⟩ : ∃ q, q = decide (l = l') := ⟨_, rfl⟩
    rw [← hq]
    have HQ := Lib.hid hq
    have HL := Lib.hid (⟨h1, h2⟩ : l.length = n ∧ l'.length = n)
    have HH := Lib.hid h
    have HH' := Lib.hid h'
    have d3 : (n : Int) ≤ 70368744177664 := by omega
    clear hq h1 h2 h h' hn hn'
    go_enter Try.func19, Try.ntmps19
    go_wp2_with fail
    go_loopw [5] (fun iv wr => ∃ k : Nat, k ≤ n ∧ iv = .int .i64 k ∧ Hid ((∀ i, i < k → l.getD i 0 = l'.getD i 0) ∧ ∃ m, wr = w.drewN m)) (fun iv _ => n - (intOf iv).toNat)
    case atStart => exact ⟨0, Nat.zero_le _, rfl, fun i hi => by omega, 0, rfl⟩
    case round =>
      obtain ⟨k, hk, rfl, hin⟩ := hrel
      obtain ⟨mm, hwm⟩ := hin.out.2
      have st : Still w wr := by rw [hwm]; exact still_drewN (Still.refl w) mm
      have hkeep : Reads wr B A n l ∧ Reads wr B' A' n l' := by
        rw [hwm]
        exact ⟨HH.out.keep fun _ _ => rfl, HH'.out.keep fun _ _ => rfl⟩
      have ST := Lib.hid st
      have HWM := Lib.hid hwm
      clear hwm st
      by_cases hlt : k < n
      · obtain ⟨b, o, rfl, hb, hc⟩ := hkeep.1.at_ (by omega)
        obtain ⟨b', o', rfl, hb', hc'⟩ := hkeep.2.at_ (by omega)
        have c1 := hc k hlt
        have c2 := hc' k hlt
        obtain ⟨y, hy⟩ : ∃ y, y = l.getD k 0 := ⟨_, rfl⟩
        obtain ⟨y', hy'⟩ : ∃ y, y = l'.getD k 0 := ⟨_, rfl⟩
        rw [← hy] at c1
        rw [← hy'] at c2
        have HY := Lib.hid hy
        have HY' := Lib.hid hy'
        have HLT := Lib.hid hlt
        have z1 : (0 : Int) ≤ (k : Int) := by omega
        have z2 : (k : Int) < (n : Int) := by omega
        clear hc hc' hb hb' hy hy' hlt hkeep
        by_cases hyy : y = y'
        · subst hyy
          generalize y.toNat = yy at *
          go_wp2_with fail
          go_quiet (fail)
          go_wp2_with fail
          go_roundw
          case rel =>
            refine ⟨k + 1, by have := HLT.out; omega, by go_num, Lib.hid ⟨fun i hi => ?_, mm + nq, ?_⟩⟩
            · by_cases h : i = k
              · rw [h, ← HY.out, ← HY'.out]
              · exact hin.out.1 i (by omega)
            · rw [HWM.out, World.drewN_drewN]
          case measure => simp [intOf]; have := HLT.out; omega
        · have hne : ¬ y.toNat = y'.toNat := fun e => hyy (UInt8.toNat_inj.1 e)
          have hq : q = false := by
            rw [HQ.out]
            simp only [decide_eq_false_iff_not]
            intro e
            exact hyy (by rw [HY.out, HY'.out, e])
          have HNE := Lib.hid hq
          have hni : (((y.toNat : Nat) : Int) == ((y'.toNat : Nat) : Int)) = false := by
            rw [beq_eq_false_iff_ne]
            omega
          have hni2 : (((y.toNat : Nat) : Int) != ((y'.toNat : Nat) : Int)) = true := by rw [bne_iff_ne]; omega
          generalize y.toNat = yy at *
          generalize y'.toNat = yy' at *
          clear hyy hq hne
          go_wp2_with fail
          go_quiet (fail)
          go_wp2_with fail
          (try simp only [Exit.inBlock, Exit.then])
          go_ret
          rw [HNE.out]
          exact ⟨rfl, mm + nq, by rw [HWM.out, World.drewN_drewN]⟩
      · obtain rfl : k = n := by omega
        have hq : q = true := by
          rw [HQ.out]
          simp only [decide_eq_true_eq]
          exact bytes_ext _ _ (HL.out.1.trans HL.out.2.symm) fun i hi => hin.out.1 i (by have := HL.out.1; omega)
        have HNE := Lib.hid hq
        clear hq hlt hkeep
        go_wp2_with fail
        go_ret
        rw [HNE.out]
        exact ⟨rfl, mm, HWM.out⟩
  · have hne : ¬ l = l' := fun e => hlen (by rw [← h1, ← h2, e])
    rw [show decide (l = l') = false by simpa using hne]
    have d : ((n : Int) != (n' : Int)) = true := by simp; omega
    clear hne hlen h h' h1 h2 hn hn'
    go_enter Try.func19, Try.ntmps19
    go_wp2_with fail
    (try simp only [Exit.inBlock, Exit.then])
    go_ret
    exact ⟨rfl, 0, rfl⟩
/-- The same, told as nothing that was there turns. -/
theorem same_any (A A' : Option Addr) (n n' c c' : Nat) (l l' : List UInt8) (w : World) (B B' : Nat) (h : Reads w B A n l) (h' : Reads w B' A' n' l') (hn : n ≤ 70368744177664) (hn' : n' ≤ 70368744177664) :
    Calls Try.prog 19 #[.slice A n c, .slice A' n' c'] w fun e w' => e = .returned (.bool (decide (l = l'))) ∧ Still w w' :=
  (same_quiet A A' n n' c c' l l' w B B' h h' hn hn').mono fun e w' ⟨he, m, hw⟩ => ⟨he, hw ▸ still_drewN (Still.refl w) m⟩
end Go.Proofs.Ytjihnagoebhinaa
