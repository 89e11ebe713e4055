/- Contract: the law's comparison of rows of rows. It proves no statement. -/
import Derived.Test.YtjihnagoebhinaaCtRows
import Derived.Test.YtjihnagoebhinaaSameAny
namespace Go.Proofs.Ytjihnagoebhinaa
open Go.RowKit
set_option linter.unusedVariables false
set_option linter.unusedSimpArgs false

theorem rows_ext (L L' : List (List UInt8)) (hl : L.length = L'.length) (h : ∀ i, i < L.length → L.getD i [] = L'.getD i []) : L = L' := by
  apply List.ext_getElem hl
  intro i h1 h2
  have := h i h1
  simpa [List.getD, h1, h2] using this
def Short (L : List (List UInt8)) : Prop := ∀ i, i < L.length → (L.getD i []).length ≤ 70368744177664
set_option maxRecDepth 100000 in
set_option maxHeartbeats 1600000 in
theorem rows_same {O P O' P' : Nat → Prop} (A A' : Option Addr) (n n' c c' : Nat) (L L' : List (List UInt8)) (w : World) (h : RowsR w O P A n c L) (h' : RowsR w O' P' A' n' c' L') (hn : n ≤ 70368744177664) (hn' : n' ≤ 70368744177664) (s1 : Short L) (s2 : Short L') :
    Calls Try.prog 18 #[.slice A n c, .slice A' n' c'] w fun e w' => e = .returned (.bool (decide (L = L'))) ∧ ∃ m, w' = w.drewN m := by
  have h1 := h.len
  have h2 := h'.len
  by_cases hlen : n = n'
  · subst hlen
    obtain ⟨q, hq⟩ : ∃ q, q = decide (L = L') := ⟨_, rfl⟩
    rw [← hq]
    have HQ := Lib.hid hq
    have HL := Lib.hid (⟨h1, h2⟩ : L.length = n ∧ L'.length = n)
    have HH := Lib.hid h
    have HH' := Lib.hid h'
    have S1 := Lib.hid s1
    have S2 := Lib.hid s2
    clear hq h1 h2 h h' hn' s1 s2
    go_enter Try.func18, Try.ntmps18
    go_wp2_with fail
    go_loopw [5] (fun iv wr => ∃ k : Nat, k ≤ n ∧ iv = .int .i64 k ∧ Hid ((∀ i, i < k → L.getD i [] = L'.getD i []) ∧ ∃ m, wr = w.drewN m)) (fun iv _ => n - (intOf iv).toNat)
    case atStart => exact ⟨0, Nat.zero_le _, rfl, fun i hi => by omega, 0, rfl⟩
    case round =>
      obtain ⟨k, hk, rfl, hin⟩ := hrel
      obtain ⟨mm, hwm⟩ := hin.out.2
      have st : Still w wr := by rw [hwm]; exact still_drewN (Still.refl w) mm
      have HWM := Lib.hid hwm
      have hr := HH.out.still st
      have hr' := HH'.out.still st
      clear hwm st
      by_cases hlt : k < n
      · obtain ⟨b, o, rfl, _, hb, hc⟩ := hr.at_ (by omega)
        obtain ⟨b', o', rfl, _, hb', hc'⟩ := hr'.at_ (by omega)
        obtain ⟨B, m, d, c1, p1⟩ := hc k hlt
        obtain ⟨B', m', d', c2, p2⟩ := hc' k hlt
        have HC := Lib.hid (fun i => same_quiet B B' m m' d d' _ _ (wr.drewN i) _ _ (p1.still (still_drewN (Still.refl wr) i)).reads (p2.still (still_drewN (Still.refl wr) i)).reads (by rw [← p1.len]; exact S1.out k (by rw [HL.out.1]; exact hlt)) (by rw [← p2.len]; exact S2.out k (by rw [HL.out.2]; exact hlt)))
        obtain ⟨v, hv⟩ : ∃ v, v = decide (L.getD k [] = L'.getD k []) := ⟨_, rfl⟩
        rw [← hv] at HC
        have HV := Lib.hid hv
        have HLT := Lib.hid hlt
        have z1 : (0 : Int) ≤ (k : Int) := by omega
        have z2 : (k : Int) < (n : Int) := by omega
        clear hc hc' hb hb' hv hlt p1 p2 hr hr'
        go_wp2_with fail
        rcases v with _ | _
        · have hq : q = false := by
            rw [HQ.out]
            simp only [decide_eq_false_iff_not]
            intro e
            have := HV.out
            rw [e] at this
            simp at this
          have HQ2 := Lib.hid hq
          clear hq
          go_quiet ((go_at_call 19; exact Calls.quiet_of (HC.out _)))
          go_wp2_with fail
          (try simp only [Exit.inBlock, Exit.then])
          go_ret
          rw [HQ2.out]
          exact ⟨rfl, mm + nq, by rw [HWM.out, World.drewN_drewN]⟩
        · go_quiet ((go_at_call 19; exact Calls.quiet_of (HC.out _)))
          go_wp2_with fail
          go_roundw
          case rel =>
            refine ⟨k + 1, by have := HLT.out; omega, by go_num, Lib.hid ⟨fun i hi => ?_, mm + nq, ?_⟩⟩
            · by_cases h : i = k
              · rw [h]
                have := HV.out
                simpa using this.symm
              · exact hin.out.1 i (by omega)
            · rw [HWM.out, World.drewN_drewN]
          case measure => simp [intOf]; have := HLT.out; omega
      · obtain rfl : k = n := by omega
        have hq : q = true := by
          rw [HQ.out]
          simp only [decide_eq_true_eq]
          exact rows_ext _ _ (HL.out.1.trans HL.out.2.symm) fun i hi => hin.out.1 i (by have := HL.out.1; omega)
        have HNE := Lib.hid hq
        clear hq hlt hr hr'
        go_wp2_with fail
        go_ret
        rw [HNE.out]
        exact ⟨rfl, mm, HWM.out⟩
  · have hne : ¬ L = L' := fun e => hlen (by rw [← h1, ← h2, e])
    rw [show decide (L = L') = false by simpa using hne]
    have d : ((n : Int) != (n' : Int)) = true := by simp; omega
    clear hne hlen h h' h1 h2 hn hn' s1 s2
    go_enter Try.func18, Try.ntmps18
    go_wp2_with fail
    (try simp only [Exit.inBlock, Exit.then])
    go_ret
    exact ⟨rfl, 0, rfl⟩
end Go.Proofs.Ytjihnagoebhinaa
