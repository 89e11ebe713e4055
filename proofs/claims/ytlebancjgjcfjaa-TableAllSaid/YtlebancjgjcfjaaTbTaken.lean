/- Contract: all slots that hold a key, by rising keys. It proves no statement. -/
import Derived.Test.YtlebancjgjcfjaaTbRising
import Derived.Test.YtlebancjgjcfjaaSlotsV
namespace Go.Proofs.Ytlebancjgjcfjaa
open Go.RowKit
set_option linter.unusedVariables false
set_option linter.unusedSimpArgs false

/-- The slots of a list of keys and values. -/
def fullsL (L : List KV) : List Sl := L.map fun z => Sl.full z.1 z.2
theorem fullsL_snoc {L : List KV} {j : Nat} {z : KV} (h : L[j]? = some z) : slotsV (fullsL (L.take (j + 1))) = slotsV (fullsL (L.take j)) ++ slL 1 (.full z.1 z.2) := by
  rw [List.take_add_one, h]
  simp [fullsL, slotsV]
/-- The slots behind j places. -/
structure TakW (w1 wr : World) (L : List KV) (j : Nat) (v : Value) : Prop where
  own : wr.ownsRow w1.heap.size 82 34 v j (slotsV (fullsL (L.take j)))
  still : Still w1 wr
set_option maxRecDepth 100000 in
set_option maxHeartbeats 6400000 in
theorem taken_any {w : World} {g b cp dd : Nat} {L : List KV} (h : Tb w g b L cp dd) (hl : L.length ≤ 65536) :
    Calls Try.prog 37 #[.pointer (some ⟨g, 0, none⟩)] w fun e w' => ∃ v, e = .returned v ∧ w'.ownsRow w.heap.size 82 34 v L.length (slotsV (fullsL L)) ∧ Still w w' := by
  have hgd := h.gd
  obtain ⟨⟨c, S, t, a, rfl, rfl⟩, gd⟩ := h
  have RI := Lib.hid (rising_any t (by unfold Gd at hgd; omega))
  have hpl := posL_len t.inv a
  have PA := Lib.hid (fun q z (h : L[q]? = some z) => posL_at t.inv a h)
  have HI := Lib.hid t.inv
  have HT := Lib.hid t
  rw [hpl] at RI
  have SB : S.length ≤ 1048576 := by unfold Gd at hgd; omega
  obtain ⟨N, hN⟩ : ∃ N, N = S.length := ⟨_, rfl⟩
  have HN := Lib.hid hN
  have C0 := Lib.hid (fun W (s : Still w W) => show W.cell? ⟨g, 0, none⟩ = some (.slice (some ⟨b, 0, none⟩) N c) from by rw [hN]; exact (t.still s).c0)
  rw [← hN] at SB
  obtain ⟨n, hn⟩ : ∃ n, n = L.length := ⟨_, rfl⟩
  rw [← hn] at RI hl ⊢
  have HLN := Lib.hid hn
  have d4 : (n : Int) ≤ 65536 := by omega
  have d5 : (N : Int) ≤ 1048576 := by omega
  obtain ⟨fs, hfs⟩ := slot_row
  have UP := Lib.hid hfs
  clear hgd gd t a hpl hN hn hfs
  go_enter Try.func37, Try.ntmps37
  go_wp2_with (go_at_call 42; with_reducible refine RI.out.mono ?_; rintro e w1 ⟨rv, rfl, own1, s1⟩; obtain ⟨rA, rc, rfl, _, _, _, _⟩ := own_slice own1; have O1 := Lib.hid own1; have S1 := Lib.hid s1; clear own1 s1)
  go_loopw [3, 9] (fun lv iv wr => ∃ j : Nat, ∃ v : Value, j ≤ n ∧ iv = .int .i64 j ∧ v = lv ∧ Hid (TakW w1 wr L j v)) (fun _ iv _ => n - (intOf iv).toNat)
  case atStart => exact ⟨0, _, by omega, rfl, rfl, Lib.hid ⟨World.ownsRow_nil _ _ _ _, Still.refl _⟩⟩
  case round =>
    obtain ⟨j, v, hj, rfl, rfl, KW⟩ := hrel
    by_cases hlt : j < n
    · have d8 : (j : Int) < (n : Int) := by omega
      obtain ⟨z, hz⟩ : ∃ z, L[j]? = some z := ⟨_, List.getElem?_eq_getElem (by have := HLN.out; omega)⟩
      obtain ⟨p, hp, hsp⟩ := PA.out j z hz
      obtain ⟨rg, rc2, hrv, hrb, hrl, hrn, hrc, hcell⟩ := own_at O1.out (by omega)
      obtain ⟨rfl, rfl⟩ : rA = some ⟨rg, 0, none⟩ ∧ rc = rc2 := by injection hrv with e1 _ e3; exact ⟨e1, e3⟩
      have ci : wr.cell? ⟨rg, j, none⟩ = some (.int .i64 (p : Int)) := (KW.out.still.cell (p := ⟨rg, j, none⟩) hrl).trans (hcell j _ (by simp [natV, hp]))
      have SW : Still w wr := Still.trans S1.out KW.out.still
      have c0 := C0.out wr SW
      have hpl : p < N := by have := (List.getElem?_eq_some_iff.1 hsp).1; have := HN.out; omega
      have d9 : (p : Int) < (N : Int) := by omega
      have ok := HI.out.slOK hsp
      have RK := Lib.hid (show wr.rangeAt b (p * 34) (slL 1 (.full z.1 z.2)) from (HT.out.still SW).row.at_ p _ hsp)
      have OKH := Lib.hid ok
      have ZSZ := Lib.hid (show (Try.prog.info? 82).map (·.size) = some (slL 1 (.full z.1 z.2)).length from by rw [sizeSlot2, slL_len ok])
      have KBL := Lib.hid (show (slL 1 (.full z.1 z.2)).length = 34 from slL_len ok)
      have TK := Lib.hid (fullsL_snoc hz)
      have BS := Lib.hid (show w1.heap.size ≤ wr.heap.size from KW.out.still.size)
      obtain ⟨s, hs⟩ : ∃ s, s = Sl.full z.1 z.2 := ⟨_, rfl⟩
      rw [← hs] at RK OKH ZSZ KBL TK
      clear hz hp hsp hrv hcell SW ok hlt hpl hs
      go_wp2_with (first
        | (guard_target =~ wpList _ _ _ (Oper.mk (some 20) _ _ _ _ _ :: _) _ _; go_must (refine wpList_load_mid rfl 82 (.tmp 19) rfl b (p * 34) rfl (slL 1 s) _ RK.out UP.out rfl ZSZ.out ?_))
        | (guard_target =~ wpList _ _ _ (Oper.mk (some 21) _ _ _ _ _ :: _) _ _; go_must (refine wpList_boxSlt wr rfl (.tmp 20) rfl s OKH.out rfl ?_))
        | (guard_target =~ wpList _ _ _ (Oper.mk (some 22) _ _ _ _ _ :: _) _ _; go_must (refine wpList_pushSlt wr rfl (.tmp 13) (.tmp 21) rfl w1.heap.size v j (slotsV (fullsL (L.take j))) rfl KW.out.own (slL 1 s) KBL.out (slL_one 1 s) rfl (by omega) BS.out ?_); intro v' w' own' gr'; have K2 := Lib.hid (show TakW w1 w' L (j + 1) v' from ⟨by rw [TK.out]; exact own', still_own KW.out.still gr' BS.out (fun k hk => (KW.out.own.lt k hk).1)⟩); clear own' gr'))
      go_roundw
      case rel => exact ⟨j + 1, v', by omega, by go_num, rfl, K2⟩
      case measure => simp [intOf]; omega
    · have hin : j = n := by omega
      subst hin
      have FIN := Lib.hid (show wr.ownsRow w.heap.size 82 34 v j (slotsV (fullsL L)) ∧ Still w wr from ⟨own_low (by have h := KW.out.own; rw [HLN.out, List.take_length] at h; rw [HLN.out]; exact h) S1.out.size, Still.trans S1.out KW.out.still⟩)
      clear hlt
      go_wp2_with fail
      go_ret
      exact ⟨v, rfl, FIN.out⟩
end Go.Proofs.Ytlebancjgjcfjaa
