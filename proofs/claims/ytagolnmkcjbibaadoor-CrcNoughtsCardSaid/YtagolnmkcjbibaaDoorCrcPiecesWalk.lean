/- The walk of CrcPieces: it returns true, and nothing that was there turns. -/
import Derived.Test.YtagolnmkcjbibaaDoorCrcLaws
namespace Go.Proofs.YtagolnmkcjbibaaDoor
open Go.RowKit
set_option linter.unusedVariables false
set_option linter.unusedSimpArgs false

/-- A slice that came in, or what is left of it. -/
structure Rest (w : World) (B : Nat) (A : Option Addr) (n c : Nat) (l : List UInt8) : Prop where
  reads : Reads w B A n l
  fit : n ≤ c
  cap : c ≤ 9223372036854775807
  nil : A = none → n = 0 ∧ c = 0
theorem Rest.still {w w' : World} {B n c : Nat} {A : Option Addr} {l : List UInt8} (h : Rest w B A n c l) (hB : B ≤ w.heap.size) (hs : Still w w') : Rest w' B A n c l := ⟨h.reads.still hB hs, h.fit, h.cap, h.nil⟩
theorem Rest.dropk {w : World} {B n c k : Nat} {A : Option Addr} {l : List UInt8} (h : Rest w B A n c l) (hk : k ≤ n) : Rest w B (A.map (·.add k)) (n - k) (c - k) (l.drop k) :=
  ⟨h.reads.dropk hk, by have := h.fit; omega, by have := h.cap; omega, fun e => by
    have e2 : A = none := by simpa using e
    have := h.nil e2
    omega⟩

set_option maxRecDepth 100000 in
set_option maxHeartbeats 1600000 in
theorem crcPieces_walk (A0 : Option Addr) (n0 c0 : Nat) (z0 : List Int) (A1 : Option Addr) (n1 c1 : Nat) (z1 : List Int) (w : World) (h0 : RowIn .u8 w A0 n0 c0 z0) (h1 : RowIn .i64 w A1 n1 c1 z1) (T : Tabs w) :
    Calls Tryd.prog 5 #[.slice A0 n0 c0, .slice A1 n1 c1] w fun e w' => e = .returned (.bool true) ∧ Below w.heap.size w w' := by
  obtain ⟨l0, r0, hc0, hm0, hA0⟩ := reads_of_row h0
  obtain ⟨hn1, hz1⟩ := ints_of_row h1
  obtain ⟨n, l, rl, hn, hnc, hA, hcut⟩ : ∃ n l, Reads w w.heap.size A0 n l ∧ n ≤ 2000 ∧ n ≤ c0 ∧ (A0 = none → n = 0 ∧ c0 = 0) ∧ Calls Tryd.prog 9 #[.slice A0 n0 c0, .int .i64 2000] w fun e w' => e = .returned (.slice A0 n c0) ∧ w = w' :=
    ⟨_, _, r0.take 2000, by omega, by omega, fun e => ⟨by have := (hA0 e).1; omega, (hA0 e).2⟩, cut_any A0 n0 c0 2000 l0 w _ r0 hc0 hm0 (by omega)⟩
  have rs0 : Rest w w.heap.size A0 n c0 l := ⟨rl, hnc, hm0, hA⟩
  have HC := Lib.hid hcut
  have HZ := Lib.hid hz1
  have TT := Lib.hid T
  clear T
  clear hcut h0 h1 r0 hA0 hm0 hz1 hnc
  go_enter Tryd.func5, Tryd.ntmps5
  go_wp2_with fail
  refine HC.out.mono ?_
  rintro e w1 ⟨rfl, rfl⟩
  go_wp2_with fail
  refine (crcsum_any A0 n c0 l w _ TT.out rl (Nat.le_refl _) (by omega)).mono ?_
  rintro e w1 ⟨rfl, s1⟩
  obtain ⟨W, hW⟩ : ∃ W, W = crcSum l := ⟨_, rfl⟩
  rw [← hW]
  have HW := Lib.hid hW
  have rs1 := rs0.still (Nat.le_refl _) s1
  clear hW rl rs0
  go_wp2_with fail
  go_loopw [6, 7, 8, 9] (fun sv tv rv i wr => ∃ (k : Nat) (L1 L2 : List UInt8) (S : Nat) (Ar : Option Addr) (m cr : Nat), i = .int .i64 k ∧ k ≤ n1 ∧ k ≤ 50 ∧ Hid (L1 ++ L2 = l) ∧ Hid (S = crcSum L1) ∧ sv = .int .u32 S ∧ tv = .int .u32 S ∧ rv = .slice Ar m cr ∧ Rest wr w.heap.size Ar m cr L2 ∧ m ≤ 2000 ∧ Still w wr) (fun _ _ _ i _ => 50 - (intOf i).toNat)
  case atStart => exact ⟨0, [], l, 0, A0, n, c0, rfl, by omega, by omega, rfl, by show _ = _; decide, rfl, rfl, rfl, rs1, hn, s1⟩
  case round =>
    obtain ⟨k, L1, L2, S, Ar, m, cr, rfl, hk1, hk2, hL, hS, rfl, rfl, rfl, rs, hm2, st⟩ := hrel
    have hSb : S < 4294967296 := by rw [hS.out]; exact crcAdd_lt 0 _ (by omega)
    by_cases hlt : k < n1 ∧ k < 50
    · obtain ⟨g1, g2⟩ := hlt
      obtain ⟨b, o, y, rfl, hb, hcell⟩ := HZ.out k g1
      have hcell1 : wr.cell? ⟨b, o + k, none⟩ = some (.int .i64 y) := (st.cell (p := ⟨b, o + k, none⟩) hb).trans hcell
      have hfit := rs.fit
      have hcap := rs.cap
      clear hcell
      go_wp2_with fail
      refine (within_any y 0 m wr (by omega)).mono ?_
      rintro e w2 ⟨⟨q, hq1, hq2, rfl⟩, rfl⟩
      obtain ⟨q, rfl⟩ := Int.eq_ofNat_of_zero_le hq1
      have hqm : q ≤ m := by omega
      have rq := rs.reads.takek hqm
      obtain ⟨S2, hS2⟩ : ∃ S2, S2 = crcAdd S (L2.take q) := ⟨_, rfl⟩
      have hS2b : S2 < 4294967296 := by rw [hS2]; exact crcAdd_lt _ _ hSb
      obtain ⟨T2, hT2⟩ : ∃ T2, T2 = crcSum (L2.take q) := ⟨_, rfl⟩
      have hT2b : T2 < 4294967296 := by rw [hT2]; exact crcAdd_lt _ _ (by omega)
      have lq : (L2.take q).length = q := rq.1
      have hj : crcShift S q ^^^ T2 = S2 := by rw [hS2, hT2, crcAdd_join, lq]
      have hs2 : S2 = crcSum (L1 ++ L2.take q) := by rw [hS2, hS.out]; exact (crcAdd_append 0 L1 _).symm
      have hl2 : (L1 ++ L2.take q) ++ L2.drop q = l := by rw [List.append_assoc, List.take_append_drop]; exact hL.out
      have HS2 := Lib.hid hs2
      have HL2 := Lib.hid hl2
      have HJ := Lib.hid hj
      have E1 := Lib.hid hS2
      have E2 := Lib.hid hT2
      have hz : w.heap.size ≤ wr.heap.size := st.size
      clear hS2 hT2 hj hs2 hl2 lq hcell1 hL hS
      go_wp2_with fail
      refine (crcadd_any S Ar q cr (L2.take q) wr _ (TT.out.still st) hSb rq hz (by omega)).mono ?_
      rintro e w2 ⟨rfl, t1⟩
      rw [← E1.out]
      have rq2 := rq.still hz t1
      have hz2 : w.heap.size ≤ w2.heap.size := by have := t1.size; omega
      go_wp2_with fail
      refine (crcsum_any Ar q cr (L2.take q) w2 _ (TT.out.still (st.trans t1)) rq2 hz2 (by omega)).mono ?_
      rintro e w3 ⟨rfl, t2⟩
      rw [← E2.out]
      go_wp2_with fail
      refine (crcjoin_any S T2 q w3 hSb hT2b (by omega)).mono ?_
      rintro e w4 ⟨rfl, t3⟩
      rw [Int.toNat_natCast, HJ.out]
      have st4 := st.trans (t1.trans (t2.trans t3))
      have rs4 := rs.still hz (t1.trans (t2.trans t3))
      have ST := Lib.hid st4
      clear t1 t2 t3 rq rq2 st st4 rs
      by_cases hck : cr = q
      · have hmq : m = q := by omega
        subst hmq
        subst hck
        have rs5 : Rest w4 w.heap.size Ar 0 0 (L2.drop cr) := by
          have e : L2.drop cr = [] := List.drop_of_length_le (by have := rs4.reads.1; omega)
          rw [e]
          exact ⟨⟨rfl, fun h => by omega⟩, by omega, by omega, fun _ => ⟨rfl, rfl⟩⟩
        have RS := Lib.hid rs5
        clear rs5 rs4
        go_wp2_with fail
        go_roundw
        case rel => exact ⟨k + 1, L1 ++ L2.take cr, L2.drop cr, S2, _, _, _, by go_num, by omega, by omega, HL2.out, HS2.out, rfl, rfl, rfl, RS.out, by omega, ST.out⟩
        case measure => simp [intOf]; omega
      · have rs5 := rs4.dropk hqm
        have RS := Lib.hid rs5
        clear rs5 rs4
        go_wp2_with fail
        go_roundw
        case rel => exact ⟨k + 1, L1 ++ L2.take q, L2.drop q, S2, _, _, _, by go_num, by omega, by omega, HL2.out, HS2.out, rfl, rfl, rfl, RS.out, by omega, ST.out⟩
        case measure => simp [intOf]; omega
    · have key : (k < n1 ∧ decide ((k : Int) < 50) = false) ∨ ¬ k < n1 := by
        by_cases d1 : k < n1
        · exact .inl ⟨d1, by simp; omega⟩
        · exact .inr d1
      have hz : w.heap.size ≤ wr.heap.size := st.size
      obtain ⟨T2, hT2⟩ : ∃ T2, T2 = crcSum L2 := ⟨_, rfl⟩
      have hT2b : T2 < 4294967296 := by rw [hT2]; exact crcAdd_lt _ _ (by omega)
      have lm : L2.length = m := rs.reads.1
      have ha : crcAdd S L2 = W := by rw [HW.out, hS.out, ← hL.out]; exact (crcAdd_append 0 L1 L2).symm
      have hj : crcShift S m ^^^ T2 = W := by rw [← ha, hT2, crcAdd_join, lm]
      have HJ := Lib.hid hj
      have E1 := Lib.hid ha
      have E2 := Lib.hid hT2
      have hfit := rs.fit
      have hcap := rs.cap
      clear hT2 hj ha lm hL hS hlt
      rcases key with ⟨d1, d2⟩ | d1
      all_goals
        go_wp2_with fail
        refine (crcadd_any S Ar m cr L2 wr _ (TT.out.still st) hSb rs.reads hz (by omega)).mono ?_
        rintro e w2 ⟨rfl, t1⟩
        rw [E1.out]
        have rs2 := rs.still hz t1
        have hz2 : w.heap.size ≤ w2.heap.size := by have := t1.size; omega
        go_wp2_with fail
        refine (crcsum_any Ar m cr L2 w2 _ (TT.out.still (st.trans t1)) rs2.reads hz2 (by omega)).mono ?_
        rintro e w3 ⟨rfl, t2⟩
        rw [← E2.out]
        go_wp2_with fail
        refine (crcjoin_any S T2 m w3 hSb hT2b (by omega)).mono ?_
        rintro e w4 ⟨rfl, t3⟩
        rw [Int.toNat_natCast, HJ.out]
        go_wp2_with fail
        refine (crclives w4 (TT.out.still (st.trans (t1.trans (t2.trans t3))))).mono ?_
        rintro e w5 ⟨rfl, t4⟩
        go_wp2_with fail
        go_ret
        exact ⟨rfl, st.trans (t1.trans (t2.trans (t3.trans t4)))⟩
end Go.Proofs.YtagolnmkcjbibaaDoor
