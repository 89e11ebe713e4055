/- The walk of CrcNoughts: it returns true, and nothing that was there turns. -/
import Derived.Test.YtagolnmkcjbibaaDoorCrcPiecesWalk
import Derived.Deep.RegionHeld3
namespace Go.Proofs.YtagolnmkcjbibaaDoor
open Go.RowKit
set_option linter.unusedVariables false
set_option linter.unusedSimpArgs false

theorem xorBytes_take (a b : List UInt8) (k : Nat) (ha : k < a.length) (hb : k < b.length) : xorBytes (a.take k) (b.take k) ++ [a.getD k 0 ^^^ b.getD k 0] = xorBytes (a.take (k + 1)) (b.take (k + 1)) := by
  unfold xorBytes
  rw [← List.take_zipWith, ← List.take_zipWith, List.take_add_one]
  simp [List.getElem?_zipWith, ha, hb]
theorem noughts_succ (k : Nat) : List.replicate k (0 : UInt8) ++ [0] = List.replicate (k + 1) 0 := by rw [List.replicate_succ']
theorem crcRun_noughts (n : Nat) : crcRun 0 (List.replicate n 0) = 0 := by
  induction n with
  | zero => rfl
  | succ n ih =>
    rw [List.replicate_succ, crcRun_cons]
    have e : crcByte 0 0 = 0 := by simpa [crcByte] using nxs_zero 8
    rw [e]
    exact ih
theorem crc_noughts (s : Nat) (a b : List UInt8) (n : Nat) (ha : a.length = n) (hb : b.length = n) : crcAdd s a ^^^ crcAdd s b = crcSum (xorBytes a b) ^^^ crcSum (List.replicate n 0) := by
  rw [crcAdd_diff s a b (by omega), crcRun_xor a b (by omega), Nat.xor_self]
  unfold crcSum
  rw [crcAdd_diff 0 _ _ (by simp [xorBytes]; omega), crcRun_noughts, Nat.xor_zero]

set_option maxRecDepth 100000 in
set_option maxHeartbeats 1600000 in
theorem crcNoughts_walk (A0 : Option Addr) (n0 c0 : Nat) (z0 : List Int) (A1 : Option Addr) (n1 c1 : Nat) (z1 : List Int) (A2 : Option Addr) (n2 c2 : Nat) (z2 : List Int) (w : World) (h0 : RowIn .u8 w A0 n0 c0 z0) (h1 : RowIn .u8 w A1 n1 c1 z1) (h2 : RowIn .u8 w A2 n2 c2 z2) (T : Tabs w) :
    Calls Tryd.prog 8 #[.slice A0 n0 c0, .slice A1 n1 c1, .slice A2 n2 c2] w fun e w' => e = .returned (.bool true) ∧ Below w.heap.size w w' := by
  obtain ⟨l0, r0, hc0, hm0, hA0⟩ := reads_of_row h0
  obtain ⟨l1, r1, hc1, hm1, hA1⟩ := reads_of_row h1
  obtain ⟨l2, r2, hc2, hm2, hA2⟩ := reads_of_row h2
  obtain ⟨n, l, rl, hn, hnc, hA, hcut⟩ : ∃ n l, Reads w w.heap.size A0 n l ∧ n ≤ 100 ∧ n ≤ c0 ∧ (A0 = none → n = 0 ∧ c0 = 0) ∧ Calls Tryd.prog 9 #[.slice A0 n0 c0, .int .i64 100] w fun e w' => e = .returned (.slice A0 n c0) ∧ w = w' :=
    ⟨_, _, r0.take 100, by omega, by omega, fun e => ⟨by have := (hA0 e).1; omega, (hA0 e).2⟩, cut_any A0 n0 c0 100 l0 w _ r0 hc0 hm0 (by omega)⟩
  have HC := Lib.hid hcut
  have TT := Lib.hid T
  clear T
  clear hcut h0 h1 h2 r0 hA0 hm0 hnc
  go_enter Tryd.func8, Tryd.ntmps8
  go_wp2_with fail
  refine HC.out.mono ?_
  rintro e w1 ⟨rfl, rfl⟩
  go_wp2_with fail
  refine (within_nat n1 100 w).mono ?_
  rintro e w1 ⟨rfl, rfl⟩
  obtain ⟨q, hq⟩ : ∃ q, q = min n1 100 := ⟨_, rfl⟩
  rw [← hq]
  have hqn : q ≤ n1 := by omega
  have hq100 : q ≤ 100 := by omega
  clear hq
  go_wp2_with fail
  refine (within_nat n2 q w).mono ?_
  rintro e w1 ⟨rfl, rfl⟩
  obtain ⟨p, hp⟩ : ∃ p, p = min n2 q := ⟨_, rfl⟩
  rw [← hp]
  have hpn : p ≤ n2 := by omega
  have hpq : p ≤ q := by omega
  have x1 := r1.takek (k := p) (by omega)
  have x2 := r2.takek (k := p) (by omega)
  have b1 : (p : Int) ≤ c1 := by omega
  have b2 : (p : Int) ≤ c2 := by omega
  have b0 : (0 : Int) ≤ p := by omega
  have hp100 : p ≤ 100 := by omega
  generalize l1.take p = a at x1
  generalize l2.take p = b at x2
  clear hp hpn hpq hqn hq100 r1 r2
  go_wp2_with fail
  go_quiet (fail)
  rename_i nq _
  have x1 : Reads (w.drewN nq) w.heap.size A1 p a := x1
  have x2 : Reads (w.drewN nq) w.heap.size A2 p b := x2
  have rl1 : Reads (w.drewN nq) w.heap.size A0 n l := rl
  go_wp2_with fail
  go_loopw [8, 9, 10] (fun v1 v2 i wr => ∃ k : Nat, i = .int .i64 k ∧ k ≤ p ∧ wr.ownsRow w.heap.size 5 1 v1 k (bytesV (xorBytes (a.take k) (b.take k))) ∧ wr.ownsRow w.heap.size 5 1 v2 k (bytesV (List.replicate k 0)) ∧ (v1.ownBlock = none ∨ v1.ownBlock ≠ v2.ownBlock) ∧ Still w wr) (fun _ _ i _ => p - (intOf i).toNat)
  case atStart => exact ⟨0, rfl, Nat.zero_le _, World.ownsRow_nil _ _ _ _, World.ownsRow_nil _ _ _ _, .inl rfl, still_drewN (Below.refl _ _) _⟩
  case round =>
    obtain ⟨k, rfl, hk, own1, own2, hne, st⟩ := hrel
    by_cases hlt : k < p
    · have y1 := x1.keep (w' := wr) fun q hq => st.cell hq
      have y2 := x2.keep (w' := wr) fun q hq => st.cell hq
      obtain ⟨ba, oa, rfl, hba, ca⟩ := y1.at_ (by omega)
      obtain ⟨bb, ob, rfl, hbb, cb⟩ := y2.at_ (by omega)
      have e1 := ca k hlt
      have e2 := cb k hlt
      obtain ⟨da, hda⟩ : ∃ d, d = a.getD k 0 := ⟨_, rfl⟩
      obtain ⟨db, hdb⟩ : ∃ d, d = b.getD k 0 := ⟨_, rfl⟩
      rw [← hda] at e1
      rw [← hdb] at e2
      have hx : bits BinOp.xor IntKind.u8 (da.toNat : Int) (db.toNat : Int) = (((da ^^^ db).toNat : Nat) : Int) := by
        rw [u8_xor_nat _ _ da.toNat_lt db.toNat_lt, UInt8.toNat_xor]
      have DA := Lib.hid hda
      have DB := Lib.hid hdb
      have z1 : (0 : Int) ≤ (k : Int) := by omega
      have z2 : (k : Int) < (p : Int) := by omega
      clear ca cb y1 y2 hda hdb
      have hz : w.heap.size ≤ wr.heap.size := st.size
      have lt1 := own1.lt
      have lt2 := own2.lt
      have hne2 : u9.ownBlock = none ∨ u9.ownBlock ≠ u8.ownBlock := by
        rcases hne with h | h
        · rw [h]; cases u9.ownBlock <;> simp
        · exact .inr (Ne.symm h)
      have L1 := Lib.hid lt1
      have L2 := Lib.hid lt2
      clear lt1 lt2
      go_wp2_with fail
      go_region_held3 (fun w' => w'.cell? ⟨ba, oa + k, none⟩ = some (.int .u8 (da.toNat : Int)) ∧ w'.cell? ⟨bb, ob + k, none⟩ = some (.int .u8 (db.toNat : Int))) (first | go_keep | (go_split_ands; exact ⟨by assumption, by assumption⟩))
        (first
          | (refine step_push _ (by rfl) (.tmp 32) (.tmp 42) (by rfl) w.heap.size u8 k _ (by rfl) (by first | exact own1.drew.alloc _ | exact (own1.drew.alloc _).alloc _) _ (da ^^^ db) (by rfl) (by simp) (by omega) (by simp; omega) ?_
             intro v1 w5 own1' gr5 nb5
             have hz5 : wr.heap.size < w5.heap.size := by have := gr5.size; simp at this; omega
             have own2' : w5.ownsRow w.heap.size 5 1 u9 k (bytesV (List.replicate k 0)) := World.ownsRow.kept (by first | exact own2.drew.alloc _ | exact (own2.drew.alloc _).alloc _) gr5 hne2
             have hS5 : w5.cell? ⟨ba, oa + k, none⟩ = some (.int .u8 (da.toNat : Int)) ∧ w5.cell? ⟨bb, ob + k, none⟩ = some (.int .u8 (db.toNat : Int)) := by
               go_split_ands
               exact ⟨(gr5.cell_far _ (by simp; omega) (fun e => by have := (L1.out _ e.symm).1; simp at this; omega)).trans (by assumption), (gr5.cell_far _ (by simp; omega) (fun e => by have := (L1.out _ e.symm).1; simp at this; omega)).trans (by assumption)⟩
             have st5 : Still w w5 := Below.grown (by first | exact st.drew.alloc hz _ | exact (st.drew.alloc hz _).alloc (by simp; omega) _) gr5 (by simp; omega) (fun r e => (L1.out _ e).1)
             have nb5' : v1.ownBlock = none ∨ v1.ownBlock ≠ u9.ownBlock := by
               rcases nb5 with h | h
               · rw [h]; exact hne
               · right
                 rw [h]
                 intro e
                 have := (L2.out _ e.symm).2
                 simp at this
                 omega
             obtain ⟨s5a, s5b⟩ := hS5)
          | (refine step_push _ (by rfl) (.tmp 44) (.tmp 45) (by rfl) w.heap.size u9 k _ (by rfl) (by first | exact own2' | exact own2'.alloc _) _ 0 (by rfl) (by first | (simp; done) | exact (gr5.cell_far _ (by simp <;> omega) (fun e => by have := (L1.out _ e.symm).2; simp at this <;> omega)).trans (by simp <;> omega)) (by omega) (by first | omega | (simp; omega)) ?_
             intro v2 w6 own2'' gr6 nb6
             have hz6 : w5.heap.size ≤ w6.heap.size := by have := gr6.size; first | omega | (simp at this; omega)
             have own1'' : w6.ownsRow w.heap.size 5 1 v1 (k + 1) (bytesV (xorBytes (a.take k) (b.take k) ++ [da ^^^ db])) := World.ownsRow.kept (by first | exact own1' | exact own1'.alloc _) gr6 nb5'
             have st6 : Still w w6 := Below.grown (by first | exact st5 | exact st5.alloc (by omega) _) gr6 (by first | omega | (simp; omega)) (fun r e => (L2.out _ e).1)
             have nb7 : v1.ownBlock = none ∨ v1.ownBlock ≠ v2.ownBlock := by
               rcases nb6 with h | h
               · rw [h]; exact nb5'
               · right
                 rw [h]
                 intro e
                 have := (own1'.lt _ e).2
                 first | omega | (simp at this; omega)
             have s6a : w6.cell? ⟨ba, oa + k, none⟩ = some (.int .u8 (da.toNat : Int)) := (gr6.cell_far _ (by first | omega | (simp; omega)) (fun e => by have := (L2.out _ e.symm).1; simp at this; omega)).trans (by go_split_ands; assumption)
             have s6b : w6.cell? ⟨bb, ob + k, none⟩ = some (.int .u8 (db.toNat : Int)) := (gr6.cell_far _ (by first | omega | (simp; omega)) (fun e => by have := (L2.out _ e.symm).1; simp at this; omega)).trans (by go_split_ands; assumption)))
      all_goals
        have OW1 := Lib.hid own1''
        have OW2 := Lib.hid own2''
        have ST := Lib.hid st6
        have NB := Lib.hid nb7
        clear own1'' own2'' st6 nb7 own1 own2 st st5 own1' own2' gr5 gr6 nb5 nb5' nb6 L1 L2 hne hne2 s6a s6b s5a s5b e1 e2
        go_wp2_with fail
        go_roundw
        case rel =>
          refine ⟨k + 1, by go_num, by omega, ?_, ?_, NB.out, ST.out⟩
          · have := OW1.out
            rw [DA.out, DB.out, xorBytes_take a b k (by have := x1.1; omega) (by have := x2.1; omega)] at this
            exact this
          · have := OW2.out
            rw [noughts_succ] at this
            exact this
        case measure => simp [intOf]; omega
    · obtain rfl : k = p := by omega
      have la := x1.1
      have lb := x2.1
      rw [List.take_of_length_le (by omega), List.take_of_length_le (by omega)] at own1
      obtain ⟨A3, c3, rfl, h31, h32, _⟩ := own_form own1
      obtain ⟨A4, c4, rfl, h41, h42, _⟩ := own_form own2
      have hz : w.heap.size ≤ wr.heap.size := st.size
      have y0 := rl1.keep (w' := wr) fun q hq => st.cell hq
      have y1 := x1.keep (w' := wr) fun q hq => st.cell hq
      have y2 := x2.keep (w' := wr) fun q hq => st.cell hq
      have y3 := Reads.of_own own1
      have y4 := Reads.of_own own2
      clear own1 own2 x1 x2 rl1
      have hS : crcSum l < 4294967296 := crcAdd_lt 0 _ (by omega)
      have hE := crc_noughts (crcSum l) a b k la lb
      have h1 : crcAdd (crcSum l) a < 4294967296 := crcAdd_lt _ _ hS
      have h2 : crcAdd (crcSum l) b < 4294967296 := crcAdd_lt _ _ hS
      have h3 : crcSum (xorBytes a b) < 4294967296 := crcAdd_lt 0 _ (by omega)
      have h4 : crcSum (List.replicate k 0) < 4294967296 := crcAdd_lt 0 _ (by omega)
      have xa := u32_xor_cast _ _ h1 h2
      have xb := u32_xor_cast _ _ h3 h4
      rw [← hE] at xb
      have k0 := fun w' (t : Still wr w') => crcsum_any A0 n c0 l w' w.heap.size (TT.out.still (st.trans t)) (y0.still hz t) (by have := t.size; omega) (by omega)
      have k1 := fun w' (t : Still wr w') => crcadd_any (crcSum l) A1 k c1 a w' w.heap.size (TT.out.still (st.trans t)) hS (y1.still hz t) (by have := t.size; omega) (by omega)
      have k2 := fun w' (t : Still wr w') => crcadd_any (crcSum l) A2 k c2 b w' w.heap.size (TT.out.still (st.trans t)) hS (y2.still hz t) (by have := t.size; omega) (by omega)
      have k3 := fun w' (t : Still wr w') => crcsum_any A3 k c3 _ w' wr.heap.size (TT.out.still (st.trans t)) (y3.still (Nat.le_refl _) t) t.size (by omega)
      have k4 := fun w' (t : Still wr w') => crcsum_any A4 k c4 _ w' wr.heap.size (TT.out.still (st.trans t)) (y4.still (Nat.le_refl _) t) t.size (by omega)
      clear y0 y1 y2 y3 y4 hE h1 h2 h3 h4 hS la lb
      generalize crcAdd (crcSum l) a = R1 at *
      generalize crcAdd (crcSum l) b = R2 at *
      generalize crcSum (xorBytes a b) = R3 at *
      generalize crcSum (List.replicate k 0) = R4 at *
      generalize crcSum l = R0 at *
      generalize R1 ^^^ R2 = R5 at *
      have K0 := Lib.hid k0
      have K1 := Lib.hid k1
      have K2 := Lib.hid k2
      have K3 := Lib.hid k3
      have K4 := Lib.hid k4
      clear k0 k1 k2 k3 k4
      go_wp2_with fail
      refine (K0.out _ (Still.refl _)).mono ?_
      rintro e w1 ⟨rfl, s1⟩
      go_wp2_with fail
      refine (K1.out _ s1).mono ?_
      rintro e w2 ⟨rfl, s2⟩
      have s2 := s1.trans s2
      go_wp2_with fail
      refine (K2.out _ s2).mono ?_
      rintro e w3 ⟨rfl, s3⟩
      have s3 := s2.trans s3
      go_wp2_with fail
      refine (K3.out _ s3).mono ?_
      rintro e w4 ⟨rfl, s4⟩
      have s4 := s3.trans s4
      go_wp2_with fail
      refine (K4.out _ s4).mono ?_
      rintro e w5 ⟨rfl, s5⟩
      have s5 := s4.trans s5
      go_wp2_with fail
      refine (crclives _ (TT.out.still (st.trans s5))).mono ?_
      rintro e w8 ⟨rfl, s8⟩
      go_wp2_with fail
      go_ret
      exact ⟨rfl, st.trans (s5.trans s8)⟩
end Go.Proofs.YtagolnmkcjbibaaDoor
