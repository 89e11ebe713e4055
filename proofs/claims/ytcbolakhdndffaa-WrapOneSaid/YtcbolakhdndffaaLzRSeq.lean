/- Contracts: the document's own length and sequence. It proves no statement. -/
import Derived.Test.YtcbolakhdndffaaLzRow
import Derived.Laws.OwnMore
import Derived.Deep.DeepCutAuto
namespace Go.Proofs.Ytcbolakhdndffaa
open Go.RowKit
set_option linter.unusedVariables false
set_option linter.unusedSimpArgs false

set_option maxRecDepth 100000 in
set_option maxHeartbeats 800000 in
theorem rlength_any (n : Nat) (w : World) (hn : n ≤ 1048576) :
    Calls Try.prog 48 #[.int .i64 n] w fun e w' => (∃ v, e = .returned (.tuple #[.int .i64 (min n 15 : Nat), v]) ∧ w'.ownsRow w.heap.size 5 1 v (extL n).length (bytesV (extL n))) ∧ Still w w' := by
  by_cases hs : n < 15
  · rw [extL_small hs, show min n 15 = n by omega]
    go_enter Try.func48, Try.ntmps48
    go_wp2_with fail
    go_ret2
    exact ⟨⟨_, rfl, World.ownsRow_nil _ _ _ _⟩, Still.refl _⟩
  · obtain ⟨m, rfl⟩ : ∃ m, n = m + 15 := ⟨n - 15, by omega⟩
    have e := extL_big (n := m + 15) (by omega)
    rw [Nat.add_sub_cancel] at e
    rw [show min (m + 15) 15 = 15 by omega]
    have E := Lib.hid e
    clear e
    have d1 : ¬ ((m : Int) + 15 < 15) := by omega
    go_enter Try.func48, Try.ntmps48
    go_wp2_with fail
    go_loopw [4, 5] (fun vx iv wr => ∃ (j k : Nat) (lv : Value), lv = vx ∧ iv = .int .i64 j ∧ j + 255 * k = m ∧ Hid (wr.ownsRow w.heap.size 5 1 lv k (bytesV (List.replicate k 255)) ∧ Still w wr)) (fun _ iv _ => (intOf iv).toNat)
    case atStart => exact ⟨m, 0, _, rfl, by go_num, by omega, World.ownsRow_nil _ _ _ _, Still.refl _⟩
    case round =>
      obtain ⟨j, k, lv, hlv, rfl, hjk, hh⟩ := hrel
      subst hlv
      have HO := Lib.hid hh.out.1
      have HS := Lib.hid hh.out.2
      have HZ := Lib.hid (show w.heap.size ≤ wr.heap.size from hh.out.2.size)
      clear hh
      by_cases hlt : 255 ≤ j
      · go_wp2_with (at_builtin; go_must (refine wpList_push wr rfl _ _ rfl w.heap.size lv k (List.replicate k 255) rfl HO.out _ 255 rfl rfl ?c1 ?c2 ?_))
        case c1 => omega
        case c2 => exact HZ.out
        intro v2 w2 own2 gr2 _
        have H2 := Lib.hid (show w2.ownsRow w.heap.size 5 1 v2 (k + 1) (bytesV (List.replicate (k + 1) 255)) by rw [List.replicate_succ']; exact own2)
        have S2 := Lib.hid (HS.out.grown gr2 HZ.out (fun k hk => (HO.out.lt k hk).1))
        clear own2 gr2
        go_wp2_with fail
        go_roundw
        case rel => exact ⟨j - 255, k + 1, _, rfl, by go_num, by omega, H2.out, S2.out⟩
        case measure => simp [intOf]; omega
      · have hk : m / 255 = k ∧ m % 255 = j := by omega
        have HK := Lib.hid hk
        clear hk
        go_wp2_with (at_builtin; go_must (refine wpList_push wr rfl _ _ rfl w.heap.size lv k (List.replicate k 255) rfl HO.out _ (UInt8.ofNat j) rfl ?c0 ?c1 ?c2 ?_))
        case c0 => simp; omega
        case c1 => omega
        case c2 => exact HZ.out
        intro v2 w2 own2 gr2 _
        have H2 := Lib.hid own2
        have S2 := Lib.hid (HS.out.grown gr2 HZ.out (fun k hk => (HO.out.lt k hk).1))
        clear own2 gr2
        go_wp2_with fail
        go_ret2
        rw [E.out, HK.out.1, HK.out.2]
        exact ⟨⟨_, rfl, by simpa using H2.out⟩, S2.out⟩

theorem own_lower0 {w : World} {base base' n : Nat} {v : Value} {xs : List Value} (h : w.ownsRow base 5 1 v n xs) (hb : base' ≤ base) : w.ownsRow base' 5 1 v n xs := by
  refine ⟨h.1, ?_⟩
  rcases h.2 with h0 | ⟨g, c, cur, h1, h2, h3⟩
  · exact .inl h0
  · exact .inr ⟨g, c, cur, h1, Nat.le_trans hb h2, h3⟩
theorem own_lit1 (w : World) (base : Nat) (b : UInt8) (e : Int) (he : e = (b.toNat : Int)) (hb : base ≤ w.heap.size) : (w.alloc (.cells #[.int .u8 e] 5)).ownsRow base 5 1 (.slice (some ⟨w.heap.size, 0, none⟩) 1 1) [b].length (bytesV [b]) := by
  subst he
  exact World.ownsRow_lit w #[.int .u8 (b.toNat : Int)] 1 hb (by unfold maxLen; omega) rfl

theorem reads_lit2 (w : World) (b1 b2 : UInt8) (e1 e2 : Int) (h1 : e1 = (b1.toNat : Int)) (h2 : e2 = (b2.toNat : Int)) : Reads (w.alloc (.cells #[.int .u8 e1, .int .u8 e2] 5)) (w.heap.size + 1) (some ⟨w.heap.size, 0, none⟩) 2 [b1, b2] := by
  subst h1
  subst h2
  exact const_reads w [b1, b2] (0, 0)

set_option maxRecDepth 100000 in
set_option maxHeartbeats 1600000 in
/-- The last sequence. -/
theorem rsequence_last (A : Option Addr) (n c : Nat) (t : List UInt8) (w : World) (B d : Nat) (hr : Reads w B A n t) (hB : B ≤ w.heap.size) (hA : A = none → n = 0 ∧ c = 0) (hn : n ≤ 65536) :
    Calls Try.prog 33 #[.slice A n c, .int .i64 d, .int .i64 0] w fun e w' => (∃ v, e = .returned v ∧ w'.ownsRow w.heap.size 5 1 v (litB t 0).length (bytesV (litB t 0))) ∧ Still w w' := by
  have hlen := hr.1
  have LN := Lib.hid (rlength_any n w (by omega))
  have RR := Lib.hid (fun W (s : Still w W) => hr.still hB s)
  have HA := Lib.hid hA
  have hx : min n 15 ≤ 15 := Nat.min_le_right _ _
  have HTK := Lib.hid (show ((min n 15 : Nat) : Int) * 16 = ((tokL n 0).toNat : Int) by rw [tokL_nat]; simp)
  have HEL := Lib.hid (show (extL n).length ≤ 300 by rw [extL_length]; omega)
  obtain ⟨x, hxx⟩ : ∃ x, x = min n 15 := ⟨_, rfl⟩
  rw [← hxx] at LN hx HTK
  clear hr hA hB hxx
  go_enter Try.func33, Try.ntmps33
  go_wp2_with fail
  refine LN.out.mono ?_
  rintro e w1 ⟨⟨v1, rfl, own1⟩, s1⟩
  obtain ⟨A1, c1, rfl, f1, f2, f3⟩ := own_form own1
  obtain ⟨le, hle⟩ : ∃ le, le = (extL n).length := ⟨_, rfl⟩
  rw [← hle] at own1 HEL f1 f3 ⊢
  have RE := Lib.hid (fun W (s : Still w1 W) => (Reads.of_own own1).still (Nat.le_refl _) s)
  have S1 := Lib.hid s1
  have F3 := Lib.hid f3
  have LE := Lib.hid hle
  clear own1 s1 f1 f2 f3 LN hle
  obtain ⟨w2, hw2⟩ : ∃ w2, w2 = w1.alloc (.cells #[] 5) := ⟨_, rfl⟩
  have S12 := Lib.hid (show Still w1 w2 by rw [hw2]; exact (Still.refl w1).alloc (Nat.le_refl _) _)
  have HW2 := Lib.hid hw2
  have S2 := Lib.hid (Still.trans S1.out S12.out)
  clear hw2
  go_upto_region 3 with fail
  rw [← HW2.out]
  clear HW2
  obtain ⟨wz, hwz⟩ : ∃ wz, wz = w2 := ⟨_, rfl⟩
  rw [← hwz]
  have SZ := Lib.hid (show Still w1 wz by rw [hwz]; exact S12.out)
  clear hwz
  have CB := Lib.hid (show w.heap.size ≤ wz.heap.size from Nat.le_trans S1.out.size SZ.out.size)
  go_wp2_with (at_builtin; go_must (refine wpList_addsG _ rfl _ _ rfl w.heap.size _ [tokL n 0] rfl (own_lit1 wz w.heap.size (tokL n 0) _ ?c0 CB.out) A1 le c1 _ (extL n) rfl (RE.out _ (Below.alloc SZ.out SZ.out.size _)) (fun e => (F3.out e).2) ?c1 ?c2 ?_))
  case c0 => exact HTK.out
  case c1 => have := HEL.out; simp; omega
  case c2 => have := CB.out; simp; omega
  intro v3 w3 g3
  have S3 := Lib.hid (show Still w w3 from Below.trans ((Still.trans S1.out SZ.out).alloc CB.out _) (g3.low (lo := w.heap.size) (fun k e => by cases e; exact CB.out) (by have := CB.out; simp; omega)))
  have SZ3 := Lib.hid (show Still wz w3 from Below.trans ((Still.refl wz).alloc (Nat.le_refl _) _) (g3.low (lo := wz.heap.size) (fun k e => by cases e; exact Nat.le_refl _) (by simp)))
  have O3 := Lib.hid g3.own
  clear g3
  go_wp2_with (at_builtin; go_must (refine wpList_addsG w3 rfl _ _ rfl w.heap.size v3 _ rfl O3.out A n c _ t rfl (RR.out _ S3.out) (fun e => (HA.out e).2) ?c1 ?c2 ?_))
  case c1 => have := HEL.out; have := LE.out; simp; omega
  case c2 => exact S3.out.size
  intro v4 w4 g4
  have S4 := Lib.hid (show Still w w4 from S3.out.grown g4.gr S3.out.size (fun k hk => (O3.out.lt k hk).1))
  have O4 := Lib.hid g4.own
  clear g4 O3
  go_wp2_with fail
  go_ret
  refine ⟨⟨v4, rfl, ?_⟩, S4.out⟩
  have h := O4.out
  unfold litB
  rw [hlen]
  simpa using h

set_option maxRecDepth 100000 in
set_option maxHeartbeats 1600000 in
/-- A sequence that is not the last. -/
theorem rsequence_any (A : Option Addr) (n c : Nat) (t : List UInt8) (w : World) (B d m : Nat) (hr : Reads w B A n t) (hB : B ≤ w.heap.size) (hA : A = none → n = 0 ∧ c = 0) (hn : n ≤ 65536) (hm : m ≤ 65536) (hd : d ≤ 65535) :
    Calls Try.prog 33 #[.slice A n c, .int .i64 d, .int .i64 (m + 4 : Nat)] w fun e w' => (∃ v, e = .returned v ∧ w'.ownsRow w.heap.size 5 1 v (seqB t d (m + 4)).length (bytesV (seqB t d (m + 4)))) ∧ Still w w' := by
  have hlen := hr.1
  have LN := Lib.hid (rlength_any n w (by omega))
  have RR := Lib.hid (fun W (s : Still w W) => hr.still hB s)
  have HA := Lib.hid hA
  have hx : min n 15 ≤ 15 := Nat.min_le_right _ _
  have hy : min m 15 ≤ 15 := Nat.min_le_right _ _
  have HTK := Lib.hid (show (((min n 15 : Nat) : Int) * 16 + ((min m 15 : Nat) : Int)) = ((tokL n m).toNat : Int) by rw [tokL_nat]; omega)
  have HD1 := Lib.hid (show (d : Int) % 256 = (((UInt8.ofNat d).toNat : Nat) : Int) by rw [UInt8.toNat_ofNat']; omega)
  have HD2 := Lib.hid (show (d : Int) / 256 = (((UInt8.ofNat (d / 256)).toNat : Nat) : Int) by rw [UInt8.toNat_ofNat']; omega)
  have HEL := Lib.hid (show (extL n).length ≤ 300 by rw [extL_length]; omega)
  obtain ⟨x, hxx⟩ : ∃ x, x = min n 15 := ⟨_, rfl⟩
  rw [← hxx] at LN hx HTK
  obtain ⟨y, hyy⟩ : ∃ y, y = min m 15 := ⟨_, rfl⟩
  rw [← hyy] at hy HTK
  have HYY := Lib.hid hyy
  have HEM := Lib.hid (show (extL m).length ≤ 300 by rw [extL_length]; omega)
  clear hyy
  clear hr hA hB hxx
  go_enter Try.func33, Try.ntmps33
  go_wp2_with fail
  refine LN.out.mono ?_
  rintro e w1 ⟨⟨v1, rfl, own1⟩, s1⟩
  obtain ⟨A1, c1, rfl, f1, f2, f3⟩ := own_form own1
  obtain ⟨le, hle⟩ : ∃ le, le = (extL n).length := ⟨_, rfl⟩
  rw [← hle] at own1 HEL f1 f3 ⊢
  have RE := Lib.hid (fun W (s : Still w1 W) => (Reads.of_own own1).still (Nat.le_refl _) s)
  have S1 := Lib.hid s1
  have F3 := Lib.hid f3
  have LE := Lib.hid hle
  clear own1 s1 f1 f2 f3 LN hle
  obtain ⟨w2, hw2⟩ : ∃ w2, w2 = w1.alloc (.cells #[] 5) := ⟨_, rfl⟩
  have S12 := Lib.hid (show Still w1 w2 by rw [hw2]; exact (Still.refl w1).alloc (Nat.le_refl _) _)
  have HW2 := Lib.hid hw2
  have S2 := Lib.hid (Still.trans S1.out S12.out)
  clear hw2
  go_upto_region 3 with fail
  rw [← HW2.out]
  clear HW2
  have LM := Lib.hid (rlength_any m w2 (by omega))
  rw [← HYY.out] at LM
  have HYY2 := HYY
  clear HYY
  go_wp2_with fail
  refine LM.out.mono ?_
  rintro e wz ⟨⟨v2, rfl, own2⟩, s2⟩
  obtain ⟨A2, c2, rfl, f1, f2, f3⟩ := own_form own2
  obtain ⟨lm, hlm⟩ : ∃ lm, lm = (extL m).length := ⟨_, rfl⟩
  rw [← hlm] at own2 HEM f1 f3 ⊢
  have RM := Lib.hid (fun W (s : Still wz W) => (Reads.of_own own2).still (Nat.le_refl _) s)
  have SZ := Lib.hid (show Still w1 wz from Still.trans S12.out s2)
  have F32 := Lib.hid f3
  have LMM := Lib.hid hlm
  clear own2 s2 f1 f2 f3 LM hlm
  have CB := Lib.hid (show w.heap.size ≤ wz.heap.size from Nat.le_trans S1.out.size SZ.out.size)
  go_wp2_with (at_builtin; go_must (refine wpList_addsG _ rfl _ _ rfl wz.heap.size _ [tokL n m] rfl (own_lit1 wz wz.heap.size (tokL n m) _ ?c0 (Nat.le_refl _)) A1 le c1 _ (extL n) rfl (RE.out _ (Below.alloc SZ.out SZ.out.size _)) (fun e => (F3.out e).2) ?c1 ?c2 ?_))
  case c0 => exact HTK.out
  case c1 => have := HEL.out; simp; omega
  case c2 => simp
  intro v3 w3 g3
  have S3 := Lib.hid (show Still w w3 from Below.trans ((Still.trans S1.out SZ.out).alloc CB.out _) (g3.low (lo := w.heap.size) (fun k e => by cases e; exact CB.out) (by have := CB.out; simp; omega)))
  have SZ3 := Lib.hid (show Still wz w3 from Below.trans ((Still.refl wz).alloc (Nat.le_refl _) _) (g3.low (lo := wz.heap.size) (fun k e => by cases e; exact Nat.le_refl _) (by simp)))
  have O3 := Lib.hid g3.own
  clear g3
  go_wp2_with (at_builtin; go_must (refine wpList_addsG w3 rfl _ _ rfl wz.heap.size v3 _ rfl O3.out A n c _ t rfl (RR.out _ S3.out) (fun e => (HA.out e).2) ?c1 ?c2 ?_))
  case c1 => have := HEL.out; have := LE.out; simp; omega
  case c2 => exact SZ3.out.size
  intro v4 w4 g4
  have SZ4 := Lib.hid (show Still wz w4 from SZ3.out.grown g4.gr SZ3.out.size (fun k hk => (O3.out.lt k hk).1))
  have O4 := Lib.hid g4.own
  clear g4 O3
  go_wp2_with (at_builtin; go_must (refine wpList_addsG _ rfl _ _ rfl wz.heap.size v4 _ rfl (O4.out.alloc _) _ 2 2 _ _ rfl (reads_lit2 w4 (UInt8.ofNat d) (UInt8.ofNat (d / 256)) _ _ HD1.out HD2.out) (fun e => by cases e) ?c1 ?c2 ?_))
  case c1 => have := HEL.out; have := LE.out; simp; omega
  case c2 => have := SZ4.out.size; simp; omega
  intro v5 w5 g5
  have SZ5 := Lib.hid (show Still wz w5 from (SZ4.out.alloc SZ4.out.size _).grown g5.gr (by have := SZ4.out.size; simp; omega) (fun k hk => (O4.out.lt k hk).1))
  have O5 := Lib.hid g5.own
  clear g5 O4
  go_wp2_with (at_builtin; go_must (refine wpList_addsG w5 rfl _ _ rfl wz.heap.size v5 _ rfl O5.out A2 lm c2 _ (extL m) rfl (RM.out _ SZ5.out) (fun e => (F32.out e).2) ?c1 ?c2 ?_))
  case c1 => have := HEL.out; have := LE.out; have := HEM.out; simp; omega
  case c2 => exact SZ5.out.size
  intro v6 w6 g6
  have SZ6 := Lib.hid (show Still wz w6 from SZ5.out.grown g6.gr SZ5.out.size (fun k hk => (O5.out.lt k hk).1))
  have O6 := Lib.hid g6.own
  clear g6 O5
  go_wp2_with fail
  go_ret
  refine ⟨⟨v6, rfl, ?_⟩, Still.trans S1.out (Still.trans SZ.out SZ6.out)⟩
  have h := own_lower0 O6.out CB.out
  unfold seqB litB
  rw [hlen, Nat.add_sub_cancel]
  simpa using h
end Go.Proofs.Ytcbolakhdndffaa
