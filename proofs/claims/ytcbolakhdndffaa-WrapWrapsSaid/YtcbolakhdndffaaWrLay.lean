/- Contracts: the program's lay, shorter and Wrap. It proves no statement. -/
import Derived.Test.YtcbolakhdndffaaWrMath
import Derived.Test.YtcbolakhdndffaaLzSq
import Derived.Test.YtcbolakhdndffaaLzSqM
import Derived.Test.YtcbolakhdndffaaLzRow
import Derived.Test.YtcbolakhdndffaaRowS
namespace Go.Proofs.Ytcbolakhdndffaa
open Go.RowKit
set_option linter.unusedVariables false
set_option linter.unusedSimpArgs false

theorem sqE_ok {b : List UInt8} (h : b.length ≤ 65536) : sqE b = 0 ∧ sqB b = sqz b := by
  unfold sqE sqB
  rw [if_pos h, if_pos h]
  exact ⟨rfl, rfl⟩
set_option maxRecDepth 100000 in
set_option maxHeartbeats 800000 in
theorem wlay_any (k n : Nat) (A : Option Addr) (m c : Nat) (r : List UInt8) (w : World) (B : Nat) (hr : Reads w B A m r) (hB : B ≤ w.heap.size) (hA : A = none → c = 0) (hk : k ≤ 1) (hn : n ≤ 16379) (hm : m ≤ 1048576) :
    Calls Try.prog 20 #[.int .i64 k, .int .i64 n, .slice A m c] w fun e w' => (∃ v, e = .returned v ∧ w'.ownsRow w.heap.size 5 1 v (layB k n r).length (bytesV (layB k n r))) ∧ Still w w' := by
  have HL := Lib.hid hr.1
  have RR := Lib.hid (fun W (s : Below w.heap.size w W) => hr.below (s.mono hB))
  have HA := Lib.hid hA
  have P1 := Lib.hid (put_yes k 1 w (by omega) (by omega) (by omega))
  have P2 := Lib.hid (fun W => put_yes n 4 W (by omega) (by omega) (by omega))
  have hk8 : (k : Int) ≤ 1 := by omega
  have hn8 : (n : Int) ≤ 16379 := by omega
  have HM := Lib.hid hm
  clear hr hB hA hk hn hm
  go_enter Try.func20, Try.ntmps20
  go_wp2_with fail
  refine P1.out.mono ?_
  rintro e w1 ⟨rfl, own1, s1⟩
  have G1 := Lib.hid (Grew.refl (w := w1) (base := w.heap.size) (v := .slice (some ⟨w.heap.size, 0, none⟩) 1 1) (l := leBytes k 1) (by rw [leBytes_length]; exact own1))
  have S1 := Lib.hid s1
  clear own1 s1 P1
  go_wp2_with fail
  refine (P2.out w1).mono ?_
  rintro e w2 ⟨rfl, own2, s2⟩
  have R2 := Lib.hid (Reads.of_own own2)
  have OW2 := Lib.hid (own_still G1.out.own s2)
  have S2 := Lib.hid s2
  clear own2 s2 P2
  go_wp2_with (at_builtin; go_must (refine wpList_addsG w2 rfl _ _ rfl w.heap.size (.slice (some ⟨w.heap.size, 0, none⟩) 1 1) (leBytes k 1) rfl OW2.out _ 4 4 _ (leBytes n 4) rfl R2.out (fun e => by cases e) ?c1 ?c2 ?_))
  case c1 => simp [leBytes_length]
  case c2 => exact (Still.trans S1.out S2.out).size
  intro v3 w3 g3
  have G3 := Lib.hid (G1.out.trans (Grew.still S2.out g3))
  have S3 := Lib.hid (Below.trans (Still.trans S1.out S2.out) (g3.low (lo := w.heap.size) (fun k e => by have := OW2.out.lt k e; omega) (Still.trans S1.out S2.out).size))
  clear g3 R2 OW2 S2
  go_wp2_with (at_builtin; go_must (refine wpList_addsG w3 rfl _ _ rfl w.heap.size v3 (leBytes k 1 ++ leBytes n 4) rfl G3.out.own A m c B r rfl (RR.out _ S3.out) (fun e => HA.out e) ?c1 ?c2 ?_))
  case c1 => have := HM.out; simp [leBytes_length]; omega
  case c2 => exact S3.out.size
  intro v4 w4 g4
  have S4 := Lib.hid (Below.trans S3.out (g4.low (lo := w.heap.size) (fun k e => by have := G3.out.own.lt k e; omega) S3.out.size))
  have G4 := Lib.hid g4.own
  clear g4
  go_wp2_with fail
  go_ret
  have h : w4.ownsRow w.heap.size 5 1 v4 (layB k n r).length (bytesV (layB k n r)) := by
    have h := G4.out
    unfold layB
    simpa only [List.append_assoc] using h
  exact ⟨⟨_, rfl, h⟩, S4.out⟩
def shB (b : List UInt8) : List UInt8 := if (sqz b).length < b.length then sqz b else []
set_option maxRecDepth 100000 in
set_option maxHeartbeats 800000 in
theorem shorter_any (A : Option Addr) (n c : Nat) (b : List UInt8) (w : World) (B : Nat) (h : RowS w B A n c b) (hB : B ≤ w.heap.size) (hn : n ≤ 65536) :
    Calls Try.prog 19 #[.slice A n c] w fun e w' => (∃ v, e = .returned (.tuple #[v, .bool (decide ((sqz b).length < b.length))]) ∧ w'.ownsRow w.heap.size 5 1 v (shB b).length (bytesV (shB b))) ∧ Still w w' := by
  have hl := h.reads.1
  obtain ⟨e1, e2⟩ := sqE_ok (b := b) (by omega)
  have SQ := Lib.hid (squeeze_any A n c b w B h.reads hB (by omega) h.fit h.cap h.nil)
  rw [e1, e2] at SQ
  obtain ⟨Z, hZ⟩ : ∃ Z, Z = sqz b := ⟨_, rfl⟩
  have HS := Lib.hid (show shB b = if Z.length < n then Z else [] by rw [hZ, ← hl]; rfl)
  rw [← hZ] at SQ ⊢
  rw [hl]
  have hzl : Z.length ≤ 70000 := by
    have := sqz_length b (by omega)
    rw [hZ]
    omega
  obtain ⟨L, hL⟩ : ∃ L, L = Z.length := ⟨_, rfl⟩
  rw [← hL] at SQ HS hzl ⊢
  have HLZ := Lib.hid hL
  clear e1 e2 hZ hL hl h
  by_cases hlt : L < n
  · have d1 : (L : Int) < (n : Int) := by omega
    rw [decide_eq_true hlt]
    rw [if_pos hlt] at HS
    go_enter Try.func19, Try.ntmps19
    go_wp2_with fail
    refine SQ.out.mono ?_
    rintro e w2 ⟨⟨v, rfl, own⟩, s2⟩
    obtain ⟨A1, c1, rfl, f1, f2, f3⟩ := own_form own
    have OW := Lib.hid own
    have S2 := Lib.hid s2
    clear own s2 SQ
    go_wp2_with fail
    go_ret2
    refine ⟨⟨_, rfl, ?_⟩, S2.out⟩
    rw [HS.out, ← HLZ.out]
    exact OW.out
  · have d1 : ¬ (L : Int) < (n : Int) := by omega
    rw [decide_eq_false hlt]
    rw [if_neg hlt] at HS
    go_enter Try.func19, Try.ntmps19
    go_wp2_with fail
    refine SQ.out.mono ?_
    rintro e w2 ⟨⟨v, rfl, own⟩, s2⟩
    obtain ⟨A1, c1, rfl, f1, f2, f3⟩ := own_form own
    have S2 := Lib.hid s2
    clear own s2 SQ
    go_wp2_with fail
    go_ret2
    refine ⟨⟨_, rfl, ?_⟩, S2.out⟩
    rw [HS.out]
    exact World.ownsRow_nil _ _ _ _
end Go.Proofs.Ytcbolakhdndffaa
