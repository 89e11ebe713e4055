/- Contracts: lives; so many times one byte; the document's Extended. It proves no statement. -/
import Derived.Test.YtlajdfjiehlboaaLzSq
import Derived.Test.YtlajdfjiehlboaaLzLoMath
import Derived.Test.YtlajdfjiehlboaaSameAny
import Derived.Test.YtlajdfjiehlboaaWithin
import Derived.Test.YtlajdfjiehlboaaRowS
import Derived.Lib.SlBytesConst
namespace Go.Proofs.Ytlajdfjiehlboaa
open Go.RowKit
set_option linter.unusedVariables false
set_option linter.unusedSimpArgs false

theorem sqB_abc : sqB [97, 98, 99] = [48, 97, 98, 99] := by rfl
theorem sqE_abc : sqE [97, 98, 99] = 0 := by rfl
set_option maxRecDepth 100000 in
set_option maxHeartbeats 800000 in
theorem lives_any (w : World) : Calls Try.prog 16 #[] w fun e w' => e = .returned (.bool true) ∧ Still w w' := by
  have SQ := Lib.hid (fun c (hc : 3 ≤ c) (hm : c ≤ 9223372036854775807) => squeeze_any (some ⟨w.heap.size, 0, none⟩) 3 c [97, 98, 99] (w.alloc (.cells (bytesV [97, 98, 99]).toArray 5 (3, 4))) (w.heap.size + 1) (const_reads w [97, 98, 99] (3, 4)) (by simp) (by omega) hc hm (fun e => by cases e))
  rw [sqB_abc, sqE_abc] at SQ
  have S1 := Lib.hid ((Still.refl w).alloc (Nat.le_refl _) (.cells (bytesV [97, 98, 99]).toArray 5 (3, 4)))
  obtain ⟨w1, hw1⟩ : ∃ w1, w1 = w.alloc (.cells (bytesV [97, 98, 99]).toArray 5 (3, 4)) := ⟨_, rfl⟩
  rw [← hw1] at SQ S1
  have HW := Lib.hid (show w.alloc (.cells #[.int .u8 97, .int .u8 98, .int .u8 99] 5 (3, 4)) = w1 by rw [hw1]; rfl)
  clear hw1
  have kc := fun (w : World) (C : Array Value) (n c : Nat) => Lib.run_convert_bytes_const (P := Try.prog) w 22 5 C n c Try.underlying22 Try.underlying5
  go_enter Try.func16, Try.ntmps16
  go_wp2_with fail
  clear kc
  rw [HW.out]
  refine (SQ.out _ (by omega) (by omega)).mono ?_
  rintro e w2 ⟨⟨v, rfl, own⟩, s2⟩
  have S2 := Lib.hid (Still.trans S1.out s2)
  obtain ⟨A, c, rfl, f1, f2, f3⟩ := own_form own
  have rd := Reads.of_own own
  obtain ⟨b, o, rfl, hb, hc⟩ := rd.at_ (by decide)
  have c0 : w2.cell? ⟨b, o, none⟩ = some (.int .u8 48) := hc 0 (by decide)
  have hl : ([48, 97, 98, 99] : List UInt8).length = 4 := rfl
  rw [hl]
  clear hc own s2 rd SQ f1 f2 f3 hb
  go_wp2_with fail
  go_ret
  exact ⟨rfl, S2.out⟩

set_option maxRecDepth 100000 in
set_option maxHeartbeats 800000 in
theorem run_any (k : UInt8) (n : Nat) (w : World) (hn : n ≤ 1048576) : Calls Try.prog 20 #[.int .u8 (k.toNat : Int), .int .i64 n] w fun e w' => (∃ v, e = .returned v ∧ w'.ownsRow w.heap.size 5 1 v n (bytesV (List.replicate n k))) ∧ Still w w' := by
  obtain ⟨y, hy⟩ : ∃ y : Int, y = (k.toNat : Int) := ⟨_, rfl⟩
  rw [← hy]
  have HY := Lib.hid hy
  clear hy
  go_enter Try.func20, Try.ntmps20
  go_wp2_with fail
  go_loopw [5, 6] (fun vx iv wr => ∃ (i : Nat) (lv : Value), lv = vx ∧ iv = .int .i64 i ∧ i ≤ n ∧ Hid (wr.ownsRow w.heap.size 5 1 lv i (bytesV (List.replicate i k)) ∧ Still w wr)) (fun _ iv _ => n - (intOf iv).toNat)
  case atStart => exact ⟨0, _, rfl, rfl, by omega, World.ownsRow_nil _ _ _ _, Still.refl _⟩
  case round =>
    obtain ⟨i, lv, hlv, rfl, hi, hh⟩ := hrel
    subst hlv
    by_cases hlt : i < n
    · have HS := Lib.hid hh.out.2
      have HO := Lib.hid hh.out.1
      have HN := Lib.hid (show w.heap.size ≤ wr.heap.size from hh.out.2.size)
      clear hh
      go_wp2_with (at_builtin; go_must (refine wpList_push wr rfl _ _ rfl w.heap.size lv i (List.replicate i k) rfl HO.out _ k rfl HY.out ?c1 ?c2 ?_))
      case c1 => omega
      case c2 => exact HN.out
      intro v2 w2 own2 gr2 _
      have H2 := Lib.hid (show w2.ownsRow w.heap.size 5 1 v2 (i + 1) (bytesV (List.replicate (i + 1) k)) by rw [List.replicate_succ']; exact own2)
      have S2 := Lib.hid (HS.out.grown gr2 HN.out (fun k hk => (HO.out.lt k hk).1))
      clear own2 gr2
      go_wp2_with fail
      go_roundw
      case rel => exact ⟨i + 1, _, rfl, by go_num, by omega, H2.out, S2.out⟩
      case measure => simp [intOf]; omega
    · obtain rfl : i = n := by omega
      go_wp2_with fail
      go_ret
      exact ⟨⟨_, rfl, hh.out.1⟩, hh.out.2⟩

set_option maxRecDepth 100000 in
set_option maxHeartbeats 1600000 in
theorem extended_any (A : Option Addr) (n c at_ m : Nat) (b : List UInt8) (w : World) (B : Nat) (hr : Reads w B A n b) (hn : n ≤ 1048576) (hat : at_ ≤ n) (hm : m ≤ 65536) :
    Calls Try.prog 21 #[.slice A n c, .int .i64 at_, .int .i64 m] w fun e w' => (∃ y z : Nat, ∃ ok : Bool, e = .returned (.tuple #[.int .i64 y, .int .i64 z, .bool ok]) ∧ ((ok = true ∧ z ≤ n ∧ numR m (b.drop at_) = some (y, b.drop z)) ∨ (ok = false ∧ numR m (b.drop at_) = none))) ∧ w' = w := by
  by_cases h15 : m < 15
  · have e : numR m (b.drop at_) = some (m, b.drop at_) := by unfold numR; rw [if_pos h15]
    have HE := Lib.hid e
    clear e hr
    go_enter Try.func21, Try.ntmps21
    go_wp2_with fail
    go_ret3
    exact ⟨⟨m, at_, true, rfl, .inl ⟨rfl, hat, HE.out⟩⟩, rfl⟩
  · have e : numR m (b.drop at_) = extR m (b.drop at_) := by unfold numR; rw [if_neg h15]
    have HE := Lib.hid e
    have HR := Lib.hid hr
    have HL := Lib.hid hr.1
    have d0 : ¬ ((m : Int) < 15) := by omega
    clear e hr h15
    go_enter Try.func21, Try.ntmps21
    go_wp2_with fail
    go_loopw [1, 2] (fun av nv wr => ∃ (a n1 : Nat), av = .int .i64 a ∧ nv = .int .i64 n1 ∧ a ≤ n ∧ n1 ≤ 1000000000 ∧ wr = w ∧ Hid (extR m (b.drop at_) = extR n1 (b.drop a) ∧ n1 + 255 * at_ = m + 255 * a)) (fun av _ _ => n - (intOf av).toNat)
    case atStart => exact ⟨at_, m, rfl, rfl, hat, by omega, rfl, rfl, rfl⟩
    case round =>
      obtain ⟨a, n1, rfl, rfl, ha, hn1, rfl, hh⟩ := hrel
      by_cases hlt : a < n
      · obtain ⟨bb, o, rfl, hb, hcells⟩ := HR.out.at_ (by omega)
        obtain ⟨k, hk⟩ : ∃ k, k = b.getD a 0 := ⟨_, rfl⟩
        have q1 := hcells a hlt
        rw [← hk] at q1
        have hdrop := getD_drop0 b a (by have := HL.out; omega)
        rw [← hk] at hdrop
        obtain ⟨y, hy⟩ : ∃ y, y = k.toNat := ⟨_, rfl⟩
        rw [← hy] at q1
        have hy8 : y < 256 := by rw [hy]; exact k.toNat_lt
        have hext : extR n1 (b.drop a) = if y = 255 then extR (n1 + 255) (b.drop (a + 1)) else some (n1 + y, b.drop (a + 1)) := by rw [hdrop, extR, ← hy]
        have HX := Lib.hid hext
        have HH := Lib.hid hh.out
        have i1 : IntKind.i64.wrap ((n1 : Int) + (y : Int)) = ((n1 + y : Nat) : Int) := by rw [IntKind.wrap_i64]; omega
        have d1 : (a : Int) + 1 - 1 = (a : Int) := by omega
        clear hcells hk hdrop hext hh hy hb
        by_cases hf : y = 255
        · have d2 : ¬ ((y : Int) < 255) := by omega
          go_wp2_with fail
          go_roundw
          case rel => exact ⟨a + 1, n1 + y, by go_num, by go_num, by omega, by have := HH.out.2; omega, by trivial, by rw [HH.out.1, HX.out, if_pos hf, hf], by have := HH.out.2; omega⟩
          case measure => simp [intOf]; omega
        · have d2 : (y : Int) < 255 := by omega
          go_wp2_with fail
          go_ret3
          exact ⟨⟨n1 + y, a + 1, true, by go_num, .inl ⟨by trivial, by omega, by rw [HE.out, HH.out.1, HX.out, if_neg hf]⟩⟩, rfl⟩
      · obtain rfl : a = n := by omega
        have hd : b.drop a = [] := List.drop_of_length_le (by have := HL.out; omega)
        have HH := Lib.hid hh.out.1
        have HD := Lib.hid hd
        clear hh hd
        go_wp2_with fail
        go_ret3
        exact ⟨⟨0, a, false, rfl, .inr ⟨by trivial, by rw [HE.out, HH.out, HD.out]; rfl⟩⟩, rfl⟩
end Go.Proofs.Ytlajdfjiehlboaa
