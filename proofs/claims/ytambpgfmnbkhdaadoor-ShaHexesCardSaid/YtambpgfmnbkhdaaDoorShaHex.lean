/- Contract: a sum in digits, by the program. It proves no statement. -/
import Derived.Test.YtambpgfmnbkhdaaDoorShaId
import Derived.Test.YtambpgfmnbkhdaaDoorConv
import Derived.Deep.RegionHeld3
import Derived.BigQuiet
import Derived.BigFrame
namespace Go.Proofs.YtambpgfmnbkhdaaDoor
open Go.RowKit
set_option linter.unusedVariables false
set_option linter.unusedSimpArgs false

/-- The sixteen digits. -/
def digitsB : ByteArray := ⟨#[48, 49, 50, 51, 52, 53, 54, 55, 56, 57, 97, 98, 99, 100, 101, 102]⟩
def dg (q : Nat) : UInt8 := digitsB.data.toList.getD q 0
/-- Bytes in digits. -/
def hexL : List UInt8 → List UInt8
  | [] => []
  | c :: r => dg (c.toNat / 16) :: dg (c.toNat % 16) :: hexL r
theorem hexL_snoc (l : List UInt8) (c : UInt8) : hexL (l ++ [c]) = hexL l ++ [dg (c.toNat / 16), dg (c.toNat % 16)] := by
  induction l with
  | nil => rfl
  | cons x r ih => simp [hexL, ih]
theorem hexL_length (l : List UInt8) : (hexL l).length = 2 * l.length := by
  induction l with
  | nil => rfl
  | cons x r ih => simp only [hexL, List.length_cons, ih]; omega
theorem index_digit (w : World) (q : Nat) (h : q < 16) : (Instr.index 9 (.string digitsB) (.int .u8 (q : Int))).run Tryd.prog w = .ok (.int .u8 ((dg q).toNat : Int)) w := by
  rw [run_index_string w 9 digitsB .u8 (q : Int) (by kernel_rfl), dif_pos ⟨by omega, by have : digitsB.size = 16 := rfl; omega⟩]
  congr 3
  obtain rfl | rfl | rfl | rfl | rfl | rfl | rfl | rfl | rfl | rfl | rfl | rfl | rfl | rfl | rfl | rfl : q = 0 ∨ q = 1 ∨ q = 2 ∨ q = 3 ∨ q = 4 ∨ q = 5 ∨ q = 6 ∨ q = 7 ∨ q = 8 ∨ q = 9 ∨ q = 10 ∨ q = 11 ∨ q = 12 ∨ q = 13 ∨ q = 14 ∨ q = 15 := by omega
  all_goals rfl
theorem hex_take (l : List UInt8) (k : Nat) (h : k < l.length) : hexL (l.take (k + 1)) = hexL (l.take k) ++ [dg ((l.getD k 0).toNat / 16), dg ((l.getD k 0).toNat % 16)] := by
  have e : l.take (k + 1) = l.take k ++ [l.getD k 0] := by
    rw [List.take_add_one]; simp [List.getD, h]
  rw [e, hexL_snoc]

set_option maxRecDepth 100000 in
set_option maxHeartbeats 800000 in
theorem hex_any (l : List UInt8) (w : World) (hl : l.length = 32) :
    Calls Tryd.prog 24 #[.agg (bytesV l).toArray] w fun e w' => e = .returned (.string ⟨(hexL l).toArray⟩) ∧ Still w w' := by
  obtain ⟨i0, hi, hz0, hz1, hz2⟩ := info_parts Tryd.infoByte
  obtain ⟨wA, hA⟩ : ∃ x, x = w.alloc (.cells (bytesV l).toArray 26) := ⟨_, rfl⟩
  have aA : Arr wA w.heap.size l := by rw [hA]; exact Arr.new _ _
  have sA : Still w wA := by rw [hA]; exact (Still.refl w).alloc (Nat.le_refl _) _
  have hls : (bytesV l).toArray.size = 32 := by simp [bytesV_length, hl]
  obtain ⟨arr, harr⟩ : ∃ a, a = (bytesV l).toArray := ⟨_, rfl⟩
  have ix : ∀ (k : Nat) (w : World), k < 32 → (Instr.index 26 (.agg arr) (.int .i64 (k : Int))).run Tryd.prog w = .ok (.int .u8 ((l.getD k 0).toNat : Int)) w := fun k w hk => by
    rw [harr]
    exact run_index_arr w _ _ 32 .u8 under32 (by kernel_rfl) (by kernel_rfl) _ (by rw [bytesV_length, hl]) k hk _ (bytesV_get _ _ (by omega))
  unfold Arr at aA
  rw [← harr] at aA hls hA ⊢
  have AA := Lib.hid aA
  have SA := Lib.hid sA
  have IX := Lib.hid ix
  have HL := Lib.hid hl
  clear aA sA ix harr
  go_enter Tryd.func24, Tryd.ntmps24
  go_upto_region 0 with fail
  refine wp_region_lit ?_
  refine wpList_box_arr rfl 26 (.tmp 0) rfl (some 1) rfl _ rfl ?_
  rw [← hA]
  clear hA
  go_upto_region 2 with (at_make; go_must (refine wpList_make_own _ rfl _ _ 22 rfl wA.heap.size 5 i0 (.int .u8 0) 1 Tryd.underlying22 hi hz0 hz1 _ _ _ 64 rfl rfl rfl ?c1 ?c2 ?c3 ?_))
  case c1 => rw [hz2]; omega
  case c2 => unfold maxLen; omega
  case c3 => exact Nat.le_refl _
  intro w1 own1 gr1
  have s1 : Still wA w1 := (Still.refl wA).grown gr1 (Nat.le_refl _) (by intro k hk; cases hk)
  have a1 : w1.heap[w.heap.size]? = some (.cells arr 26 (0, 0)) := (s1.block _ ((Array.getElem?_eq_some_iff.1 AA.out).1)).trans AA.out
  clear gr1
  go_upto_region 2 with fail
  refine wp_region_lit ?_
  refine wpList_load_row rfl 26 (.tmp 1) rfl w.heap.size rfl _ _ _ _ a1 under32 rfl (by rw [size32, hls]) ?_
  have S1 := Lib.hid (SA.out.trans s1)
  clear a1
  go_wp2_with fail
  go_loopw [3, 8] (fun v i wr => ∃ k : Nat, k ≤ 32 ∧ i = .int .i64 k ∧ wr.ownsRow wA.heap.size 5 1 v (2 * k) (bytesV (hexL (l.take k))) ∧ Still wA wr) (fun _ i _ => 32 - (intOf i).toNat)
  case atStart => exact ⟨0, by omega, rfl, own1, s1⟩
  case round =>
    obtain ⟨k, hk, rfl, own, st⟩ := hrel
    by_cases hlt : k < 32
    · have d1 : (k : Int) < 32 := by omega
      have ix := fun w => IX.out k w hlt
      have hnx := hex_take l k (by rw [HL.out]; exact hlt)
      have hc := (l.getD k 0).toNat_lt
      generalize (l.getD k 0).toNat = c at *
      have e1 : (c : Int) / 16 = ((c / 16 : Nat) : Int) := by omega
      have e2 : bits .and .u8 (c : Int) 15 = ((c % 16 : Nat) : Int) := by
        have := u8_and_nat c 15 hc (by omega)
        rw [nat_mask4] at this
        exact this
      have x1 : ∀ w : World, (Instr.index 9 (.string ⟨#[48, 49, 50, 51, 52, 53, 54, 55, 56, 57, 97, 98, 99, 100, 101, 102]⟩) (.int .u8 ((c / 16 : Nat) : Int))).run Tryd.prog w = .ok (.int .u8 ((dg (c / 16)).toNat : Int)) w := fun w => index_digit w (c / 16) (by omega)
      have x2 : ∀ w : World, (Instr.index 9 (.string ⟨#[48, 49, 50, 51, 52, 53, 54, 55, 56, 57, 97, 98, 99, 100, 101, 102]⟩) (.int .u8 ((c % 16 : Nat) : Int))).run Tryd.prog w = .ok (.int .u8 ((dg (c % 16)).toNat : Int)) w := fun w => index_digit w (c % 16) (by omega)
      generalize dg (c / 16) = y1 at *
      generalize dg (c % 16) = y2 at *
      have b1 : c / 16 < 16 := by omega
      have b2 : c % 16 < 16 := by omega
      generalize c / 16 = q1 at *
      generalize c % 16 = q2 at *
      have hsz := st.size
      have HN := Lib.hid hnx
      have OW := Lib.hid own
      have ST := Lib.hid st
      have HK := Lib.hid hlt
      have RD := Lib.hid (const_reads wr.drew [y1, y2] (0, 0))
      have OWD := Lib.hid (own.drew.alloc (.cells (bytesV [y1, y2]).toArray 5))
      have STD := Lib.hid (st.drew.alloc hsz (.cells (bytesV [y1, y2]).toArray 5))
      have hb : wA.heap.size ≤ (wr.drew.alloc (.cells (bytesV [y1, y2]).toArray 5)).heap.size := STD.out.size
      have HB := Lib.hid hb
      clear hnx own st hlt hc hb
      go_wp2_with fail
      go_region_held3 (fun _ => True) (trivial)
        ((refine step_adds _ (by rfl) (.tmp 11) (.tmp 18) (by rfl) wA.heap.size _ (2 * k) (hexL (l.take k)) (by rfl) OWD.out (some ⟨wr.heap.size, 0, none⟩) 2 2 (wr.heap.size + 1) [y1, y2] (by rfl) RD.out (fun e => by cases e) (by have := HK.out; omega) HB.out ?_; intro v' w3 own3 gr3 _; have st3 : Still wA w3 := STD.out.grown gr3 HB.out (fun j hj => (OW.out.lt j hj).1); clear gr3))
      go_wp2_with fail
      go_roundw
      case rel =>
        have hk := HK.out
        exact ⟨k + 1, by omega, by go_num, by rw [HN.out, show 2 * (k + 1) = 2 * k + 2 by omega]; exact own3, st3⟩
      case measure => simp [intOf]; have := HK.out; omega
      all_goals exact ⟨⟨k + 1, by have := HK.out; omega, by go_num, by rw [HN.out, show 2 * (k + 1) = 2 * k + 2 by omega]; exact own3, st3⟩, by simp [intOf]; have := HK.out; omega⟩
    · obtain rfl : k = 32 := by omega
      rw [show ((32 : Nat) : Int) = 32 from rfl]
      have hfull : l.take 32 = l := List.take_of_length_le (by rw [HL.out]; omega)
      rw [hfull] at own
      obtain ⟨A, c, rfl, f1, f2, f3⟩ := own_form own
      have kc := conv_reads (Reads.of_own own) c
      obtain ⟨q, hq⟩ : ∃ q, q = hexL l := ⟨_, rfl⟩
      rw [← hq] at kc
      have HQ := Lib.hid hq
      have ST := Lib.hid (SA.out.trans st)
      clear own st hq f1 f2 f3
      go_wp2_with fail
      go_ret
      exact ⟨congrArg (fun q : List UInt8 => Ending.returned (Value.string ⟨q.toArray⟩)) HQ.out, ST.out⟩
end Go.Proofs.YtambpgfmnbkhdaaDoor
