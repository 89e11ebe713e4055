/- Contract: the sum of a piece, out of a text's marks. It proves no statement. -/
import Derived.Test.YtnhkabohccbglaaDoorFrMsum
namespace Go.Proofs.YtnhkabohccbglaaDoor
open Go.RowKit
set_option linter.unusedVariables false
set_option linter.unusedSimpArgs false

set_option maxRecDepth 100000 in
set_option maxHeartbeats 3200000 in
theorem psum_any {w : World} {B b o n c gs cs : Nat} {l : List UInt8} (M : Marks w B b o n c gs cs l) (fr te : Nat) (hft : fr ≤ te) (hto : te ≤ n) :
    Calls Tryd.prog 42 #[.agg #[.slice (some ⟨b, o, none⟩) n c, .slice (some ⟨gs, 0, none⟩) (n / 64 + 1) cs], .int .i64 fr, .int .i64 te] w fun e w' => e = .returned (.int .u32 (crcSum ((l.take te).drop fr) : Nat)) ∧ Still w w' := by
  obtain ⟨K, hK⟩ : ∃ K, K = n / 64 + 1 := ⟨_, rfl⟩
  obtain ⟨wb, hwb⟩ : ∃ wb, wb = w.alloc (.cells #[.slice (some ⟨b, o, none⟩) n c, .slice (some ⟨gs, 0, none⟩) K cs] 77) := ⟨_, rfl⟩
  have SB := Lib.hid (show Still w wb by rw [hwb]; exact (Still.refl w).alloc (Nat.le_refl _) _)
  obtain ⟨g, hg⟩ : ∃ g, g = w.heap.size := ⟨_, rfl⟩
  have BB := Lib.hid (show Blk wb g 77 #[.slice (some ⟨b, o, none⟩) n c, .slice (some ⟨gs, 0, none⟩) K cs] by rw [hwb, hg]; exact Blk.new _ _ _)
  have FA := Lib.hid (fun W (s : Still w W) => front_any (M.still s) fr (by omega))
  have FB := Lib.hid (fun W (s : Still w W) => front_any (M.still s) te hto)
  obtain ⟨x, hx⟩ : ∃ x, x = crcSum (l.take fr) := ⟨_, rfl⟩
  obtain ⟨y, hy⟩ : ∃ y, y = crcSum (l.take te) := ⟨_, rfl⟩
  obtain ⟨z, hz⟩ : ∃ z, z = crcSum ((l.take te).drop fr) := ⟨_, rfl⟩
  obtain ⟨d, hd⟩ : ∃ d, d = te - fr := ⟨_, rfl⟩
  have hfit := M.fit
  have JN := Lib.hid (fun (W : World) => (show Calls Tryd.prog 50 #[.int .u32 x, .int .u32 y, .int .i64 (d : Int)] W fun e w' => e = .returned (.int .u32 (z : Int)) ∧ Still W w' by
    have h := crcjoin_any x y (d : Int) W (by rw [hx]; exact crcSum_lt _) (by rw [hy]; exact crcSum_lt _) (by omega)
    rw [Int.toNat_natCast, hd, hx, hy, crcSum_piece l fr te hft (by have := M.reads.1; omega), ← hz] at h
    rw [hd, hx, hy]
    exact h))
  rw [← hx, ← hK] at FA
  rw [← hy, ← hK] at FB
  rw [← hz, ← hK]
  have FF := Lib.hid (fun W (s : Still wb W) => (show W.rangeAt g 0 [.slice (some ⟨b, o, none⟩) n c, .slice (some ⟨gs, 0, none⟩) K cs] from fun j u hj => by
    rw [Nat.zero_add, (BB.out.still s).cell j, List.getElem?_toArray]
    exact hj))
  have i1 : IntKind.i64.wrap ((te : Int) - (fr : Int)) = (d : Int) := by rw [IntKind.wrap_i64]; omega
  have t9 : te ≤ 1048576 := by omega
  have f9 : fr ≤ 1048576 := by omega
  obtain ⟨fs, hu⟩ := underMk
  have HU := Lib.hid hu
  have HWB := Lib.hid (show w.alloc (.cells #[.slice (some ⟨b, o, none⟩) n c, .slice (some ⟨gs, 0, none⟩) K cs] 77) = wb from hwb.symm)
  have HG := Lib.hid hg
  clear M hK hwb hx hy hz hd hfit hft hto hg hu BB
  go_enter Tryd.func42, Tryd.ntmps42
  go_upto_region 1 with fail
  rw [HWB.out, ← HG.out]
  refine wp_region_held_drew (S := fun W => W.rangeAt g 0 [.slice (some ⟨b, o, none⟩) n c, .slice (some ⟨gs, 0, none⟩) K cs]) (by kernel_rfl) (FF.out _ ((Still.refl _).drew)) (fun hHeld => ?_)
  obtain ⟨wa, hwa⟩ : ∃ wa, wa = wb.drew := ⟨_, rfl⟩
  have SA := Lib.hid (show Still wb wa by rw [hwa]; exact (Still.refl _).drew)
  try rw [← hwa] at hHeld
  rw [← hwa]
  clear hwa
  try simp only [Act.put, List.setIfInBounds_toArray, List.set_cons_zero, List.set_cons_succ]
  refine wpAnyH_take (i := 0) (oi := ⟨some 7, .load 77 (.tmp 3), _, _, _, none⟩) (v := .agg #[.slice (some ⟨b, o, none⟩) n c, .slice (some ⟨gs, 0, none⟩) K cs]) rfl (by kernel_rfl) (by kernel_rfl) (by kernel_rfl) (fun _ _ _ h => h) ?hy0 (by assumption) ?_
  case hy0 =>
    refine yieldsIf_load_mid ?hw 77 (.tmp 3) ?ho g 0 ?hx [.slice (some ⟨b, o, none⟩) n c, .slice (some ⟨gs, 0, none⟩) K cs] _ (fun W h => h) HU.out rfl (by rw [sizeMk]; rfl)
    case hw => kernel_rfl
    case ho => rfl
    case hx => kernel_rfl
  try simp only [Act.put, List.setIfInBounds_toArray, List.set_cons_zero, List.set_cons_succ]
  refine wpAnyH_take (i := 1) (v := .int .i64 (fr : Int)) rfl (by kernel_rfl) (by kernel_rfl) (by kernel_rfl) (fun _ _ _ h => h) (Or.inl ⟨by kernel_rfl, fun W hS => by go_simp⟩) (by assumption) ?_
  try simp only [Act.put, List.setIfInBounds_toArray, List.set_cons_zero, List.set_cons_succ]
  refine wpAnyH_take (i := 3) (oi := ⟨some 10, .load 77 (.tmp 3), _, _, _, none⟩) (v := .agg #[.slice (some ⟨b, o, none⟩) n c, .slice (some ⟨gs, 0, none⟩) K cs]) rfl (by kernel_rfl) (by kernel_rfl) (by kernel_rfl) (fun _ _ _ h => h) ?hy3 (by assumption) ?_
  case hy3 =>
    refine yieldsIf_load_mid ?hw 77 (.tmp 3) ?ho g 0 ?hx [.slice (some ⟨b, o, none⟩) n c, .slice (some ⟨gs, 0, none⟩) K cs] _ (fun W h => h) HU.out rfl (by rw [sizeMk]; rfl)
    case hw => kernel_rfl
    case ho => rfl
    case hx => kernel_rfl
  try simp only [Act.put, List.setIfInBounds_toArray, List.set_cons_zero, List.set_cons_succ]
  refine wpAnyH_take (i := 4) (v := .int .i64 (te : Int)) rfl (by kernel_rfl) (by kernel_rfl) (by kernel_rfl) (fun _ _ _ h => h) (Or.inl ⟨by kernel_rfl, fun W hS => by go_simp⟩) (by assumption) ?_
  try simp only [Act.put, List.setIfInBounds_toArray, List.set_cons_zero, List.set_cons_succ]
  refine wpAnyH_take (i := 6) (v := .int .i64 (te : Int)) rfl (by kernel_rfl) (by kernel_rfl) (by kernel_rfl) (fun _ _ _ h => h) (Or.inl ⟨by kernel_rfl, fun W hS => by go_simp⟩) (by assumption) ?_
  try simp only [Act.put, List.setIfInBounds_toArray, List.set_cons_zero, List.set_cons_succ]
  refine wpAnyH_take (i := 7) (v := .int .i64 (fr : Int)) rfl (by kernel_rfl) (by kernel_rfl) (by kernel_rfl) (fun _ _ _ h => h) (Or.inl ⟨by kernel_rfl, fun W hS => by go_simp⟩) (by assumption) ?_
  try simp only [Act.put, List.setIfInBounds_toArray, List.set_cons_zero, List.set_cons_succ]
  refine wpAnyH_take (i := 8) (v := .int .i64 (d : Int)) rfl (by kernel_rfl) (by kernel_rfl) (by kernel_rfl) (fun _ _ _ h => h) (Or.inl ⟨by kernel_rfl, fun W hS => by go_simp⟩) (by assumption) ?_
  try simp only [Act.put, List.setIfInBounds_toArray, List.set_cons_zero, List.set_cons_succ]
  refine wpAnyH_ready (rs := [2]) (by kernel_rfl) (by simp) ?_
  refine AllReadyH.cons (o := ⟨some 9, .call { callee := .value (.func 51), args := #[.tmp 7, .tmp 8], argTypes := #[77, 3] }, _, _, _, none⟩) rfl (fun K' hK' => ?_) AllReadyH.nil
  have HK' := Lib.hid hK'
  clear hK'
  go_simp
  go_wp2_with (go_at_call 51; refine (FA.out _ (Still.trans SB.out SA.out)).mono ?_; rintro e w2 ⟨rfl, s2⟩; have Sw2 := Lib.hid (Still.trans SA.out s2); clear s2)
  refine HK'.out.out _ _ (FF.out _ Sw2.out) (fun hHeld => ?_)
  clear HK' K'
  try simp only [Act.put, List.setIfInBounds_toArray, List.set_cons_zero, List.set_cons_succ]
  refine wpAnyH_ready (rs := [5]) (by kernel_rfl) (by simp) ?_
  refine AllReadyH.cons (o := ⟨some 12, .call { callee := .value (.func 51), args := #[.tmp 10, .tmp 11], argTypes := #[77, 3] }, _, _, _, none⟩) rfl (fun K' hK' => ?_) AllReadyH.nil
  have HK' := Lib.hid hK'
  clear hK'
  go_simp
  go_wp2_with (go_at_call 51; refine (FB.out _ (Still.trans SB.out Sw2.out)).mono ?_; rintro e w3 ⟨rfl, s2⟩; have Sw3 := Lib.hid (Still.trans Sw2.out s2); clear s2)
  refine HK'.out.out _ _ (FF.out _ Sw3.out) (fun hHeld => ?_)
  clear HK' K'
  try simp only [Act.put, List.setIfInBounds_toArray, List.set_cons_zero, List.set_cons_succ]
  refine wpAnyH_ready (rs := [9]) (by kernel_rfl) (by simp) ?_
  refine AllReadyH.cons (o := ⟨some 16, .call { callee := .value (.func 50), args := #[.tmp 9, .tmp 12, .tmp 15], argTypes := #[57, 57, 3] }, _, _, _, none⟩) rfl (fun K' hK' => ?_) AllReadyH.nil
  have HK' := Lib.hid hK'
  clear hK'
  go_simp
  go_wp2_with (go_at_call 50; refine (JN.out _).mono ?_; rintro e w4 ⟨rfl, s2⟩; have Sw4 := Lib.hid (Still.trans Sw3.out s2); clear s2)
  refine HK'.out.out _ _ (FF.out _ Sw4.out) (fun hHeld => ?_)
  clear HK' K'
  try simp only [Act.put, List.setIfInBounds_toArray, List.set_cons_zero, List.set_cons_succ]
  refine wpAnyH_take (i := 10) (v := .int .u32 (z : Int)) rfl (by kernel_rfl) (by kernel_rfl) (by kernel_rfl) (fun _ _ _ h => h) (Or.inl ⟨by kernel_rfl, fun W hS => by go_simp⟩) (by assumption) ?_
  try simp only [Act.put, List.setIfInBounds_toArray, List.set_cons_zero, List.set_cons_succ]
  refine wpAnyH_done (by kernel_rfl) ?_ _
  have S9 := Lib.hid (Still.trans SB.out Sw4.out)
  clear FF SA Sw2 Sw3 Sw4 hHeld FA FB JN i1 t9 f9 HU
  go_simp
  go_wp2_with fail
  go_ret
  exact ⟨rfl, S9.out⟩
end Go.Proofs.YtnhkabohccbglaaDoor
