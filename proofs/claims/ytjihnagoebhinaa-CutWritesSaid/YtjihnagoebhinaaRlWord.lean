/- Contracts: a byte's word, by the program and by the document's own answer; a sum that goes on. It proves no statement. -/
import Derived.Test.YtjihnagoebhinaaRlMath
import Derived.Test.YtjihnagoebhinaaTurn32
namespace Go.Proofs.Ytjihnagoebhinaa
open Go.RowKit
set_option linter.unusedVariables false
set_option linter.unusedSimpArgs false

theorem mix_cast (x k : Nat) (h : x < 4294967296) : bits BinOp.xor IntKind.u32 (x : Int) ((x : Int) / (k : Int)) = ((x ^^^ x / k : Nat) : Int) := by
  have e : ((x : Int) / (k : Int)) = ((x / k : Nat) : Int) := by simp
  rw [e, u32_xor_nat _ _ h (Nat.lt_of_le_of_lt (Nat.div_le_self _ _) h)]
theorem mix_cast64 (x k : Nat) (h : x < 4294967296) : bits BinOp.xor IntKind.u64 (x : Int) ((x : Int) / (k : Int)) = ((x ^^^ x / k : Nat) : Int) := by
  have e : ((x : Int) / (k : Int)) = ((x / k : Nat) : Int) := by simp
  rw [e, u64_xor_nat _ _ (by omega) (Nat.lt_of_le_of_lt (Nat.div_le_self _ _) (by omega))]
set_option maxRecDepth 100000 in
theorem word_any (seed c : Nat) (w : World) (hs : seed < 4294967296) (hc : c < 256) :
    Calls Try.prog 39 #[.int .u32 seed, .int .u8 c] w fun e w' => e = .returned (.int .u32 (wd seed c : Nat)) ∧ w = w' := by
  go_enter Try.func39, Try.ntmps39
  go_wp2_with fail
  go_ret
  refine ⟨congrArg (fun z : Int => Ending.returned (.int .u32 z)) ?_, rfl⟩
  have l1 := wa_lt seed c
  have l2 := wb_lt (wa seed c)
  have l3 := wc_lt (wb (wa seed c))
  have e1 : ((seed : Int) + ((c : Int) + 1) * 2654435769) % 4294967296 = ((wa seed c : Nat) : Int) := by simp [wa]
  have e2 : bits BinOp.xor IntKind.u32 ((wa seed c : Nat) : Int) ((wa seed c : Nat) / 65536) * 2246822507 % 4294967296 = ((wb (wa seed c) : Nat) : Int) := by
    have := mix_cast (wa seed c) 65536 l1
    simp only [Int.cast_ofNat_Int] at this
    rw [this]
    unfold wb
    generalize wa seed c ^^^ wa seed c / 65536 = y
    simp
  have e3 : bits BinOp.xor IntKind.u32 ((wb (wa seed c) : Nat) : Int) ((wb (wa seed c) : Nat) / 8192) * 3266489909 % 4294967296 = ((wc (wb (wa seed c)) : Nat) : Int) := by
    have := mix_cast (wb (wa seed c)) 8192 l2
    simp only [Int.cast_ofNat_Int] at this
    rw [this]
    unfold wc
    generalize wb (wa seed c) ^^^ wb (wa seed c) / 8192 = y
    simp
  have e4 := mix_cast (wc (wb (wa seed c))) 65536 l3
  simp only [Int.cast_ofNat_Int] at e4
  show bits BinOp.xor IntKind.u32
                        (bits BinOp.xor IntKind.u32
                              (bits BinOp.xor IntKind.u32 (((seed : Int) + ((c : Int) + 1) * 2654435769) % 4294967296)
                                    (((seed : Int) + ((c : Int) + 1) * 2654435769) % 4294967296 / 65536) *
                                  2246822507 %
                                4294967296)
                              (bits BinOp.xor IntKind.u32 (((seed : Int) + ((c : Int) + 1) * 2654435769) % 4294967296)
                                      (((seed : Int) + ((c : Int) + 1) * 2654435769) % 4294967296 / 65536) *
                                    2246822507 %
                                  4294967296 /
                                8192) *
                            3266489909 %
                          4294967296)
                        (bits BinOp.xor IntKind.u32
                              (bits BinOp.xor IntKind.u32 (((seed : Int) + ((c : Int) + 1) * 2654435769) % 4294967296)
                                    (((seed : Int) + ((c : Int) + 1) * 2654435769) % 4294967296 / 65536) *
                                  2246822507 %
                                4294967296)
                              (bits BinOp.xor IntKind.u32 (((seed : Int) + ((c : Int) + 1) * 2654435769) % 4294967296)
                                      (((seed : Int) + ((c : Int) + 1) * 2654435769) % 4294967296 / 65536) *
                                    2246822507 %
                                  4294967296 /
                                8192) *
                            3266489909 %
                          4294967296 / 65536) = _
  rw [e1, e2, e3, e4]
  rfl
set_option maxRecDepth 100000 in
theorem rword_any (seed c : Nat) (w : World) (hs : seed < 4294967296) (hc : c < 256) :
    Calls Try.prog 44 #[.int .u32 seed, .int .u8 c] w fun e w' => e = .returned (.int .u32 (wd seed c : Nat)) ∧ w = w' := by
  have l1 := wa_lt seed c
  have l2 := wb_lt (wa seed c)
  have l3 := wc_lt (wb (wa seed c))
  have l4 := wd_lt seed c
  have e1 : ((seed : Int) + ((c : Int) + 1) * 2654435769) % 4294967296 = ((wa seed c : Nat) : Int) := by simp [wa]
  have e4 : wd seed c = wc (wb (wa seed c)) ^^^ wc (wb (wa seed c)) / 65536 := rfl
  have e3 : wc (wb (wa seed c)) = (wb (wa seed c) ^^^ wb (wa seed c) / 8192) * 3266489909 % 4294967296 := rfl
  have e2 : wb (wa seed c) = (wa seed c ^^^ wa seed c / 65536) * 2246822507 % 4294967296 := rfl
  generalize wd seed c = x4 at *
  generalize wc (wb (wa seed c)) = x3 at *
  generalize wb (wa seed c) = x2 at *
  generalize wa seed c = x1 at *
  have q1 := mix_cast64 x1 65536 l1
  have q2 := mix_cast64 x2 8192 l2
  have q3 := mix_cast64 x3 65536 l3
  have m1 := mix_lt x1 65536 l1
  have m2 := mix_lt x2 8192 l2
  rw [← e4] at q3
  generalize x1 ^^^ x1 / 65536 = y1 at *
  generalize x2 ^^^ x2 / 8192 = y2 at *
  simp only [Int.cast_ofNat_Int] at q1 q2 q3
  have t1 : ((y1 : Int) * 2246822507).tmod 4294967296 = (x2 : Int) := by
    rw [e2, Int.tmod_eq_emod_of_nonneg (by omega)]; simp
  have t2 : ((y2 : Int) * 3266489909).tmod 4294967296 = (x3 : Int) := by
    rw [e3, Int.tmod_eq_emod_of_nonneg (by omega)]; simp
  have w1 : IntKind.u64.wrap ((y1 : Int) * 2246822507) = (y1 : Int) * 2246822507 := by rw [IntKind.wrap_u64]; omega
  have w2 : IntKind.u64.wrap ((y2 : Int) * 3266489909) = (y2 : Int) * 3266489909 := by rw [IntKind.wrap_u64]; omega
  have v1 : (x2 : Int).tdiv 8192 = (x2 : Int) / 8192 := by rw [Int.tdiv_eq_ediv_of_nonneg (by omega)]
  have v2 : (x3 : Int).tdiv 65536 = (x3 : Int) / 65536 := by rw [Int.tdiv_eq_ediv_of_nonneg (by omega)]
  have v3 : IntKind.u64.wrap ((x2 : Int) / 8192) = (x2 : Int) / 8192 := by rw [IntKind.wrap_u64]; omega
  have v4 : IntKind.u64.wrap ((x3 : Int) / 65536) = (x3 : Int) / 65536 := by rw [IntKind.wrap_u64]; omega
  have u1 : (x4 : Int) % 4294967296 = (x4 : Int) := by omega
  clear e2 e3 e4 m1 m2
  go_enter Try.func44, Try.ntmps44
  go_wp2_with fail
  go_ret
  exact ⟨rfl, rfl⟩
theorem behind_any (s x : Nat) (w : World) (hs : s < 4294967296) (hx : x < 4294967296) :
    Calls Try.prog 41 #[.int .u32 s, .int .u32 x] w fun e w' => e = .returned (.int .u32 (go1 s x : Nat)) ∧ w = w' := by
  have h := turn32_any s 1 w hs
  have e1 : ((1 : Int) % 32).toNat = 1 := by decide
  rw [e1] at h
  have e2 := u32_xor_nat (rotl 32 s 1) x (rotl_lt 32 s 1 hs) hx
  have e3 : go1 s x = rotl 32 s 1 ^^^ x := rfl
  rw [← e3] at e2
  clear e3
  generalize go1 s x = r at e2 ⊢
  generalize rotl 32 s 1 = z at h e2
  have H := Lib.hid h
  clear h e1
  go_enter Try.func41, Try.ntmps41
  go_wp2_with fail
  refine H.out.mono ?_
  rintro e w1 ⟨rfl, rfl⟩
  go_wp2_with fail
  go_ret
  exact ⟨rfl, rfl⟩
end Go.Proofs.Ytjihnagoebhinaa
