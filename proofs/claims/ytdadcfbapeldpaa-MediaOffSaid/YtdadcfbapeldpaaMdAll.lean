/- Contracts: All and Size of a file that is there. It proves no statement. -/
import Derived.Test.YtdadcfbapeldpaaMdGa
namespace Go.Proofs.Ytdadcfbapeldpaa
open Go.RowKit Go.Maps Go.WideMaps
set_option linter.unusedVariables false
set_option linter.unusedSimpArgs false

set_option maxRecDepth 100000 in
set_option maxHeartbeats 1600000 in
theorem all_ok {w : World} {g : Nat} {room : Int} {bn bf : Nat} {wv : Value} {left : Int} (h : MedB w g room bn bf wv left false) (s : ByteArray) (hs : s.size ≤ maxLen) (n : Nat) (D : DataW Unit) (hown : NM w bn n D) (gf nf base : Nat) (nv fv wtv : Value) (l : List UInt8) (hlk : look D s = (gf : Int)) (hf : FileB w gf nv fv wtv) (hnv : w.ownsRow base 5 1 nv nf (bytesV l)) (hn : nf ≤ 100000000) :
    Calls Try.prog 24 #[.pointer (some ⟨g, 0, none⟩), .string s] w fun e w' => (∃ v, e = .returned (.tuple #[v, .int .i64 0]) ∧ w'.ownsRow w.heap.size 5 1 v nf (bytesV l)) ∧ Still w w' := by
  obtain ⟨A, c, rfl, f1, f2, f3⟩ := own_form hnv
  have FD := Lib.hid (find_yes h s n D hown hs)
  rw [hlk, show findV false (gf : Int) = pv (gf : Int) from rfl, pv_at, show findE false (gf : Int) = if (gf : Int) < 0 then 9 else 0 from rfl, if_neg (by omega)] at FD
  have CL := Lib.hid (bclone_any A nf c l w w.heap.size (Reads.of_own hnv) (Nat.le_refl _) (by omega) f3)
  have c0 : w.cell? ⟨gf, 0, none⟩ = some (.slice A nf c) := Blk.cell hf 0
  clear h hown hs hlk hf hnv hn f1 f2 f3
  go_enter Try.func24, Try.ntmps24
  go_wp2_with fail
  refine FD.out.mono ?_
  rintro e w2 ⟨rfl, rfl⟩
  go_wp2_with fail
  refine CL.out.mono ?_
  rintro e w3 ⟨⟨v, rfl, o3⟩, s3⟩
  have O3 := Lib.hid o3
  have S3 := Lib.hid s3
  clear o3 s3 CL FD
  go_wp2_with fail
  go_ret2
  exact ⟨⟨_, rfl, O3.out⟩, S3.out⟩
theorem all_none {w : World} {g : Nat} {room : Int} {bn bf : Nat} {wv : Value} {left : Int} {off : Bool} (h : MedB w g room bn bf wv left off) (s : ByteArray) (hs : s.size ≤ maxLen) (n : Nat) (D : DataW Unit) (hown : NM w bn n D) (hno : off = true ∨ look D s = -1) :
    Calls Try.prog 24 #[.pointer (some ⟨g, 0, none⟩), .string s] w fun e w' => e = .returned (.tuple #[.slice none 0 0, .int .i64 (findE off (look D s))]) ∧ w = w' := by
  have FD := Lib.hid (find_yes h s n D hown hs)
  have key : findV off (look D s) = .pointer none ∧ (findE off (look D s) != 0) = true := by
    rcases hno with rfl | hno
    · exact ⟨rfl, rfl⟩
    · rw [hno]
      cases off <;> exact ⟨rfl, rfl⟩
  rw [key.1] at FD
  obtain ⟨E, hE⟩ : ∃ E, E = findE off (look D s) := ⟨_, rfl⟩
  rw [← hE] at FD key ⊢
  have b1 := key.2
  clear h hown hs hno key hE
  go_enter Try.func24, Try.ntmps24
  go_wp2_with fail
  refine FD.out.mono ?_
  rintro e w2 ⟨rfl, rfl⟩
  go_wp2_with fail
  go_ret2
  exact ⟨rfl, rfl⟩
end Go.Proofs.Ytdadcfbapeldpaa
