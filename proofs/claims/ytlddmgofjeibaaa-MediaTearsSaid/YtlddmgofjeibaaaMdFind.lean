/- Contracts: find, bytes.Clone, an Append's change done. It proves no statement. -/
import Derived.Test.YtlddmgofjeibaaaMdNam
import Derived.Test.YtlddmgofjeibaaaAdds
import Derived.StillTailTactics
namespace Go.Proofs.Ytlddmgofjeibaaa
open Go.RowKit Go.Maps Go.WideMaps
set_option linter.unusedVariables false
set_option linter.unusedSimpArgs false

def findE (off : Bool) (f : Int) : Int := if off = true then 12 else if f < 0 then 9 else 0
def findV (off : Bool) (f : Int) : Value := if off = true then .pointer none else pv f
theorem look_cases {w : World} {b n : Nat} {D : DataW Unit} (hown : NM w b n D) (s : ByteArray) (hs : s.size ≤ maxLen) : look D s = -1 ∨ 0 ≤ look D s := by
  obtain ⟨v, ps, hrun, hv⟩ := hown.lookup mapLaw underNames (zeroPtr w) ptrElem_nil (key_of s hs)
  obtain ⟨f, hf, rfl, hz⟩ := ptrElem_inv hv
  have hl : look D s = f := by
    unfold look
    have := congrArg Prod.fst hz
    simp only at this
    rw [this]
    rfl
  rw [hl]
  exact hf
set_option maxRecDepth 100000 in
set_option maxHeartbeats 1600000 in
theorem find_yes {w : World} {g : Nat} {room : Int} {bn bf : Nat} {wv : Value} {left : Int} {off : Bool} (h : MedB w g room bn bf wv left off) (s : ByteArray) (n : Nat) (D : DataW Unit) (hown : NM w bn n D) (hs : s.size ≤ maxLen) :
    Calls Try.prog 32 #[.pointer (some ⟨g, 0, none⟩), .string s] w fun e w' => e = .returned (.tuple #[findV off (look D s), .int .i64 (findE off (look D s))]) ∧ w = w' := by
  have WK := Lib.hid (works_yes h)
  have c1 : w.cell? ⟨g, 1, none⟩ = some (.map (some bn)) := Blk.cell h 1
  have HO := Lib.hid hown
  have HS := Lib.hid hs
  have LC := Lib.hid (look_cases hown s hs)
  clear h hown hs
  cases off
  · have e1 : findV false (look D s) = pv (look D s) := rfl
    have e2 : findE false (look D s) = if look D s < 0 then 9 else 0 := rfl
    rw [e1, e2]
    rw [show (if false = true then (12 : Int) else 0) = 0 from rfl] at WK
    clear e1 e2
    obtain ⟨fl, hfl⟩ : ∃ fl, fl = look D s := ⟨_, rfl⟩
    rw [← hfl] at LC ⊢
    have HFL := Lib.hid hfl.symm
    clear hfl
    rcases LC.out with rfl | hlk
    all_goals (clear LC)
    · rw [pv_nil, if_pos (by decide)]
      go_enter Try.func32, Try.ntmps32
      go_wp2_with fail
      refine WK.out.mono ?_
      rintro e w2 ⟨rfl, rfl⟩
      go_wp2_with (at_lookup; go_must (refine wpList_look rfl (.tmp 16) (.tmp 17) rfl bn n D rfl HO.out s rfl HS.out ?_; intro f hf hlk; rw [HFL.out] at hlk; subst hlk; rw [pv_nil]; clear hf))
      go_ret2
      exact ⟨rfl, rfl⟩
    · obtain ⟨m, rfl⟩ := Int.eq_ofNat_of_zero_le hlk
      rw [pv_at, if_neg (by omega)]
      clear hlk
      go_enter Try.func32, Try.ntmps32
      go_wp2_with fail
      refine WK.out.mono ?_
      rintro e w2 ⟨rfl, rfl⟩
      go_wp2_with (at_lookup; go_must (refine wpList_look rfl (.tmp 16) (.tmp 17) rfl bn n D rfl HO.out s rfl HS.out ?_; intro f hf hlk; rw [HFL.out] at hlk; subst hlk; rw [pv_at]; clear hf))
      go_ret2
      exact ⟨rfl, rfl⟩
  · go_enter Try.func32, Try.ntmps32
    go_wp2_with fail
    refine WK.out.mono ?_
    rintro e w2 ⟨rfl, rfl⟩
    go_wp2_with fail
    go_ret2
    exact ⟨rfl, rfl⟩

set_option maxHeartbeats 400000 in
theorem bclone_any (A : Option Addr) (n c : Nat) (l : List UInt8) (w : World) (B : Nat) (h : Reads w B A n l) (hB : B ≤ w.heap.size) (hn : n ≤ 70368744177664) (hA : A = none → n = 0 ∧ c = 0) :
    Calls Try.prog 55 #[.slice A n c] w fun e w' => (∃ v, e = .returned v ∧ w'.ownsRow w.heap.size 5 1 v n (bytesV l)) ∧ Still w w' := by
  rcases A with _ | ad
  · obtain ⟨rfl, rfl⟩ := hA rfl
    have hl : l = [] := List.eq_nil_of_length_eq_zero h.1
    subst hl
    have hk : ∀ w : World, (binOp .eql 41 (.slice none 0 0) (.slice none 0 0)).run Try.prog w = .ok (.bool true) w := fun w => Lib.run_eql_slice_nil w _ _ none 0 0 0 0 Try.underlying41
    go_enter Try.func55, Try.ntmps55
    go_wp2
    go_ret
    exact ⟨⟨_, rfl, World.ownsRow_nil _ _ _ _⟩, Below.refl _ _⟩
  · have r1 : Reads (w.alloc (.cells #[] 5)) B (some ad) n l := h.keep fun p hp => World.cell?_alloc_lt w _ p (by omega)
    have o1 : (w.alloc (.cells #[] 5)).ownsRow w.heap.size 5 1 (.slice (some ⟨w.heap.size, 0, none⟩) 0 0) 0 (bytesV []) := World.ownsRow_made w #[] 0 (Nat.le_refl _) (by unfold maxLen; omega) rfl
    have s1 : Still w (w.alloc (.cells #[] 5)) := (Below.refl _ _).alloc (Nat.le_refl _) _
    have hk : ∀ w : World, (binOp .eql 41 (.slice (some ad) n c) (.slice none 0 0)).run Try.prog w = .ok (.bool false) w := fun w => Lib.run_eql_slice_nil w _ _ (some ad) n c 0 0 Try.underlying41
    go_enter Try.func55, Try.ntmps55
    go_wp2_with (at_builtin; go_must (refine wpList_adds _ rfl _ _ rfl w.heap.size _ 0 [] rfl o1 _ n c B l rfl r1 (fun e => by cases e) ?c1 ?c2 ?_))
    case c1 => omega
    case c2 => simp
    intro v' w' hown hg _
    have hst : Still w w' := s1.grown hg (by simp) (fun k hk => by simp [Value.ownBlock] at hk; omega)
    have hown' : w'.ownsRow w.heap.size 5 1 v' n (bytesV l) := by simpa using hown
    clear hg hown
    go_wp2_with fail
    go_ret
    exact ⟨⟨_, rfl, hown'⟩, hst⟩


set_option maxRecDepth 100000 in
set_option maxHeartbeats 1600000 in
/-- An Append's change: the bytes are laid behind a file's own. -/
theorem change_add (v : Value) (base n : Nat) (l : List UInt8) (A : Option Addr) (m c : Nat) (x : List UInt8) (w : World) (B : Nat) (hown : w.ownsRow base 5 1 v n (bytesV l)) (hbase : base ≤ w.heap.size) (hr : Reads w B A m x) (hB : B ≤ w.heap.size) (hA : A = none → c = 0) (hn : n + m ≤ 100000000) :
    Calls Try.prog 56 #[.agg #[.int .i64 n, .slice A m c], v] w fun e w' => ∃ v', e = .returned v' ∧ w'.ownsRow base 5 1 v' (n + m) (bytesV (l ++ x)) ∧ w.grownBy w' v.ownBlock ∧ (v'.ownBlock = v.ownBlock ∨ ∃ j, v'.ownBlock = some j ∧ w.heap.size ≤ j) := by
  obtain ⟨Av, cv, rfl, f1, f2, f3⟩ := own_form hown
  obtain ⟨w1, hw1⟩ : ∃ w1, w1 = w.alloc (.cells #[.int .i64 n, .slice A m c] 96) := ⟨_, rfl⟩
  obtain ⟨g1, hg1⟩ : ∃ g1, g1 = w.heap.size := ⟨_, rfl⟩
  have S1 := Lib.hid (show Still w w1.drew by rw [hw1]; exact ((Still.refl w).alloc (Nat.le_refl _) _).drew)
  have O1 := Lib.hid (show w1.drew.ownsRow base 5 1 (.slice Av n cv) n (bytesV l) from own_still hown S1.out)
  have R1 := Lib.hid (hr.still hB S1.out)
  have B1 := Lib.hid (show Blk w1 g1 96 #[.int .i64 n, .slice A m c] by rw [hw1, hg1]; exact Blk.new _ _ _)
  have k0 : w1.cell? ⟨g1, 0, none⟩ = some (.int .i64 n) := Blk.cell B1.out 0
  have k1 : w1.cell? ⟨g1, 1, none⟩ = some (.slice A m c) := Blk.cell B1.out 1
  have HW1 := Lib.hid hw1
  have HG1 := Lib.hid hg1
  have HA := Lib.hid hA
  have HBS := Lib.hid (Nat.le_trans hbase S1.out.size)
  have HN := Lib.hid hn
  have F := Lib.hid (And.intro f1 f2)
  clear hown hbase hr hB hA hw1 hg1 f3
  go_enter Try.func56, Try.ntmps56
  go_wp2_with fail
  rw [← HW1.out, ← HG1.out]
  go_still_tail 6, (by kernel_rfl)
  repeat still_step
  change wpList _ _ _ _ _ w1.drew
  go_wp2_with (at_builtin; go_must (refine wpList_adds_at w1.drew rfl (.tmp 8) (.tmp 10) rfl base (.slice Av n cv) n l rfl O1.out A m c B x rfl R1.out HA.out ?c1 HBS.out ?_))
  case c1 => have := HN.out; omega
  intro v2 w2 own2 gr2 loc2
  have OW2 := Lib.hid own2
  have GR2 := Lib.hid (show w.grownBy w2 (Value.slice Av n cv).ownBlock from ⟨gr2.os.trans S1.out.os, gr2.tape.trans S1.out.tape, gr2.output.trans S1.out.output, Nat.le_trans S1.out.size gr2.size, fun k hk hne => (gr2.block k (Nat.lt_of_lt_of_le hk S1.out.size) hne).trans (S1.out.block k hk)⟩)
  have LO2 := Lib.hid (show v2.ownBlock = (Value.slice Av n cv).ownBlock ∨ ∃ j, v2.ownBlock = some j ∧ w.heap.size ≤ j from by
    rcases loc2 with h | h
    · exact .inl h
    · exact .inr ⟨_, h, S1.out.size⟩)
  clear own2 gr2 loc2
  go_wp2_with fail
  go_ret
  exact ⟨_, rfl, OW2.out, GR2.out, LO2.out⟩
end Go.Proofs.Ytlddmgofjeibaaa
