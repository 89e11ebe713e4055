/- Contracts: the program's teller of a block: room and literals. It proves no statement. -/
import Derived.Test.YtcbolakhdndffaaLzTl
namespace Go.Proofs.Ytcbolakhdndffaa
open Go.RowKit
set_option linter.unusedVariables false
set_option linter.unusedSimpArgs false

theorem tl_bytes_no {w : World} {lo h g most : Nat} {t l : List UInt8} {x : Int} (T : Tl w lo h g most t l x) (y : Nat) (hx : x = 3 ∨ (x = 0 ∧ l.length < y)) :
    Calls Try.prog 36 #[.pointer (some ⟨g, 0, none⟩), .int .i64 y] w fun e w' => ∃ A1 l', e = .returned (.slice A1 0 0) ∧ Tl w' lo h g most t l' 3 ∧ Below lo w w' := by
  refine (bytes_any T.rd y).mono ?_
  rintro e w' ⟨A1, k, A', n', c', he, lv, ha, rd, mi, nn, gr⟩
  have key : (rstep l x y false).1.2 = 3 ∧ (rstep l x y false).2 = [] := by
    rcases hx with rfl | ⟨rfl, hs⟩
    · rw [rstep_err l 3 y false (by decide)]; exact ⟨rfl, rfl⟩
    · rw [rstep_short l y false (by simp) (by omega)]; exact ⟨rfl, rfl⟩
  rw [key.2] at rd
  rw [key.1] at lv
  have hk : k = 0 := rd.1.symm
  subst hk
  exact ⟨A1, _, he, (T.next gr ⟨_, _, _, lv⟩).1, (T.next gr ⟨_, _, _, lv⟩).2⟩
theorem tl_bytes_yes {w : World} {lo h g most : Nat} {t l : List UInt8} (T : Tl w lo h g most t l 0) (y : Nat) (hs : y ≤ l.length) :
    Calls Try.prog 36 #[.pointer (some ⟨g, 0, none⟩), .int .i64 y] w fun e w' => ∃ A1, e = .returned (.slice A1 y y) ∧ Reads w' h A1 y (l.take y) ∧ (A1 = none → y = 0) ∧ Tl w' lo h g most t (l.drop y) 0 ∧ Below lo w w' := by
  refine (bytes_any T.rd y).mono ?_
  rintro e w' ⟨A1, k, A', n', c', he, lv, ha, rd, mi, nn, gr⟩
  rw [rstep_ok l y false (by simp) hs] at lv rd
  have hk : k = y := by have := rd.1; simp at this; omega
  subst hk
  exact ⟨A1, he, rd, nn, (T.next gr ⟨_, _, _, lv⟩).1, (T.next gr ⟨_, _, _, lv⟩).2⟩
theorem tl_err {w : World} {lo h g most : Nat} {t l : List UInt8} {x : Int} (T : Tl w lo h g most t l x) :
    Calls Try.prog 28 #[.pointer (some ⟨g, 0, none⟩)] w fun e w' => e = .returned (.int .i64 x) ∧ w = w' := by
  obtain ⟨A, n, c, lv⟩ := T.rd
  exact err_live lv
theorem tl_left {w : World} {lo h g most : Nat} {t l : List UInt8} {x : Int} (T : Tl w lo h g most t l x) :
    Calls Try.prog 53 #[.pointer (some ⟨g, 0, none⟩)] w fun e w' => e = .returned (.int .i64 l.length) ∧ w = w' := by
  obtain ⟨A, n, c, lv⟩ := T.rd
  rw [lv.reads.1]
  exact left_live lv

/-- What room answers. -/
def roomR (most tl n : Nat) (x : Int) : Int := if x ≠ 0 then x else if most < tl + n then 5 else 0
set_option maxRecDepth 100000 in
set_option maxHeartbeats 800000 in
theorem room_any {w : World} {lo h g most : Nat} {t l : List UInt8} {x : Int} (T : Tl w lo h g most t l x) (n : Nat) (hn : n ≤ 1000000000) :
    Calls Try.prog 56 #[.pointer (some ⟨h, 0, none⟩), .int .i64 n] w fun e w' => e = .returned (.int .i64 (roomR most t.length n x)) ∧ ∃ m, w' = w.drewN m := by
  have ER := Lib.hid (tl_err T)
  have c0 := T.c0
  obtain ⟨A, c, c1⟩ := T.c1
  have c2 := T.c2
  obtain ⟨f1, f2⟩ := T.fit
  obtain ⟨k, hk⟩ : ∃ k, k = t.length := ⟨_, rfl⟩
  rw [← hk] at c1 f1 ⊢
  clear T hk
  by_cases hx : x = 0
  · subst hx
    have i1 : IntKind.i64.wrap ((most : Int) - (k : Int)) = (most : Int) - (k : Int) := by rw [IntKind.wrap_i64]; omega
    by_cases hr : most < k + n
    · have d : (most : Int) - (k : Int) < (n : Int) := by omega
      have e : roomR most k n 0 = 5 := by unfold roomR; rw [if_neg (by decide), if_pos hr]
      rw [e]
      clear hr e
      go_enter Try.func56, Try.ntmps56
      go_wp2_with fail
      refine ER.out.mono ?_
      rintro e w1 ⟨rfl, rfl⟩
      go_wp2_with fail
      go_quiet (fail)
      go_wp2_with fail
      go_ret
      exact ⟨rfl, nq, rfl⟩
    · have d : ¬ (most : Int) - (k : Int) < (n : Int) := by omega
      have e : roomR most k n 0 = 0 := by unfold roomR; rw [if_neg (by decide), if_neg hr]
      rw [e]
      clear hr e
      go_enter Try.func56, Try.ntmps56
      go_wp2_with fail
      refine ER.out.mono ?_
      rintro e w1 ⟨rfl, rfl⟩
      go_wp2_with fail
      go_quiet (fail)
      go_wp2_with fail
      go_ret
      exact ⟨rfl, nq, rfl⟩
  · have hb : (x != 0) = true := by simpa using hx
    have e : roomR most k n x = x := by unfold roomR; rw [if_pos hx]
    rw [e]
    clear e hx
    go_enter Try.func56, Try.ntmps56
    go_wp2_with fail
    refine ER.out.mono ?_
    rintro e w1 ⟨rfl, rfl⟩
    go_wp2_with fail
    go_ret
    exact ⟨rfl, 0, rfl⟩

/-- Nothing is to be had any more. -/
theorem tl_lit_no {w : World} {lo h g most : Nat} {t l : List UInt8} {x : Int} (T : Tl w lo h g most t l x) (n : Nat) (hn : n ≤ 15)
    (NU : Hid (∀ m, Calls Try.prog 55 #[.pointer (some ⟨h, 0, none⟩), .int .i64 n] (w.drewN m) fun e w' => ∃ (y : Nat) (l' : List UInt8) (x' : Int), e = .returned (.int .i64 y) ∧ Tl w' lo h g most t l' x' ∧ Below lo w w' ∧ (x' = 3 ∨ (x' = 0 ∧ l'.length < y)))) :
    Calls Try.prog 52 #[.pointer (some ⟨h, 0, none⟩), .int .i64 n] w fun e w' => e = .returned (.int .i64 3) ∧ Below lo w w' := by
  have HT := Lib.hid (fun m => T.drew m)
  have c0 := T.c0
  clear T
  go_enter Try.func52, Try.ntmps52
  go_wp2_with fail
  go_region_held3 (fun w' => w'.cell? ⟨h, 0, none⟩ = some (.pointer (some ⟨g, 0, none⟩))) (first | exact (HT.out 1).c0 | exact T2.out.c0 | exact T3.out.c0)
    (first
      | (go_at_call 55; refine (NU.out 1).mono ?_; rintro e w2 ⟨y, l2, x2, rfl, t2, s2, h2⟩; have T2 := Lib.hid t2; have S2 := Lib.hid s2; have H2 := Lib.hid h2; clear t2 s2 h2)
      | (go_at_call 36; refine (tl_bytes_no T2.out y H2.out).mono ?_; rintro e w3 ⟨A1, l3, rfl, t3, s3⟩; have T3 := Lib.hid t3; have S3 := Lib.hid s3; clear t3 s3))
  have RM := Lib.hid (room_any T3.out 0 (by omega))
  have e3 : roomR most t.length 0 3 = 3 := by unfold roomR; rw [if_pos (by decide)]
  rw [e3, show ((0 : Nat) : Int) = 0 from rfl] at RM
  clear e3
  go_wp2_with fail
  refine RM.out.mono ?_
  rintro e w4 ⟨rfl, m, hm⟩
  rw [hm]
  clear hm w4
  go_wp2_with fail
  go_ret
  exact ⟨rfl, Below.trans S2.out (Below.trans S3.out ((still_drewN (Still.refl w3) m).mono (by have := T3.out.lt; omega)))⟩

set_option maxRecDepth 100000 in
set_option maxHeartbeats 1600000 in
theorem tl_lit_yes {w : World} {lo h g most : Nat} {t l : List UInt8} {x : Int} (T : Tl w lo h g most t l x) (n a : Nat) (l1 : List UInt8) (hn : n ≤ 15) (ha : a ≤ l1.length) (hab : a ≤ 1000000000)
    (NU : Hid (∀ m, Calls Try.prog 55 #[.pointer (some ⟨h, 0, none⟩), .int .i64 n] (w.drewN m) fun e w' => e = .returned (.int .i64 a) ∧ Tl w' lo h g most t l1 0 ∧ Below lo w w')) :
    Calls Try.prog 52 #[.pointer (some ⟨h, 0, none⟩), .int .i64 n] w fun e w' => e = .returned (.int .i64 (if most < t.length + a then 5 else 0)) ∧ Below lo w w' ∧ (¬ most < t.length + a → Tl w' lo h g most (t ++ l1.take a) (l1.drop a) 0) := by
  have HT := Lib.hid (fun m => T.drew m)
  have c0 := T.c0
  have HF := Lib.hid T.fit
  clear T
  by_cases hr : most < t.length + a
  · rw [if_pos hr]
    have HR := Lib.hid hr
    clear hr
    go_enter Try.func52, Try.ntmps52
    go_wp2_with fail
    go_region_held3 (fun w' => w'.cell? ⟨h, 0, none⟩ = some (.pointer (some ⟨g, 0, none⟩))) (first | exact (HT.out 1).c0 | exact T2.out.c0 | exact T3.out.c0)
      (first
        | (go_at_call 55; refine (NU.out 1).mono ?_; rintro e w2 ⟨rfl, t2, s2⟩; have T2 := Lib.hid t2; have S2 := Lib.hid s2; clear t2 s2)
        | (go_at_call 36; refine (tl_bytes_yes T2.out a ha).mono ?_; rintro e w3 ⟨A1, rfl, r3, n3, t3, s3⟩; have T3 := Lib.hid t3; have S3 := Lib.hid s3; have R3 := Lib.hid r3; have N3 := Lib.hid n3; clear t3 s3 r3 n3))
    have RM := Lib.hid (room_any T3.out a hab)
    have e3 : roomR most t.length a 0 = 5 := by unfold roomR; rw [if_neg (by decide), if_pos HR.out]
    rw [e3] at RM
    clear e3
    go_wp2_with fail
    refine RM.out.mono ?_
    rintro e w4 ⟨rfl, m, hm⟩
    rw [hm]
    clear hm w4
    go_wp2_with fail
    go_ret
    exact ⟨rfl, Below.trans S2.out (Below.trans S3.out ((still_drewN (Still.refl w3) m).mono (by have := T3.out.lt; have := T3.out.low; omega))), fun h => absurd HR.out h⟩
  · rw [if_neg hr]
    have HR := Lib.hid hr
    clear hr
    go_enter Try.func52, Try.ntmps52
    go_wp2_with fail
    go_region_held3 (fun w' => w'.cell? ⟨h, 0, none⟩ = some (.pointer (some ⟨g, 0, none⟩))) (first | exact (HT.out 1).c0 | exact T2.out.c0 | exact T3.out.c0)
      (first
        | (go_at_call 55; refine (NU.out 1).mono ?_; rintro e w2 ⟨rfl, t2, s2⟩; have T2 := Lib.hid t2; have S2 := Lib.hid s2; clear t2 s2)
        | (go_at_call 36; refine (tl_bytes_yes T2.out a ha).mono ?_; rintro e w3 ⟨A1, rfl, r3, n3, t3, s3⟩; have T3 := Lib.hid t3; have S3 := Lib.hid s3; have R3 := Lib.hid r3; have N3 := Lib.hid n3; clear t3 s3 r3 n3))
    have RM := Lib.hid (room_any T3.out a hab)
    have e3 : roomR most t.length a 0 = 0 := by unfold roomR; rw [if_neg (by decide), if_neg HR.out]
    rw [e3] at RM
    clear e3
    go_wp2_with fail
    refine RM.out.mono ?_
    rintro e w4 ⟨rfl, m, hm⟩
    have T4 := Lib.hid (T3.out.drew m)
    have R4 := Lib.hid (show Reads w4 h A1 a (l1.take a) by rw [hm]; exact R3.out.keep fun _ _ => rfl)
    have S4 := Lib.hid (show Below lo w w4 by rw [hm]; exact Below.trans S2.out (Below.trans S3.out ((still_drewN (Still.refl w3) m).mono (by have := T3.out.lt; have := T3.out.low; omega))))
    rw [← hm] at T4
    clear hm RM
    obtain ⟨A, c, hb, ho⟩ := T4.out.ex
    have c1 : w4.cell? ⟨h, 1, none⟩ = some (.slice A t.length c) := hb.cell 1
    have hlt := hb.lt
    obtain ⟨k, hk⟩ : ∃ k, k = t.length := ⟨_, rfl⟩
    rw [← hk] at c1
    have HB := Lib.hid hb
    have HO := Lib.hid ho
    have HK := Lib.hid hk
    have HL := Lib.hid hlt
    clear hb ho hk hlt c0
    go_wp2_with (at_builtin; go_must (refine wpList_addsG w4 rfl _ _ rfl (h + 1) (.slice A k c) t rfl (by rw [HK.out]; exact HO.out) A1 a a h (l1.take a) rfl R4.out N3.out ?c1 ?c2 ?_))
    case c1 => have := HR.out; have := HF.out; omega
    case c2 => have := HL.out; omega
    intro v5 w5 g5
    obtain ⟨N, hN⟩ : ∃ N, N = (t ++ l1.take a).length := ⟨_, rfl⟩
    obtain ⟨⟨A5, c5, hv5⟩, T6, f5, c5', S5⟩ := T4.out.grow HB.out (by rw [← HK.out]; exact g5) (by have := HR.out; have := R4.out.1; simp at *; omega) (fun k e => (HO.out.lt k e).1)
    subst hv5
    rw [← hN] at T6 S5 ⊢
    have T7 := Lib.hid T6
    have S7 := Lib.hid S5
    clear T6 S5 g5 hN
    go_wp2_with fail
    go_ret
    exact ⟨rfl, Below.trans S4.out S7.out, fun _ => T7.out⟩
end Go.Proofs.Ytcbolakhdndffaa
