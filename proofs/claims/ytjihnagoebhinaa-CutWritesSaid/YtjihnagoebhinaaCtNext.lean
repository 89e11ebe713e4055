/- Contract: a finder goes on. It proves no statement. -/
import Derived.Test.YtjihnagoebhinaaCtFind
namespace Go.Proofs.Ytjihnagoebhinaa
open Go.RowKit
set_option linter.unusedVariables false
set_option linter.unusedSimpArgs false

theorem Chg.cell {a b : World} {S : Nat → Prop} (h : Chg a b S) {p : Addr} {u : Value} (hc : a.cell? p = some u) (hS : ¬ S p.block) : b.cell? p = some u :=
  (World.cell?_of_block (w := a) (h.block p.block (World.block_lt_of_cell? a _ hc) hS)).trans hc
/-- The two blocks of a finder. -/
def Fi2 (f r : Nat) : Nat → Prop := fun k => k = f ∨ k = r
theorem had_size {w w' : World} {f r : Nat} {s : Shp} {l : List UInt8} (h : FB w f r s l) (x : List UInt8) : Had (w.setCell ⟨f, 4, none⟩ (.int .i64 (x.length : Nat))) r s.seed s.n l :=
  h.2.1.keepb ((grownBy_set w f 4 (.int .i64 (x.length : Nat))).block r h.2.1.lt (fun e => h.2.2 (Option.some.inj e)))
set_option maxRecDepth 100000 in
set_option maxHeartbeats 3200000 in
theorem next_any {f r : Nat} {s : Shp} {l : List UInt8} (hs : s.Ok) (hl : l.length < s.mt) (A : Option Addr) (n c : Nat) (b : List UInt8) (w : World) (B : Nat) (h : FB w f r s l) (hr : Reads w B A n b) (hn : n ≤ 140737488355328) (hfar : ∀ ad, A = some ad → 0 < n → ¬ Fi2 f r ad.block) :
    Calls Try.prog 28 #[.pointer (some ⟨f, 0, none⟩), .slice A n c] w fun e w' =>
      e = .returned (.tuple #[.int .i64 ((nx s l b).1 : Nat), .bool (nx s l b).2]) ∧ FB w' f r s (if (nx s l b).2 = true then [] else l ++ b) ∧ Chg w w' (Fi2 f r) := by
  have hbl := hr.1
  obtain ⟨N, hN⟩ : ∃ N, N = nx s l b := ⟨_, rfl⟩
  rw [← hN]
  obtain ⟨p, q⟩ := N
  simp only
  have HN := Lib.hid hN
  have OK := Lib.hid hs
  have HR := Lib.hid hr
  have HF := Lib.hid hfar
  have m8 := hs.mt8
  have hn1 : 0 < s.n := by have := hs.n1; omega
  have hn63 := hs.n63
  have I0 : Hid (At s l b 0 ∧ FB w f r s (l ++ b.take 0) ∧ Chg w w (Fi2 f r) ∧ (l ++ b.take 0).length < s.mt) := ⟨at_zero s l b, by simpa using h, Chg.refl _ _, by simpa using hl⟩
  clear hN hs hr hfar h
  go_enter Try.func28, Try.ntmps28
  go_wp2_with fail
  go_loopw [11] (fun iv wr => ∃ k : Nat, iv = .int .i64 k ∧ k ≤ n ∧ Hid (At s l b k ∧ FB wr f r s (l ++ b.take k) ∧ Chg w wr (Fi2 f r) ∧ (l ++ b.take k).length < s.mt)) (fun iv _ => n - (intOf iv).toNat)
  case atStart => exact ⟨0, rfl, Nat.zero_le _, I0⟩
  case round =>
    clear I0
    obtain ⟨k, rfl, hk, hin⟩ := hrel
    by_cases hlt : k < n
    · obtain ⟨bb, o, rfl, hb, hc⟩ := HR.out.at_ (by omega)
      have c1 := hin.out.2.2.1.cell (hc k hlt) (show ¬ Fi2 f r bb from HF.out ⟨bb, o, none⟩ rfl (by omega))
      have e1 : b.take (k + 1) = b.take k ++ [b.getD k 0] := by rw [List.take_add_one]; simp [List.getD, hbl, hlt]
      obtain ⟨ch, hch⟩ : ∃ ch, ch = b.getD k 0 := ⟨_, rfl⟩
      obtain ⟨t, ht⟩ : ∃ t, t = l ++ b.take k := ⟨_, rfl⟩
      obtain ⟨t1, ht1⟩ : ∃ t1, t1 = l ++ b.take (k + 1) := ⟨_, rfl⟩
      have e2 : t1 = t ++ [ch] := by rw [ht1, e1, ht, hch, List.append_assoc]
      have e3 : t1.length = t.length + 1 := by rw [e2]; simp
      rw [← hch] at c1
      have J := hin.out
      rw [← ht] at J
      have tl := J.2.2.2
      have F1 := J.2.1.size t1
      have F2 := had_size (w' := wr) J.2.1 t1
      have G1 := grownBy_set wr f 4 (.int .i64 (t1.length : Nat))
      have f4 := J.2.1.1.frozen 4
      have b4 := J.2.1.1.cell 4
      have b3 := F1.cell 3
      have d0 : (0 : Int) ≤ (k : Int) := by omega
      have d1 : (k : Int) < (n : Int) := by omega
      have d2 : IntKind.i64.wrap ((t.length : Int) + 1) = ((t1.length : Nat) : Int) := by rw [IntKind.wrap_i64]; omega
      have d3 : IntKind.i64.wrap ((k : Int) + 1) = (k : Int) + 1 := by rw [IntKind.wrap_i64]; omega
      simp only [List.getElem?_toArray, List.getElem?_cons_succ, List.getElem?_cons_zero] at b3 b4
      have HP := Lib.hid (had_put ch F2 hn1 hn63)
      rw [← e2] at HP
      have FF := Lib.hid F1
      have GG := Lib.hid (And.intro G1 J.2.2.1)
      have AT := Lib.hid (And.intro J.1 J.2.1.2.2)
      have TL := Lib.hid (And.intro tl e3)
      have T1 := Lib.hid ht1
      have HX := Lib.hid (sm_lt s.seed (lastL s.n t1))
      obtain ⟨z, hz⟩ : ∃ z, z = sm s.seed (lastL s.n t1) := ⟨_, rfl⟩
      rw [← hz] at HP HX
      have HZ := Lib.hid hz
      have D1 := Lib.hid hlt
      clear hc F1 F2 G1 J hin e1 e2 e3 ht ht1 hz hlt tl hch
      go_wp2_with fail
      refine HP.out.mono ?_
      rintro e w2 ⟨rfl, h2, g2⟩
      have hb2 : w2.heap[f]? = _ := (g2.block f FF.out.lt (fun e => AT.out.2 (Option.some.inj e).symm)).trans FF.out
      have H2 := Lib.hid h2
      have C2 := Lib.hid (GG.out.2.trans ((Chg.of_grown GG.out.1 (S := Fi2 f r) (fun k hk _ => .inl (Option.some.inj hk).symm)).trans (Chg.of_grown g2 (S := Fi2 f r) (fun k hk _ => .inr (Option.some.inj hk).symm)) (fun x _ h => h)) (fun x _ h => h))
      have HE := Lib.hid (ends_any (l := t1) OK.out z HX.out w2 hb2)
      obtain ⟨v, hv⟩ : ∃ v, v = (decide (t1.length = s.mt) || (decide (s.lt ≤ t1.length) && decide (z % 2 ^ s.k = 0))) := ⟨_, rfl⟩
      rw [← hv] at HE
      have hve : endS s t1 = v := by rw [hv, HZ.out]; rfl
      have HV := Lib.hid hve
      have HB2 := Lib.hid (show Blk w2 f _ _ from hb2)
      clear hb2 h2 g2 hve hv HP GG f4 b4 b3 d2
      go_wp2_with fail
      refine HE.out.mono ?_
      rintro e w3 ⟨rfl, mm, rfl⟩
      have F3 : FB (w2.drewN mm) f r s t1 := ⟨HB2.out, H2.out.keepb rfl, AT.out.2⟩
      have C3 : Chg w (w2.drewN mm) (Fi2 f r) := ⟨C2.out.os, C2.out.tape, C2.out.output, C2.out.size, C2.out.block⟩
      have ST := at_step AT.out.1 (show k < b.length by have := D1.out; omega)
      rw [← T1.out, HV.out] at ST
      have HS := Lib.hid ST
      clear ST HB2 H2 C2 HE
      rcases v with _ | _
      · have H3 := Lib.hid (And.intro F3 C3)
        clear F3 C3
        go_wp2_with fail
        go_roundw
        case rel =>
          refine ⟨k + 1, by go_num, by have := D1.out; omega, ⟨HS.out.2 (by trivial), ?_, H3.out.2, ?_⟩⟩
          · rw [← T1.out]; exact H3.out.1
          · rw [← T1.out]
            have v0 := HV.out
            unfold endS at v0
            simp only [Bool.or_eq_false_iff, decide_eq_false_iff_not] at v0
            have := v0.1
            have := TL.out
            omega
        case measure => simp [intOf]; have := D1.out; omega
      · have HC := Lib.hid (clear_yes OK.out _ F3)
        have H3 := Lib.hid (And.intro F3 C3)
        clear F3 C3
        go_wp2_with fail
        refine HC.out.mono ?_
        rintro e w4 ⟨rfl, h4, c4⟩
        have e5 := HN.out.trans (HS.out.1 (by trivial))
        have H4 := Lib.hid (And.intro h4 (H3.out.2.trans c4 (fun x _ h => h)))
        simp only [Prod.mk.injEq] at e5
        obtain ⟨rfl, rfl⟩ := e5
        clear h4 c4 H3 HC
        go_wp2_with fail
        (try simp only [Exit.inBlock, Exit.then])
        go_ret2
        exact ⟨rfl, H4.out.1, H4.out.2⟩
    · obtain rfl : k = n := by omega
      have hat := hin.out.1
      rw [← hbl] at hat
      have e5 := HN.out.trans (at_over hat)
      simp only [Prod.mk.injEq] at e5
      obtain ⟨e6, rfl⟩ := e5
      have H4 := Lib.hid (And.intro hin.out.2.1 hin.out.2.2.1)
      have HBL := Lib.hid hbl
      have HE6 := Lib.hid e6
      clear hin hat e6 hbl
      go_wp2_with fail
      go_ret2
      refine ⟨by rw [HE6.out, HBL.out]; rfl, ?_, H4.out.2⟩
      have := H4.out.1
      rw [List.take_of_length_le (by rw [HBL.out]; exact Nat.le_refl _)] at this
      simpa using this
end Go.Proofs.Ytjihnagoebhinaa
