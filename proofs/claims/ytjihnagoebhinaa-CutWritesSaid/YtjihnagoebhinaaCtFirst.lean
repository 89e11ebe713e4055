/- Contract: the document's own answer: how many bytes the first chunk has. It proves no statement. -/
import Derived.Test.YtjihnagoebhinaaCtRef
import Derived.Test.YtjihnagoebhinaaCtRows
import Derived.StillTailTactics
namespace Go.Proofs.Ytjihnagoebhinaa
open Go.RowKit
set_option linter.unusedVariables false
set_option linter.unusedSimpArgs false

set_option maxRecDepth 100000 in
set_option maxHeartbeats 3200000 in
theorem rfirst_any (s : Shp) (hs : s.Ok) (A : Option Addr) (n c : Nat) (b : List UInt8) (w : World) (B : Nat) (h : Reads w B A n b) (hB : B ≤ w.heap.size) (hnc : n ≤ c) (hn : n ≤ 65536) :
    Calls Try.prog 29 #[.agg #[.int .i64 (s.lt : Nat), .int .i64 (s.mt : Nat), .int .i64 (s.k : Nat), .int .i64 (s.n : Nat), .int .u32 (s.seed : Nat)], .slice A n c] w fun e w' => e = .returned (.int .i64 ((nx s [] b).1 : Nat)) ∧ Still w w' := by
  have hl := h.1
  have st := (Still.refl w).alloc (Nat.le_refl _) (.cells #[.int .i64 (s.lt : Nat), .int .i64 (s.mt : Nat), .int .i64 (s.k : Nat), .int .i64 (s.n : Nat), .int .u32 (s.seed : Nat)] 24)
  have hb := Blk.new w 24 #[.int .i64 (s.lt : Nat), .int .i64 (s.mt : Nat), .int .i64 (s.k : Nat), .int .i64 (s.n : Nat), .int .u32 (s.seed : Nat)]
  have OK := Lib.hid hs
  obtain ⟨N, hN⟩ : ∃ N, N = (nx s [] b).1 := ⟨_, rfl⟩
  rw [← hN]
  have HN := Lib.hid hN
  have HR := Lib.hid (h.below (st.mono hB))
  obtain ⟨w1, hw1⟩ : ∃ w1, w1 = w.alloc (.cells #[.int .i64 (s.lt : Nat), .int .i64 (s.mt : Nat), .int .i64 (s.k : Nat), .int .i64 (s.n : Nat), .int .u32 (s.seed : Nat)] 24) := ⟨_, rfl⟩
  have I0 : Hid (At s [] b 0 ∧ Blk w1 w.heap.size 24 #[.int .i64 (s.lt : Nat), .int .i64 (s.mt : Nat), .int .i64 (s.k : Nat), .int .i64 (s.n : Nat), .int .u32 (s.seed : Nat)] ∧ Still w w1 ∧ Reads w1 B A n b) := ⟨at_zero _ _ _, by rw [hw1]; exact hb, by rw [hw1]; exact st, by rw [hw1]; exact HR.out⟩
  rw [hw1] at I0
  clear hw1 w1 hN st hb h hs HR
  go_enter Try.func29, Try.ntmps29
  go_wp2_with fail
  go_loopw [5] (fun iv wr => ∃ k1 : Nat, iv = .int .i64 (k1 : Int) ∧ (1 ≤ k1 ∧ k1 ≤ n + 1) ∧ Hid (At s [] b (k1 - 1) ∧ Blk wr w.heap.size 24 #[.int .i64 (s.lt : Nat), .int .i64 (s.mt : Nat), .int .i64 (s.k : Nat), .int .i64 (s.n : Nat), .int .u32 (s.seed : Nat)] ∧ Still w wr ∧ Reads wr B A n b)) (fun iv _ => n + 1 - (intOf iv).toNat)
  case atStart => exact ⟨1, rfl, ⟨by omega, by omega⟩, I0⟩
  case round =>
    clear I0
    obtain ⟨k1, rfl, hk, hin⟩ := hrel
    by_cases hlt : k1 - 1 < n
    · have hbk := hin.out.2.1
      have b0 := hbk.cell 0
      have b1 := hbk.cell 1
      have b2 := hbk.cell 2
      have b3 := hbk.cell 3
      have b4 := hbk.cell 4
      simp only [List.getElem?_toArray, List.getElem?_cons_succ, List.getElem?_cons_zero] at b0 b1 b2 b3 b4
      have hst := hin.out.2.2.1
      have hsz : B ≤ wr.heap.size := Nat.le_trans hB hst.size
      have HE := Lib.hid (fun W (g : Reads W B A n b) (hh : B ≤ W.heap.size) => rends_any s OK.out A k1 c (b.take k1) W B (g.takek (k := k1) (by omega)) hh (by omega) (by omega))
      have ST := at_step hin.out.1 (show k1 - 1 < b.length by omega)
      rw [List.nil_append, show k1 - 1 + 1 = k1 by omega] at ST
      obtain ⟨v, hv⟩ : ∃ v, v = endS s (b.take k1) := ⟨_, rfl⟩
      rw [← hv] at ST HE
      have HS := Lib.hid ST
      have HK := Lib.hid (And.intro hk hlt)
      have HRS := Lib.hid (And.intro hst (And.intro hsz hin.out.2.2.2))
      have HBK := Lib.hid hbk
      have z1 : (k1 : Int) ≤ (n : Int) := by omega
      have z2 : (0 : Int) ≤ (k1 : Int) := by omega
      have z3 : IntKind.i64.wrap ((k1 : Int) + 1) = (k1 : Int) + 1 := by rw [IntKind.wrap_i64]; omega
      have z4 : k1 ≤ c := by omega
      have z5 : (k1 : Int) ≤ (c : Int) := by omega
      obtain ⟨bb, o, rfl, _⟩ := HRS.out.2.2.at_ (by omega)
      clear ST hv hlt hbk hst hsz hin hk
      go_wp2_with fail
      go_still_tail 4, (by kernel_rfl)
      · repeat still_step
        (try refine wpStill_nil ?_)
        change wpList _ _ _ _ _ wr.drew
        clear b0 b1 b2 b3 b4
        go_wp2_with fail
        refine (HE.out wr.drew (HRS.out.2.2.keep fun _ _ => rfl) HRS.out.2.1).mono ?_
        rintro e w2 ⟨rfl, t2⟩
        have t3 : Still wr w2 := Still.trans ((Still.refl wr).drew) t2
        have T3 := Lib.hid t3
        clear t2 t3
        rcases v with _ | _
        · go_wp2_with fail
          go_roundw
          case rel =>
            refine ⟨k1 + 1, by go_num, ⟨by omega, by have := HK.out; omega⟩, ⟨?_, HBK.out.still T3.out, Still.trans HRS.out.1 T3.out, HRS.out.2.2.below (T3.out.mono HRS.out.2.1)⟩⟩
            rw [show k1 + 1 - 1 = k1 by omega]
            exact HS.out.2 (by trivial)
          case measure => simp [intOf]; have := HK.out; omega
        · have e5 := HN.out.trans (congrArg Prod.fst (HS.out.1 (by trivial)))
          have HF := Lib.hid (Still.trans HRS.out.1 T3.out)
          simp only at e5
          subst e5
          go_wp2_with fail
          (try simp only [Exit.inBlock, Exit.then])
          go_ret
          exact ⟨rfl, HF.out⟩
    · obtain rfl : k1 = n + 1 := by omega
      have hat := hin.out.1
      rw [show n + 1 - 1 = b.length by omega] at hat
      have e5 := HN.out.trans (congrArg Prod.fst (at_over hat))
      simp only at e5
      have HF := Lib.hid hin.out.2.2.1
      have z1 : ¬ (((n + 1 : Nat) : Int)) ≤ (n : Int) := by omega
      have HE5 := Lib.hid (e5.trans hl)
      clear hin hat e5
      go_wp2_with fail
      go_ret
      exact ⟨by rw [HE5.out]; rfl, HF.out⟩
end Go.Proofs.Ytjihnagoebhinaa
