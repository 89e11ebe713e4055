/- Contract: the program's Loosen of whatever bytes. It proves no statement. -/
import Derived.Test.YtcbolakhdndffaaLzBackC
import Derived.Great.Walk
import Derived.Test.YtcbolakhdndffaaAllocArr
namespace Go.Proofs.Ytcbolakhdndffaa
open Go.RowKit
set_option linter.unusedVariables false
set_option linter.unusedSimpArgs false

theorem tl_literals {w : World} {lo h g most : Nat} {t l : List UInt8} (T : Tl w lo h g most t l 0) (n : Nat) (hn : n ≤ 15) (hl : l.length ≤ 1048576) :
    Calls Try.prog 52 #[.pointer (some ⟨h, 0, none⟩), .int .i64 n] w fun e w' => e = .returned (.int .i64 (litS most n l t).1) ∧ Below lo w w' ∧ ((litS most n l t).1 = 0 → Tl w' lo h g most (litS most n l t).2.2 (litS most n l t).2.1 0) := by
  have low := T.low
  have hlt := T.lt
  cases e : numR n l with
  | none =>
    have e1 : litS most n l t = (3, l, t) := by unfold litS; rw [e]
    rw [e1]
    refine (tl_lit_no T n hn (Lib.hid fun m => (number_any (T.drew m) n (by omega) hl).mono ?_)).mono ?_
    · rintro e' w' ⟨y, l', x', he, t', s', hc, _⟩
      rcases hc with ⟨_, hc⟩ | ⟨hx, _⟩
      · rw [e] at hc; cases hc
      · exact ⟨y, l', x', he, t', Below.trans ((still_drewN (Still.refl w) m).mono (by omega)) s', .inl hx⟩
    · rintro e' w' ⟨he, s'⟩
      exact ⟨he, s', fun h => by cases h⟩
  | some q =>
    obtain ⟨a, l1⟩ := q
    have hb := numR_len e
    by_cases hs : l1.length < a
    · have e1 : litS most n l t = (3, l, t) := by unfold litS; rw [e]; simp only; rw [if_pos hs]
      rw [e1]
      refine (tl_lit_no T n hn (Lib.hid fun m => (number_any (T.drew m) n (by omega) hl).mono ?_)).mono ?_
      · rintro e' w' ⟨y, l', x', he, t', s', hc, _⟩
        rcases hc with ⟨hx, hc⟩ | ⟨hx, hc⟩
        · rw [e] at hc
          simp only [Option.some.injEq, Prod.mk.injEq] at hc
          obtain ⟨rfl, rfl⟩ := hc
          exact ⟨a, l1, x', he, t', Below.trans ((still_drewN (Still.refl w) m).mono (by omega)) s', .inr ⟨hx, hs⟩⟩
        · rw [e] at hc; cases hc
      · rintro e' w' ⟨he, s'⟩
        exact ⟨he, s', fun h => by cases h⟩
    · refine (tl_lit_yes T n a l1 hn (by omega) (by omega) (Lib.hid fun m => (number_any (T.drew m) n (by omega) hl).mono ?_)).mono ?_
      · rintro e' w' ⟨y, l', x', he, t', s', hc, _⟩
        rcases hc with ⟨hx, hc⟩ | ⟨hx, hc⟩
        · rw [e] at hc
          simp only [Option.some.injEq, Prod.mk.injEq] at hc
          obtain ⟨rfl, rfl⟩ := hc
          subst hx
          exact ⟨he, t', Below.trans ((still_drewN (Still.refl w) m).mono (by omega)) s'⟩
        · rw [e] at hc; cases hc
      · rintro e' w' ⟨he, s', t'⟩
        by_cases hr : most < t.length + a
        · have e1 : litS most n l t = (5, l, t) := by unfold litS; rw [e]; simp only; rw [if_neg hs, if_pos hr]
          rw [if_pos hr] at he
          rw [e1]
          exact ⟨he, s', fun h => by cases h⟩
        · have e1 : litS most n l t = (0, l1.drop a, t ++ l1.take a) := by unfold litS; rw [e]; simp only; rw [if_neg hs, if_neg hr]
          rw [if_neg hr] at he
          rw [e1]
          exact ⟨he, s', fun _ => t' hr⟩
/-- Where nothing could be read. -/
theorem tl_literals0 {w : World} {lo h g most : Nat} {t l : List UInt8} (T : Tl w lo h g most t l 3) :
    Calls Try.prog 52 #[.pointer (some ⟨h, 0, none⟩), .int .i64 0] w fun e w' => e = .returned (.int .i64 3) ∧ Below lo w w' := by
  have hlt := T.lt
  have low := T.low
  have N0 : ∀ (W : World), Calls Try.prog 55 #[.pointer (some ⟨h, 0, none⟩), .int .i64 0] W fun e w' => e = .returned (.int .i64 0) ∧ w' = W := by
    intro W
    go_enter Try.func55, Try.ntmps55
    go_wp2_with fail
    go_ret
    exact ⟨rfl, rfl⟩
  refine tl_lit_no T 0 (by omega) (Lib.hid fun m => (N0 _).mono ?_)
  rintro e w' ⟨he, rfl⟩
  exact ⟨0, l, 3, he, T.drew m, (still_drewN (Still.refl w) m).mono (by omega), .inl rfl⟩

set_option maxRecDepth 100000 in
set_option maxHeartbeats 1600000 in
theorem tl_sequence {w : World} {lo h g most : Nat} {t l : List UInt8} (T : Tl w lo h g most t l 0) (hl : l.length ≤ 1048576) :
    Calls Try.prog 49 #[.pointer (some ⟨h, 0, none⟩)] w fun e w' => e = .returned (.tuple #[.bool (seqS most l t).2.1, .int .i64 (seqS most l t).1]) ∧ Below lo w w' ∧ ((seqS most l t).1 = 0 → Tl w' lo h g most (seqS most l t).2.2.2 (seqS most l t).2.2.1 0) := by
  have c0 := T.c0
  rcases l with _ | ⟨k, l1⟩
  · have e : seqS most [] t = (3, false, [], t) := rfl
    rw [e]
    have NM := Lib.hid (tl_num T 1 (by omega) (by omega) 0 (by simp))
    rw [show ((1 : Nat) : Int) = 1 from rfl, show ((0 : Nat) : Int) = 0 from rfl] at NM
    clear e T
    go_enter Try.func49, Try.ntmps49
    go_wp2_with fail
    refine NM.out.mono ?_
    rintro e w2 ⟨rfl, s2, t2, _⟩
    have T2 := Lib.hid (t2 (by simp))
    have S2 := Lib.hid s2
    clear t2 s2 NM
    go_wp2_with fail
    refine (tl_literals0 T2.out).mono ?_
    rintro e w3 ⟨rfl, s3⟩
    have S3 := Lib.hid s3
    clear s3
    go_wp2_with fail
    go_ret2
    exact ⟨rfl, Below.trans S2.out S3.out, fun h => by cases h⟩
  · have NM := Lib.hid (tl_num T 1 (by omega) (by omega) k.toNat (by simp [leNum]))
    rw [show ((1 : Nat) : Int) = 1 from rfl] at NM
    have hk := k.toNat_lt
    obtain ⟨y, hy⟩ : ∃ y, y = k.toNat := ⟨_, rfl⟩
    rw [← hy] at NM hk
    have HY := Lib.hid hy
    have a1 : IntKind.i64.wrap ((y : Int) / 16) = ((y / 16 : Nat) : Int) := by rw [IntKind.wrap_i64]; omega
    clear T hy
    go_enter Try.func49, Try.ntmps49
    go_wp2_with fail
    refine NM.out.mono ?_
    rintro e w2 ⟨rfl, s2, _, t2⟩
    have T2 := Lib.hid (t2 (by simp))
    have S2 := Lib.hid s2
    clear t2 s2 NM
    have HSQ := Lib.hid (show seqS most (k :: l1) t = if (litS most (y / 16) l1 t).1 ≠ 0 then ((litS most (y / 16) l1 t).1, false, k :: l1, t) else if (litS most (y / 16) l1 t).2.1 = [] then (0, true, [], (litS most (y / 16) l1 t).2.2) else ((backS most (y % 16) (litS most (y / 16) l1 t).2.1 (litS most (y / 16) l1 t).2.2).1, false, (backS most (y % 16) (litS most (y / 16) l1 t).2.1 (litS most (y / 16) l1 t).2.2).2) by rw [HY.out]; rfl)
    have LT := Lib.hid (tl_literals T2.out (y / 16) (by omega) (by simp at *; omega))
    have HOK := Lib.hid (fun (h : (litS most (y / 16) l1 t).1 = 0) => litS_ok h)
    have hd1 : List.drop 1 (k :: l1) = l1 := rfl
    rw [hd1] at LT
    have hand : bits BinOp.and IntKind.i64 (y : Int) 15 = ((y % 16 : Nat) : Int) := by
      have : ∀ z : Fin 256, bits BinOp.and IntKind.i64 (z.val : Int) 15 = ((z.val % 16 : Nat) : Int) := by decide
      exact this ⟨y, hk⟩
    obtain ⟨q, hq⟩ : ∃ q, q = litS most (y / 16) l1 t := ⟨_, rfl⟩
    rw [← hq] at LT HSQ HOK
    obtain ⟨e1, la, ta⟩ := q
    simp only at LT HSQ HOK
    clear hq hd1
    go_wp2_with fail
    rw [show (y : Int) / 16 = ((y / 16 : Nat) : Int) by omega]
    refine LT.out.mono ?_
    rintro e w3 ⟨rfl, s3, t3⟩
    have S3 := Lib.hid s3
    have T3 := Lib.hid t3
    clear s3 t3 LT a1
    by_cases he1 : e1 = 0
    · subst he1
      have T4 := Lib.hid (T3.out rfl)
      have c3 := T4.out.c0
      have LF := Lib.hid (tl_left T4.out)
      have hla : la.length ≤ 1048576 := by have := (HOK.out rfl).1; simp at *; omega
      clear T3
      by_cases hn : la = []
      · have e2 := HSQ.out
        rw [if_neg (by decide), if_pos hn] at e2
        have E2 := Lib.hid e2
        subst hn
        rw [show (([] : List UInt8).length : Int) = 0 from rfl] at LF
        clear e2 HSQ HOK
        go_wp2_with fail
        refine LF.out.mono ?_
        rintro e w4 ⟨rfl, rfl⟩
        go_wp2_with fail
        go_ret2
        rw [E2.out]
        exact ⟨rfl, Below.trans S2.out S3.out, fun _ => T4.out⟩
      · have e2 := HSQ.out
        rw [if_neg (by decide), if_neg hn] at e2
        have E2 := Lib.hid e2
        have hb : ((la.length : Int) == 0) = false := by
          have : 0 < la.length := List.length_pos_iff.2 hn
          simp; omega
        have BK := Lib.hid (tl_back T4.out (y % 16) (by omega) hla)
        obtain ⟨z, hz⟩ : ∃ z, z = backS most (y % 16) la ta := ⟨_, rfl⟩
        rw [← hz] at BK E2
        obtain ⟨e5, lb, tb⟩ := z
        simp only at BK E2
        generalize la.length = nla at *
        clear e2 HSQ HOK hz hn
        go_wp2_with fail
        refine LF.out.mono ?_
        rintro e w4 ⟨rfl, rfl⟩
        go_wp2_with fail
        (try rw [hand])
        refine BK.out.mono ?_
        rintro e w5 ⟨rfl, s5, t5⟩
        have S5 := Lib.hid s5
        have T5 := Lib.hid t5
        clear s5 t5 BK
        go_wp2_with fail
        go_ret2
        rw [E2.out]
        exact ⟨rfl, Below.trans S2.out (Below.trans S3.out S5.out), fun h => T5.out h⟩
    · have hb : (e1 != 0) = true := by simpa using he1
      have e2 := HSQ.out
      rw [if_pos he1] at e2
      have E2 := Lib.hid e2
      have HE := Lib.hid he1
      clear e2 HSQ HOK he1
      go_wp2_with fail
      go_ret2
      rw [E2.out]
      exact ⟨rfl, Below.trans S2.out S3.out, fun h => absurd h HE.out⟩

theorem seqS_last {most : Nat} {l t : List UInt8} (h : (seqS most l t).2.1 = true) : (seqS most l t).2.2.1 = [] := by
  unfold seqS at h ⊢
  cases l with
  | nil => rfl
  | cons k l1 =>
    simp only at h ⊢
    split
    · rename_i h0
      rw [if_pos h0] at h
      cases h
    · rename_i h0
      rw [if_neg h0] at h
      split
      · rfl
      · rename_i h1
        rw [if_neg h1] at h
        cases h
/-- How much the reader at block g has left. -/
def leftOf (w : World) (g : Nat) : Nat := match w.cell? ⟨g, 0, none⟩ with | some (.slice _ n _) => n | _ => 0
theorem Tl.left {w : World} {lo h g most : Nat} {t l : List UInt8} {x : Int} (T : Tl w lo h g most t l x) : leftOf w g = l.length := by
  obtain ⟨A, n, c, lv⟩ := T.rd
  have c0 : w.cell? ⟨g, 0, none⟩ = some (.slice A n c) := lv.blk.cell 0
  unfold leftOf
  rw [c0, lv.reads.1]
def lastM : Value → Nat | .bool true => 0 | _ => 1
theorem own_lower {w : World} {base base' n : Nat} {v : Value} {xs : List Value} (h : w.ownsRow base 5 1 v n xs) (hb : base' ≤ base) : w.ownsRow base' 5 1 v n xs := by
  refine ⟨h.1, ?_⟩
  rcases h.2 with h0 | ⟨g, c, cur, h1, h2, h3⟩
  · exact .inl h0
  · exact .inr ⟨g, c, cur, h1, Nat.le_trans hb h2, h3⟩
/-- What stands while Loosen goes. -/
structure LoMid (w wr : World) (h g M : Nat) (b : List UInt8) (last : Bool) : Prop where
  ex : ∃ (f : Nat) (l t : List UInt8), Tl wr w.heap.size h g M t l 0 ∧ l.length ≤ 1048576 ∧ ((last = true ∧ loR M (b.length + 1) b [] = (t, 0)) ∨ (last = false ∧ l.length < f ∧ loR M (b.length + 1) b [] = loR M f l t))
  still : Still w wr

set_option maxRecDepth 100000 in
set_option maxHeartbeats 3200000 in
theorem loosen_any (A : Option Addr) (n c : Nat) (b : List UInt8) (most : Int) (w : World) (B : Nat) (hr : Reads w B A n b) (hB : B ≤ w.heap.size) (hn : n ≤ 1048576) (hA : A = none → n = 0 ∧ c = 0) :
    Calls Try.prog 34 #[.slice A n c, .int .i64 most] w fun e w' => (∃ v, e = .returned (.tuple #[v, .int .i64 (looseR b most).2]) ∧ w'.ownsRow w.heap.size 5 1 v (looseR b most).1.length (bytesV (looseR b most).1)) ∧ Still w w' := by
  by_cases hbad : most < 0 ∨ 65536 < most
  · have e : looseR b most = ([], 2) := by unfold looseR; rw [if_pos hbad]
    rw [e]
    have key : most < 0 ∨ (¬ most < 0 ∧ 65536 < most) := by omega
    clear hr e hbad
    rcases key with k1 | ⟨k1, k2⟩
    all_goals
      go_enter Try.func34, Try.ntmps34
      go_wp2_with fail
      go_ret2
      exact ⟨⟨_, rfl, World.ownsRow_nil _ _ _ _⟩, Still.refl _⟩
  · obtain ⟨M, rfl⟩ := Int.eq_ofNat_of_zero_le (show 0 ≤ most by omega)
    have e : looseR b (M : Int) = loR M (b.length + 1) b [] := by unfold looseR; rw [if_neg hbad]; rfl
    rw [e]
    have OP := Lib.hid (open_any A n c b w B hr hB (by omega) hA)
    have HL := Lib.hid hr.1
    have k1 : ¬ ((M : Int) < 0) := by omega
    have k2 : ¬ (65536 < (M : Int)) := by omega
    clear hr e hbad hA
    go_enter Try.func34, Try.ntmps34
    go_wp2_with fail
    refine OP.out.mono ?_
    rintro e w1 ⟨⟨g, A1, c1, rfl, lv⟩, s1⟩
    have LV := Lib.hid lv
    have S1 := Lib.hid s1
    clear lv s1 OP
    go_wp2_with fail
    obtain ⟨h, hh⟩ : ∃ h, h = w1.heap.size := ⟨_, rfl⟩
    obtain ⟨w2, hw2⟩ : ∃ w2, w2 = w1.alloc (.cells #[.pointer (some ⟨g, 0, none⟩), .slice none 0 0, .int .i64 M] 74) := ⟨_, rfl⟩
    have MID0 := Lib.hid (show LoMid w w2 h g M b false from
      { ex := ⟨b.length + 1, b, [], { low := by rw [hh]; exact S1.out.size, ex := ⟨none, 0, by rw [hw2, hh]; exact Blk.new _ _ _, World.ownsRow_nil _ _ _ _⟩, rd := ⟨A1, n, c1, by rw [hh, hw2]; exact LV.out.below ((Below.refl _ _).alloc (Nat.le_refl _) _)⟩, fit := ⟨by simp, by omega⟩ }, by have := HL.out; omega, .inr ⟨rfl, by omega, rfl⟩⟩
        still := by rw [hw2]; exact S1.out.alloc S1.out.size _ })
    rw [← hw2, ← hh]
    clear hw2 hh LV S1 k1 k2
    go_loopw [7] (fun lx wr => ∃ last : Bool, lx = .bool last ∧ Hid (LoMid w wr h g M b last)) (fun lx wr => leftOf wr g + lastM lx)
    case atStart => exact ⟨false, rfl, MID0.out⟩
    case round =>
      obtain ⟨last, rfl, hm⟩ := hrel
      cases last with
      | true =>
        obtain ⟨f, l, t, T, hl, hc⟩ := hm.out.ex
        have hans : loR M (b.length + 1) b [] = (t, 0) := by rcases hc with ⟨_, h⟩ | ⟨h, _⟩; exact h; cases h
        obtain ⟨A3, c3, hb, ho⟩ := T.ex
        have q1 : wr.cell? ⟨h, 1, none⟩ = some (.slice A3 t.length c3) := hb.cell 1
        have HO := Lib.hid (own_lower ho (Nat.le_trans T.low (Nat.le_succ h)))
        have HS := Lib.hid hm.out.still
        have HA := Lib.hid hans
        obtain ⟨k, hk⟩ : ∃ k, k = t.length := ⟨_, rfl⟩
        rw [← hk] at q1
        have HK := Lib.hid hk
        clear T hc hans hb ho hm hk
        go_wp2_with fail
        go_ret2
        rw [HA.out]
        exact ⟨⟨_, rfl, by rw [HK.out]; exact HO.out⟩, HS.out⟩
      | false =>
        obtain ⟨f, l, t, T, hl, hc⟩ := hm.out.ex
        have hans : l.length < f ∧ loR M (b.length + 1) b [] = loR M f l t := by rcases hc with ⟨h, _⟩ | ⟨_, h⟩; cases h; exact h
        have SQ := Lib.hid (tl_sequence T hl)
        have HOK := Lib.hid (fun (h : (seqS M l t).1 = 0) => seqS_ok h)
        have HLS := Lib.hid (fun (h : (seqS M l t).2.1 = true) => seqS_last h)
        have LFT := Lib.hid T.left
        have LOW := Lib.hid (And.intro T.low T.lt)
        have HAN := Lib.hid (show ∃ f', f = f' + 1 ∧ loR M (b.length + 1) b [] = if (seqS M l t).1 ≠ 0 then ([], (seqS M l t).1) else if (seqS M l t).2.1 = true then ((seqS M l t).2.2.2, 0) else loR M f' (seqS M l t).2.2.1 (seqS M l t).2.2.2 by
          obtain ⟨h1, h2⟩ := hans
          obtain ⟨f', rfl⟩ : ∃ f', f = f' + 1 := ⟨f - 1, by omega⟩
          exact ⟨f', rfl, h2⟩)
        have HLF := Lib.hid hans.1
        have HS := Lib.hid hm.out.still
        have HL2 := Lib.hid hl
        obtain ⟨q, hq⟩ : ∃ q, q = seqS M l t := ⟨_, rfl⟩
        rw [← hq] at SQ HOK HAN HLS
        obtain ⟨e1, la, l2, t2⟩ := q
        simp only at SQ HOK HAN HLS
        clear T hc hans hm hq hl
        go_wp2_with fail
        refine SQ.out.mono ?_
        rintro e w3 ⟨rfl, s3, t3⟩
        have S3 := Lib.hid (show Still w w3 from Below.trans HS.out s3)
        have T3 := Lib.hid t3
        clear s3 t3 SQ
        by_cases he : e1 = 0
        · subst he
          have T4 := Lib.hid (T3.out rfl)
          obtain ⟨f', hf', han⟩ := HAN.out
          rw [if_neg (by decide)] at han
          have LF4 := Lib.hid T4.out.left
          have HF := Lib.hid hf'
          have hok := HOK.out rfl
          have HOK2 := Lib.hid (hok.1 : (la = false → l2.length < l.length))
          cases la with
          | true =>
            rw [if_pos rfl] at han
            have hnil := HLS.out rfl
            subst hnil
            have M4 := Lib.hid (show LoMid w w3 h g M b true from { ex := ⟨0, [], t2, T4.out, by simp, .inl ⟨rfl, han⟩⟩, still := S3.out })
            clear han hok hf' HOK HAN T3 HOK2
            go_wp2_with fail
            go_roundw
            case rel => exact ⟨true, rfl, M4.out⟩
            case measure => rw [LF4.out, LFT.out]; simp [lastM]
          | false =>
            rw [if_neg (by decide)] at han
            have HLT2 := Lib.hid (hok.1 rfl)
            have M4 := Lib.hid (show LoMid w w3 h g M b false from { ex := ⟨f', l2, t2, T4.out, by have := hok.1 rfl; have := HL2.out; omega, .inr ⟨rfl, by have := hok.1 rfl; have := HLF.out; omega, han⟩⟩, still := S3.out })
            clear han hok hf' HOK HAN T3 HOK2
            go_wp2_with fail
            go_roundw
            case rel => exact ⟨false, rfl, M4.out⟩
            case measure => rw [LF4.out, LFT.out]; have := HLT2.out; simp [lastM]; omega
        · have hb : (e1 != 0) = true := by simpa using he
          obtain ⟨f', hf', han⟩ := HAN.out
          rw [if_pos he] at han
          have HA := Lib.hid han
          clear han hf' he HAN HOK T3
          go_wp2_with fail
          go_ret2
          rw [HA.out]
          exact ⟨⟨_, rfl, World.ownsRow_nil _ _ _ _⟩, S3.out⟩
end Go.Proofs.Ytcbolakhdndffaa
