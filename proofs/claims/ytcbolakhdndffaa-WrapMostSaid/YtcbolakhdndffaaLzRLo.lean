/- Contract: the document's own Loosen of whatever bytes. It proves no statement. -/
import Derived.Test.YtcbolakhdndffaaLzExt
import Derived.Test.YtcbolakhdndffaaLzBackL
import Derived.Deep.QuietTactic
import Derived.BigQuiet
namespace Go.Proofs.Ytcbolakhdndffaa
open Go.RowKit
set_option linter.unusedVariables false
set_option linter.unusedSimpArgs false

theorem loR_nil (M f : Nat) (t : List UInt8) : loR M (f + 1) [] t = ([], 3) := rfl
theorem loR_lit {M f : Nat} {k : UInt8} {l t : List UInt8} {e : Int} (h : (litS M (k.toNat / 16) l t).1 = e) (he : e ≠ 0) : loR M (f + 1) (k :: l) t = ([], e) := by
  rw [loR]
  unfold seqS
  simp only
  rw [h, if_pos he]
  simp only
  rw [if_pos he]
theorem loR_end {M f : Nat} {k : UInt8} {l t t1 : List UInt8} (h : litS M (k.toNat / 16) l t = (0, [], t1)) : loR M (f + 1) (k :: l) t = (t1, 0) := by
  rw [loR]
  unfold seqS
  simp only
  rw [h]
  simp
theorem loR_back {M f : Nat} {k : UInt8} {l t l2 t1 : List UInt8} {e : Int} (h : litS M (k.toNat / 16) l t = (0, l2, t1)) (hl : l2 ≠ []) (hb : (backS M (k.toNat % 16) l2 t1).1 = e) (he : e ≠ 0) : loR M (f + 1) (k :: l) t = ([], e) := by
  rw [loR]
  unfold seqS
  simp only
  rw [h]
  simp only [ne_eq, not_true_eq_false, if_false]
  rw [if_neg hl, hb, if_pos he]
theorem loR_on {M f : Nat} {k : UInt8} {l t l2 t1 l3 t2 : List UInt8} (h : litS M (k.toNat / 16) l t = (0, l2, t1)) (hl : l2 ≠ []) (hb : backS M (k.toNat % 16) l2 t1 = (0, l3, t2)) : loR M (f + 1) (k :: l) t = loR M f l3 t2 := by
  rw [loR]
  unfold seqS
  simp only
  rw [h]
  simp only [ne_eq, not_true_eq_false, if_false]
  rw [if_neg hl, hb]
  simp
theorem loR_len (M f : Nat) (l t : List UInt8) : (loR M f l t).1.length ≤ M := by
  induction f generalizing l t with
  | zero => simp [loR]
  | succ f ih =>
    rw [loR]
    split
    · simp
    · rename_i h
      split
      · exact (seqS_ok (Classical.not_not.1 h)).2
      · exact ih _ _
theorem looseR_len (b : List UInt8) (x : Int) : (looseR b x).1.length ≤ 65536 := by
  unfold looseR
  split
  · simp
  · rename_i h
    have := loR_len x.toNat (b.length + 1) b []
    omega
theorem litS_none {M m : Nat} {l t : List UInt8} (h : numR m l = none) : (litS M m l t).1 = 3 := by unfold litS; rw [h]
theorem litS_short {M m a : Nat} {l l1 t : List UInt8} (h : numR m l = some (a, l1)) (h1 : l1.length < a) : (litS M m l t).1 = 3 := by unfold litS; rw [h]; simp only; rw [if_pos h1]
theorem litS_big {M m a : Nat} {l l1 t : List UInt8} (h : numR m l = some (a, l1)) (h1 : ¬ l1.length < a) (h2 : M < t.length + a) : (litS M m l t).1 = 5 := by unfold litS; rw [h]; simp only; rw [if_neg h1, if_pos h2]
theorem litS_yes {M m a : Nat} {l l1 t : List UInt8} (h : numR m l = some (a, l1)) (h1 : ¬ l1.length < a) (h2 : ¬ M < t.length + a) : litS M m l t = (0, l1.drop a, t ++ l1.take a) := by unfold litS; rw [h]; simp only; rw [if_neg h1, if_neg h2]
theorem backS_short {M m : Nat} {l t : List UInt8} (h : l.length < 2) : (backS M m l t).1 = 3 := by unfold backS; rw [if_pos h]
theorem backS_form {M m : Nat} {l t : List UInt8} (h : ¬ l.length < 2) (hd : leNum (l.take 2) = 0 ∨ t.length < leNum (l.take 2)) : (backS M m l t).1 = 4 := by unfold backS; rw [if_neg h, if_pos hd]
theorem backS_num {M m : Nat} {l t : List UInt8} (h : ¬ l.length < 2) (hd : ¬ (leNum (l.take 2) = 0 ∨ t.length < leNum (l.take 2))) : backS M m l t = backT M (leNum (l.take 2)) l t (numR m (l.drop 2)) := by unfold backS; rw [if_neg h, if_neg hd]

/-- What stands while the document's Loosen goes. -/
structure RlMid (w wr : World) (M : Nat) (b t : List UInt8) (a : Nat) (v : Value) : Prop where
  ex : ∃ f, b.length - a < f ∧ loR M (b.length + 1) b [] = loR M f (b.drop a) t
  own : wr.ownsRow w.heap.size 5 1 v t.length (bytesV t)
  still : Still w wr
  fit : t.length ≤ M

set_option maxRecDepth 100000 in
set_option maxHeartbeats 6400000 in
theorem rloosen_any (A : Option Addr) (n c : Nat) (b : List UInt8) (most : Int) (w : World) (B : Nat) (hr : Reads w B A n b) (hB : B ≤ w.heap.size) (hn : n ≤ 1048576) (hc : n ≤ c) (hcm : c ≤ 9223372036854775807) (hA : A = none → n = 0 ∧ c = 0) :
    Calls Try.prog 25 #[.slice A n c, .int .i64 most] w fun e w' => (∃ v, e = .returned (.tuple #[v, .int .i64 (looseR b most).2]) ∧ w'.ownsRow w.heap.size 5 1 v (looseR b most).1.length (bytesV (looseR b most).1)) ∧ Still w w' := by
  by_cases hbad : most < 0 ∨ 65536 < most
  · have e : looseR b most = ([], 2) := by unfold looseR; rw [if_pos hbad]
    rw [e]
    have key : most < 0 ∨ (¬ most < 0 ∧ 65536 < most) := by omega
    clear hr e hbad
    rcases key with k1 | ⟨k1, k2⟩
    all_goals
      go_enter Try.func25, Try.ntmps25
      go_wp2_with fail
      go_ret2
      exact ⟨⟨_, rfl, World.ownsRow_nil _ _ _ _⟩, Still.refl _⟩
  · obtain ⟨M, rfl⟩ := Int.eq_ofNat_of_zero_le (show 0 ≤ most by omega)
    have e : looseR b (M : Int) = loR M (b.length + 1) b [] := by unfold looseR; rw [if_neg hbad]; rfl
    rw [e]
    have HL := Lib.hid hr.1
    have RR := Lib.hid (fun W (s : Still w W) => hr.still hB s)
    have k1 : ¬ ((M : Int) < 0) := by omega
    have k2 : ¬ (65536 < (M : Int)) := by omega
    have M0 := Lib.hid (show RlMid w w M b [] 0 (.slice none 0 0) from { ex := ⟨b.length + 1, by omega, rfl⟩, own := World.ownsRow_nil _ _ _ _, still := Still.refl _, fit := by simp })
    have hM : M ≤ 65536 := by omega
    clear hr e hbad hA
    go_enter Try.func25, Try.ntmps25
    go_wp2_with fail
    go_loopw [6, 7] (fun vx ax wr => ∃ (a : Nat) (t : List UInt8) (T : Nat) (Ao : Option Addr) (co : Nat), vx = .slice Ao T co ∧ ax = .int .i64 a ∧ a ≤ n ∧ T ≤ M ∧ Hid (T = t.length ∧ RlMid w wr M b t a (.slice Ao T co))) (fun _ ax _ => n - (intOf ax).toNat)
    case atStart => exact ⟨0, [], 0, none, 0, rfl, rfl, Nat.zero_le _, Nat.zero_le _, rfl, M0.out⟩
    case round =>
      obtain ⟨a, t, T, Ao, co, rfl, rfl, han, hTM, hh⟩ := hrel
      obtain ⟨hT, hmid⟩ := hh.out
      obtain ⟨f, hf, hans⟩ := hmid.ex
      obtain ⟨f, rfl⟩ : ∃ f', f = f' + 1 := ⟨f - 1, by omega⟩
      have own' := hmid.own
      rw [← hT] at own'
      have OWN := Lib.hid own'
      have ST := Lib.hid hmid.still
      have HT := Lib.hid hT
      have HF := Lib.hid hf
      clear hh hT hmid hf own'
      by_cases hlt : a < n
      · obtain ⟨bb, o, rfl, hb, hcells⟩ := (RR.out wr ST.out).at_ (by omega)
        have RF := Lib.hid (RR.out wr ST.out)
        have q1 := hcells a hlt
        obtain ⟨k, hk⟩ : ∃ k, k = b.getD a 0 := ⟨_, rfl⟩
        rw [← hk] at q1
        have hdrop := getD_drop0 b a (by have := HL.out; omega)
        rw [← hk] at hdrop
        rw [hdrop] at hans
        have hk8 := k.toNat_lt
        obtain ⟨y, hy⟩ : ∃ y, y = k.toNat := ⟨_, rfl⟩
        rw [← hy] at q1 hk8
        have HY := Lib.hid hy
        have HAN := Lib.hid hans
        have EX1 := Lib.hid (extended_any (some ⟨bb, o, none⟩) n c (a + 1) (y / 16) b wr B RF.out hn (by omega) (by omega))
        clear hcells hk hdrop hans hb hy
        go_wp2_with fail
        rw [show (a : Int) + 1 = ((a + 1 : Nat) : Int) by omega, show (y : Int) / 16 = ((y / 16 : Nat) : Int) by omega]
        refine EX1.out.mono ?_
        rintro e w2 ⟨⟨la, z, ok, rfl, hcase⟩, rfl⟩
        clear EX1
        rcases hcase with ⟨rfl, hz, hnum⟩ | ⟨rfl, hnum⟩
        · have hzl : (b.drop z).length = n - z := by rw [List.length_drop, HL.out]
          have hla : la ≤ 1000000000 := by have := (numR_len hnum).2; rw [List.length_drop, HL.out] at this; omega
          by_cases h1 : n - z < la
          · have E1 := Lib.hid (HAN.out.trans (loR_lit (e := 3) (by rw [← HY.out]; exact litS_short hnum (by rw [hzl]; exact h1)) (by decide)))
            have d1 : (n : Int) - (z : Int) < (la : Int) := by omega
            clear hnum HAN h1 hzl
            go_wp2_with fail
            go_ret2
            rw [E1.out]
            exact ⟨⟨_, rfl, World.ownsRow_nil _ _ _ _⟩, ST.out⟩
          · have d1 : ¬ ((n : Int) - (z : Int) < (la : Int)) := by omega
            by_cases h2 : M < T + la
            · have E1 := Lib.hid (HAN.out.trans (loR_lit (e := 5) (by rw [← HY.out]; exact litS_big hnum (by rw [hzl]; exact h1) (by rw [← HT.out]; exact h2)) (by decide)))
              have d2 : (M : Int) - (T : Int) < (la : Int) := by omega
              clear hnum HAN h1 hzl h2
              go_wp2_with fail
              go_ret2
              rw [E1.out]
              exact ⟨⟨_, rfl, World.ownsRow_nil _ _ _ _⟩, ST.out⟩
            · have d2 : ¬ ((M : Int) - (T : Int) < (la : Int)) := by omega
              have LIT := Lib.hid (litS_yes (M := M) (t := t) hnum (by rw [hzl]; exact h1) (by rw [← HT.out]; exact h2))
              rw [List.drop_drop] at LIT
              have key : ∃ A' : Option Addr, Hid (Reads w2 B A' (z + la - z) ((b.drop z).take la) ∧ A' ≠ none) ∧ ((c = z ∧ A' = some ⟨bb, o, none⟩) ∨ (¬ c = z ∧ A' = some ⟨bb, o + z, none⟩)) := by
                rw [show z + la - z = la by omega]
                by_cases hcz : c = z
                · refine ⟨_, ⟨?_, fun e => by cases e⟩, .inl ⟨hcz, rfl⟩⟩
                  rw [show la = 0 by omega]
                  exact ⟨by simp, fun h => by omega⟩
                · refine ⟨_, ⟨?_, fun e => by cases e⟩, .inr ⟨hcz, rfl⟩⟩
                  have h := (RF.out.dropk (k := z) hz).takek (k := la) (by omega)
                  simpa [Addr.add_lit] using h
              obtain ⟨A', RL3, hcz⟩ := key
              have d3 : (z : Int) + (la : Int) ≤ (c : Int) := by omega
              have H12 := Lib.hid (And.intro h1 h2)
              have haz : a < z := by have := (numR_len hnum).1; rw [List.length_drop, List.length_drop, HL.out] at this; omega
              clear hnum hzl h1 h2
              rcases hcz with ⟨hcz, rfl⟩ | ⟨hcz, rfl⟩
              · go_wp2_with (at_builtin; go_must (refine wpList_adds w2 rfl _ _ rfl w.heap.size _ T t rfl OWN.out _ (z + la - z) _ B ((b.drop z).take la) rfl RL3.out.1 (fun e => absurd e RL3.out.2) ?c1 ?c2 ?_))
                case c1 => omega
                case c2 => exact ST.out.size
                intro v3 w3 own3 gr3 _
                have S3 := Lib.hid (ST.out.grown gr3 ST.out.size (fun k hk => (OWN.out.lt k hk).1))
                obtain ⟨t1, ht1⟩ : ∃ t1, t1 = t ++ (b.drop z).take la := ⟨_, rfl⟩
                obtain ⟨N, hN⟩ : ∃ N, N = T + la := ⟨_, rfl⟩
                rw [← hN, ← ht1] at own3
                rw [← ht1] at LIT
                have HT1 := Lib.hid (show N = t1.length by have := own3.1; rw [bytesV_length] at this; omega)
                have hN6 : N ≤ M := by have := H12.out; omega
                obtain ⟨A3, c3, rfl, f1, f2, f3⟩ := own_form own3
                have O3 := Lib.hid own3
                obtain ⟨p, hp⟩ : ∃ p, p = z + la := ⟨_, rfl⟩
                rw [← hp] at LIT
                have hpn : p ≤ n := by have := H12.out; omega
                have hap : p ≤ 2000000000 := by omega
                have e4 : (z : Int) + (la : Int) = (p : Int) := by omega
                have HP := Lib.hid hp
                have RD3 := Lib.hid (RR.out w3 S3.out)
                have HLIT := Lib.hid (And.intro hN ht1)
                clear own3 gr3 RL3 OWN f1 f3 ht1 hN hp d3 d1 d2 RF
                have hend : p = n := by omega
                have hd : b.drop p = [] := List.drop_of_length_le (by have := HL.out; omega)
                have E1 := Lib.hid (HAN.out.trans (loR_end (by rw [← HY.out, LIT.out, hd])))
                have b1 : ((z : Int) + (la : Int) == (n : Int)) = true := by simp; omega
                clear hd
                go_wp2_with fail
                go_ret2
                rw [E1.out]
                exact ⟨⟨_, rfl, by rw [← HT1.out]; exact O3.out⟩, S3.out⟩

              · go_wp2_with (at_builtin; go_must (refine wpList_adds w2 rfl _ _ rfl w.heap.size _ T t rfl OWN.out _ (z + la - z) _ B ((b.drop z).take la) rfl RL3.out.1 (fun e => absurd e RL3.out.2) ?c1 ?c2 ?_))
                case c1 => omega
                case c2 => exact ST.out.size
                intro v3 w3 own3 gr3 _
                have S3 := Lib.hid (ST.out.grown gr3 ST.out.size (fun k hk => (OWN.out.lt k hk).1))
                obtain ⟨t1, ht1⟩ : ∃ t1, t1 = t ++ (b.drop z).take la := ⟨_, rfl⟩
                obtain ⟨N, hN⟩ : ∃ N, N = T + la := ⟨_, rfl⟩
                rw [← hN, ← ht1] at own3
                rw [← ht1] at LIT
                have HT1 := Lib.hid (show N = t1.length by have := own3.1; rw [bytesV_length] at this; omega)
                have hN6 : N ≤ M := by have := H12.out; omega
                obtain ⟨A3, c3, rfl, f1, f2, f3⟩ := own_form own3
                have O3 := Lib.hid own3
                obtain ⟨p, hp⟩ : ∃ p, p = z + la := ⟨_, rfl⟩
                rw [← hp] at LIT
                have hpn : p ≤ n := by have := H12.out; omega
                have hap : p ≤ 2000000000 := by omega
                have e4 : (z : Int) + (la : Int) = (p : Int) := by omega
                have HP := Lib.hid hp
                have RD3 := Lib.hid (RR.out w3 S3.out)
                have HLIT := Lib.hid (And.intro hN ht1)
                clear own3 gr3 RL3 OWN f1 f3 ht1 hN hp d3 d1 d2 RF
                by_cases hend : p = n
                · have hd : b.drop p = [] := List.drop_of_length_le (by have := HL.out; omega)
                  have E1 := Lib.hid (HAN.out.trans (loR_end (by rw [← HY.out, LIT.out, hd])))
                  have b1 : ((z : Int) + (la : Int) == (n : Int)) = true := by simp; omega
                  clear hd
                  go_wp2_with fail
                  go_ret2
                  rw [E1.out]
                  exact ⟨⟨_, rfl, by rw [← HT1.out]; exact O3.out⟩, S3.out⟩
                · have hne : b.drop p ≠ [] := by
                    intro e
                    have := congrArg List.length e
                    rw [List.length_drop, HL.out] at this
                    simp at this
                    omega
                  have b1 : ((z : Int) + (la : Int) == (n : Int)) = false := by simp; omega
                  have hlp : (b.drop p).length = n - p := by rw [List.length_drop, HL.out]
                  by_cases hsh : n - p < 2
                  · have E1 := Lib.hid (HAN.out.trans (loR_back (e := 3) (by rw [← HY.out, LIT.out]) hne (backS_short (by rw [hlp]; exact hsh)) (by decide)))
                    have d4 : (n : Int) - ((z : Int) + (la : Int)) < 2 := by omega
                    clear hne hlp
                    go_wp2_with fail
                    go_ret2
                    rw [E1.out]
                    exact ⟨⟨_, rfl, World.ownsRow_nil _ _ _ _⟩, S3.out⟩
                  · have d4 : ¬ ((n : Int) - ((z : Int) + (la : Int)) < 2) := by omega
                    have hp0 : p < n := by omega
                    have hp1 : p + 1 < n := by omega
                    have r1 := RD3.out.cellAt p hp0
                    have r2 := RD3.out.cellAt (p + 1) hp1
                    obtain ⟨x1, hx1⟩ : ∃ x1, x1 = b.getD p 0 := ⟨_, rfl⟩
                    obtain ⟨x2, hx2⟩ : ∃ x2, x2 = b.getD (p + 1) 0 := ⟨_, rfl⟩
                    rw [← hx1] at r1
                    rw [← hx2] at r2
                    have hdp : b.drop p = x1 :: x2 :: b.drop (p + 2) := by
                      rw [getD_drop0 b p (by have := HL.out; omega), getD_drop0 b (p + 1) (by have := HL.out; omega), ← hx1, ← hx2]
                    have hln : leNum ((b.drop p).take 2) = x1.toNat + 256 * x2.toNat := by rw [hdp]; simp [leNum]
                    have u1 := x1.toNat_lt
                    have u2 := x2.toNat_lt
                    obtain ⟨y1, hy1⟩ : ∃ y1, y1 = x1.toNat := ⟨_, rfl⟩
                    obtain ⟨y2, hy2⟩ : ∃ y2, y2 = x2.toNat := ⟨_, rfl⟩
                    rw [← hy1] at r1 u1 hln
                    rw [← hy2] at r2 u2 hln
                    obtain ⟨d, hd⟩ : ∃ d, d = y1 + 256 * y2 := ⟨_, rfl⟩
                    rw [← hd] at hln
                    have HLN := Lib.hid (And.intro hln (And.intro hne hlp))
                    have w9 : IntKind.i64.wrap ((z : Int) + (la : Int)) = (p : Int) := by rw [IntKind.wrap_i64]; omega
                    have w10 : IntKind.i64.wrap ((p : Int) + 1) = ((p + 1 : Nat) : Int) := by rw [IntKind.wrap_i64]; omega
                    have w11 : IntKind.i64.wrap (256 * (y2 : Int)) = 256 * (y2 : Int) := by rw [IntKind.wrap_i64]; omega
                    have w12 : IntKind.i64.wrap ((y1 : Int) + 256 * (y2 : Int)) = (d : Int) := by rw [IntKind.wrap_i64]; omega
                    have z1 : (p : Int) < (n : Int) := by omega
                    have z2 : ((p + 1 : Nat) : Int) < (n : Int) := by omega
                    have HD := Lib.hid (And.intro hd (And.intro u1 u2))
                    clear hx1 hx2 hy1 hy2 hln hne hlp hdp hd
                    go_wp2_with fail
                    go_quiet (fail)
                    have S4 := Lib.hid (still_drewN S3.out nq)
                    have O4 := Lib.hid (own_still O3.out (still_drewN (Still.refl w3) nq))
                    generalize w3.drewN nq = w4 at *
                    clear r1 r2 w9 w10 w11 w12 z1 z2 u1 u2 b1 d4 e4 RD3 O3
                    have RD4 := Lib.hid (RR.out w4 S4.out)
                    have hdl := HD.out
                    have hd6 : d < 65536 := by omega
                    by_cases hbad : d = 0 ∨ N < d
                    · have E1 := Lib.hid (HAN.out.trans (loR_back (e := 4) (by rw [← HY.out, LIT.out]) HLN.out.2.1 (backS_form (by rw [HLN.out.2.2]; exact hsh) (by rw [HLN.out.1, ← HT1.out]; exact hbad)) (by decide)))
                      have key : d = 0 ∨ (((d : Int) == 0) = false ∧ (N : Int) < (d : Int)) := by
                        by_cases h : d = 0
                        · exact .inl h
                        · exact .inr ⟨by simp; omega, by omega⟩
                      clear hbad hdl
                      rcases key with rfl | ⟨k3, k4⟩
                      all_goals
                        go_wp2_with fail
                        go_ret2
                        rw [E1.out]
                        exact ⟨⟨_, rfl, World.ownsRow_nil _ _ _ _⟩, S4.out⟩
                    · have k3 : ((d : Int) == 0) = false := by simp; omega
                      have k4 : ¬ ((N : Int) < (d : Int)) := by omega
                      have HBN := Lib.hid (backS_num (M := M) (m := y % 16) (by rw [HLN.out.2.2]; exact hsh) (by rw [HLN.out.1, ← HT1.out]; exact hbad))
                      rw [HLN.out.1, List.drop_drop] at HBN
                      have hdN : 1 ≤ d ∧ d ≤ N := by omega
                      have EX2 := Lib.hid (extended_any (some ⟨bb, o, none⟩) n c (p + 2) (y % 16) b w4 B RD4.out hn (by omega) (by omega))
                      clear hbad hdl
                      go_wp2_with fail
                      rw [show (p : Int) + 2 = ((p + 2 : Nat) : Int) by omega, show (y : Int) % 16 = ((y % 16 : Nat) : Int) by omega]
                      refine EX2.out.mono ?_
                      rintro e w5 ⟨⟨m, q, ok, rfl, hcase⟩, rfl⟩
                      clear EX2
                      rcases hcase with ⟨rfl, hq, hnum⟩ | ⟨rfl, hnum⟩
                      · have hml := numR_len hnum
                        rw [List.length_drop, List.length_drop, HL.out] at hml
                        have hm9 : m ≤ 1000000000 := by omega
                        have hpq : p < q := by omega
                        rw [hnum] at HBN
                        by_cases h5 : M < N + (m + 4)
                        · have E1 := Lib.hid (HAN.out.trans (loR_back (e := 5) (by rw [← HY.out, LIT.out]) HLN.out.2.1 (by rw [← HY.out, HBN.out]; unfold backT; simp only; rw [if_pos (by rw [← HT1.out]; exact h5)]) (by decide)))
                          have d5 : (M : Int) - (N : Int) < (m : Int) + 4 := by omega
                          clear hnum hml h5
                          go_wp2_with fail
                          go_ret2
                          rw [E1.out]
                          exact ⟨⟨_, rfl, World.ownsRow_nil _ _ _ _⟩, S4.out⟩
                        · have E1 := Lib.hid (HAN.out.trans (loR_on (l3 := b.drop q) (t2 := backL d (m + 4) t1) (by rw [← HY.out, LIT.out]) HLN.out.2.1 (by rw [← HY.out, HBN.out]; unfold backT; simp only; rw [if_neg (by rw [← HT1.out]; exact h5)])))
                          have d5 : ¬ ((M : Int) - (N : Int) < (m : Int) + 4) := by omega
                          have H5 := Lib.hid h5
                          clear hnum hml h5 HBN HAN LIT
                          go_wp2_with fail
                          go_loopw [6, 16] (fun vx jx wr' => ∃ (j Tj cj : Nat) (Aj : Option Addr), vx = .slice Aj Tj cj ∧ jx = .int .i64 j ∧ j ≤ m + 4 ∧ Tj = N + j ∧ Hid (wr'.ownsRow w.heap.size 5 1 (.slice Aj Tj cj) Tj (bytesV (backL d j t1)) ∧ Still w wr')) (fun _ jx _ => m + 4 - (intOf jx).toNat)
                          case atStart => exact ⟨0, N, _, _, rfl, rfl, Nat.zero_le _, rfl, O4.out, S4.out⟩
                          case round =>
                            obtain ⟨j, Tj, cj, Aj, rfl, rfl, hj, hTj, hjj⟩ := hrel
                            by_cases hjl : j < m + 4
                            · obtain ⟨oj, sj⟩ := hjj.out
                              obtain ⟨L, hL⟩ : ∃ L, L = backL d j t1 := ⟨_, rfl⟩
                              have hsucc := backL_next d j t1
                              rw [← hL] at oj hsucc
                              have hlen : L.length = Tj := by have := oj.1; rw [bytesV_length] at this; omega
                              obtain ⟨pj, hpj⟩ : ∃ pj, pj = Tj - d := ⟨_, rfl⟩
                              rw [hlen, ← hpj] at hsucc
                              obtain ⟨bj, oj0, rfl, hbj, hcj⟩ := (Reads.of_own oj).at_ (by omega)
                              have r5 := hcj pj (by omega)
                              obtain ⟨x5, hx5⟩ : ∃ x5, x5 = L.getD pj 0 := ⟨_, rfl⟩
                              rw [← hx5] at r5 hsucc
                              have OJ := Lib.hid oj
                              have SJ := Lib.hid sj
                              have HSU := Lib.hid hsucc
                              have w9 : IntKind.i64.wrap ((Tj : Int) - (d : Int)) = (pj : Int) := by rw [IntKind.wrap_i64]; omega
                              have z1 : (pj : Int) < (Tj : Int) := by omega
                              have d6 : (j : Int) < (m : Int) + 4 := by omega
                              have HTJ := Lib.hid (And.intro hTj hpj)
                              have hT9 : Tj < 140737488355328 := by omega
                              have i2 : (Tj : Int) - (d : Int) = (pj : Int) := by omega
                              have Z5 := Lib.hid (show w.heap.size ≤ wr.heap.size from sj.size)
                              clear oj sj hsucc hjj hL hlen hpj hcj hbj hx5 hTj
                              go_wp2_with (at_builtin; go_must (refine wpList_push wr rfl _ _ rfl w.heap.size (.slice (some ⟨bj, oj0, none⟩) Tj cj) Tj L rfl OJ.out _ x5 rfl rfl ?c1 ?c2 ?_))
                              case c1 => exact hT9
                              case c2 => exact Z5.out
                              intro v6 w6 own6 gr6 _
                              obtain ⟨A6, c6, rfl, f1, f2, f3⟩ := own_form own6
                              have O6 := Lib.hid own6
                              have S6 := Lib.hid (SJ.out.grown gr6 Z5.out (fun k hk => (OJ.out.lt k hk).1))
                              clear own6 gr6 f1 f3
                              go_wp2_with fail
                              go_roundw
                              case rel => exact ⟨j + 1, Tj + 1, c6, A6, rfl, by go_num, by omega, by have := HTJ.out.1; omega, by rw [HSU.out]; exact O6.out, S6.out⟩
                              case measure => simp [intOf]; omega
                            · obtain rfl : j = m + 4 := by omega
                              have d6 : ¬ (((m + 4 : Nat) : Int) < (m : Int) + 4) := by omega
                              obtain ⟨oj, sj⟩ := hjj.out
                              have MID := Lib.hid (show Tj = (backL d (m + 4) t1).length ∧ RlMid w wr M b (backL d (m + 4) t1) q (.slice Aj Tj cj) by
                                have hlen : (backL d (m + 4) t1).length = Tj := by have := oj.1; rw [bytesV_length] at this; omega
                                exact ⟨hlen.symm, { ex := ⟨f, by have := HF.out; have := HL.out; have := HP.out; omega, E1.out⟩, own := by rw [hlen]; exact oj, still := sj, fit := by rw [hlen]; have := H5.out; omega }⟩)
                              have HTM := Lib.hid (show Tj ≤ M by have := H5.out; omega)
                              clear oj sj hjj
                              go_wp2_with fail
                              go_roundw
                              case rel => exact ⟨q, backL d (m + 4) t1, Tj, Aj, cj, rfl, rfl, hq, HTM.out, MID.out⟩
                              case measure => have := HP.out; simp [intOf]; omega
                      · have E1 := Lib.hid (HAN.out.trans (loR_back (e := 3) (by rw [← HY.out, LIT.out]) HLN.out.2.1 (by rw [← HY.out, HBN.out, hnum]; rfl) (by decide)))
                        clear hnum
                        go_wp2_with fail
                        go_ret2
                        rw [E1.out]
                        exact ⟨⟨_, rfl, World.ownsRow_nil _ _ _ _⟩, S4.out⟩
        · have E1 := Lib.hid (HAN.out.trans (loR_lit (e := 3) (by rw [← HY.out]; exact litS_none hnum) (by decide)))
          clear hnum HAN
          go_wp2_with fail
          go_ret2
          rw [E1.out]
          exact ⟨⟨_, rfl, World.ownsRow_nil _ _ _ _⟩, ST.out⟩
      · obtain rfl : a = n := by omega
        have hd : b.drop a = [] := List.drop_of_length_le (by have := HL.out; omega)
        rw [hd, loR_nil] at hans
        have E1 := Lib.hid hans
        clear hd hans
        go_wp2_with fail
        go_ret2
        rw [E1.out]
        exact ⟨⟨_, rfl, World.ownsRow_nil _ _ _ _⟩, ST.out⟩
end Go.Proofs.Ytcbolakhdndffaa
