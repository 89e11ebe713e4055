/- Contract: the document's own Squeeze of whatever bytes. It proves no statement. -/
import Derived.Test.YtcbolakhdndffaaLzSq
import Derived.Test.YtcbolakhdndffaaLzRSeq
import Derived.Test.YtcbolakhdndffaaSameAny
import Derived.Test.YtcbolakhdndffaaLzAlk
namespace Go.Proofs.Ytcbolakhdndffaa
open Go.RowKit
set_option linter.unusedVariables false
set_option linter.unusedSimpArgs false

set_option maxRecDepth 100000 in
set_option maxHeartbeats 6400000 in
theorem rsqueeze_any (A : Option Addr) (n c : Nat) (b : List UInt8) (w : World) (B : Nat) (hr : Reads w B A n b) (hB : B ≤ w.heap.size) (hn : n ≤ 1048576) (hc : n ≤ c) (hcm : c ≤ 9223372036854775807) (hA : A = none → n = 0 ∧ c = 0) :
    Calls Try.prog 21 #[.slice A n c] w fun e w' => (∃ v, e = .returned (.tuple #[v, .int .i64 (sqE b)]) ∧ w'.ownsRow w.heap.size 5 1 v (sqB b).length (bytesV (sqB b))) ∧ Still w w' := by
  have hlen := hr.1
  by_cases hbig : 65536 < n
  · have e1 : sqE b = 5 := by unfold sqE; rw [if_neg (by omega)]
    have e2 : sqB b = [] := by unfold sqB; rw [if_neg (by omega)]
    rw [e1, e2]
    clear hr e1 e2
    go_enter Try.func21, Try.ntmps21
    go_wp2_with fail
    go_ret2
    exact ⟨⟨_, rfl, World.ownsRow_nil _ _ _ _⟩, Still.refl _⟩
  · have e1 : sqE b = 0 := by unfold sqE; rw [if_pos (by omega)]
    have e2 : sqB b = sqz b := by unfold sqB; rw [if_pos (by omega)]
    rw [e1, e2]
    have RR := Lib.hid (fun W (s : Still w W) => hr.still hB s)
    have FC := Lib.hid (show n ≤ 65536 ∧ n ≤ c ∧ c ≤ 9223372036854775807 ∧ B ≤ w.heap.size ∧ b.length = n from ⟨by omega, hc, hcm, hB, hlen⟩)
    have HA := Lib.hid hA
    obtain ⟨cs, hz, hcs, hc0⟩ := zeroT_is zeroR
    have T0 := Lib.hid (Tab.new (t := 55) w cs hcs hc0)
    obtain ⟨w1, hw1⟩ : ∃ w1, w1 = w.alloc (.cells cs 55) := ⟨_, rfl⟩
    obtain ⟨g, hg⟩ : ∃ g, g = w.heap.size := ⟨_, rfl⟩
    have S1 := Lib.hid (show Still w w1 by rw [hw1]; exact (Still.refl w).alloc (Nat.le_refl _) _)
    rw [← hw1, ← hg] at T0
    have HZ := Lib.hid hz
    have HW1 := Lib.hid hw1
    have HG := Lib.hid hg
    have hn6 : n ≤ 65536 := by omega
    clear hr hz hc0 hcs hw1 hg hA hlen e1 e2 hbig hn
    go_enter Try.func21, Try.ntmps21
    go_wp2_with (guard_target =~ wpList _ _ _ (Oper.mk (some 4) (Op.alloc _) _ _ _ _ :: _) _ _; go_must (refine wpList_alloc_arr rfl 55 rfl (some 4) rfl cs 4096 HZ.out ?_; rw [← HW1.out, ← HG.out]))
    go_loopw [5, 6, 7] (fun vx tx ix wr => ∃ (s : Sq) (lv : Value) (told i : Nat), lv = vx ∧ tx = .int .i64 told ∧ ix = .int .i64 i ∧ i ≤ n ∧ told ≤ i ∧ Hid (told = s.told ∧ i = s.i ∧ SqMid w wr g 55 b s lv)) (fun _ _ ix _ => n - (intOf ix).toNat)
    case atStart => exact ⟨sq0, _, 0, 0, rfl, rfl, rfl, by omega, Nat.le_refl _, rfl, rfl, { goes := Goes.zero b, own := World.ownsRow_nil _ _ _ _, tab := T0.out, still := S1.out, ne := by simp [Value.ownBlock], low := by rw [HG.out]; exact Nat.le_refl _ }⟩
    case round =>
      obtain ⟨s, lv, told, i, hlv, rfl, rfl, hin, hti, hh⟩ := hrel
      subst hlv
      obtain ⟨hs1, hs2, hmid⟩ := hh.out
      have OK := hmid.goes.1
      by_cases hlt : i + 12 ≤ n
      · have hlt4 : i + 4 ≤ n := by omega
        have ST := hmid.still
        have R := RR.out wr ST
        obtain ⟨bb, o, rfl, hb, _⟩ := R.at_ (by omega)
        have rdrop : ∀ k, k ≤ n → Reads wr B (some ⟨bb, o + k, none⟩) (n - k) (b.drop k) := fun k hk => by have h := R.dropk hk; simpa [Addr.add_lit] using h
        have r4 : ∀ k, k + 4 ≤ n → Reads wr B (some ⟨bb, o + k, none⟩) 4 ((b.drop k).take 4) := fun k hk => (rdrop k (by omega)).takek (by omega)
        have HSH := Lib.hid (rhash_any (some ⟨bb, o, none⟩) n c i b wr B R hlt4 FC.out.2.1 FC.out.2.2.1 (by omega))
        have hput := hmid.put
        rw [← hs2] at hput
        obtain ⟨y, hy⟩ : ∃ y, y = s.tab (hsh ((b.drop i).take 4)) := ⟨_, rfl⟩
        have hyc : s.c1 b = y := by rw [hy]; unfold Sq.c1; rw [← hs2]
        have hyi : y ≤ i := by rw [← hyc, hs2]; exact SqOK.c b OK
        have hcl := hmid.tab.cell _ (hsh_lt ((b.drop i).take 4))
        have hfz := hmid.tab.frozen (hsh ((b.drop i).take 4))
        rw [← hy] at hcl
        have hq4 := hsh_lt ((b.drop i).take 4)
        obtain ⟨hx, hhx⟩ : ∃ hx, hx = hsh ((b.drop i).take 4) := ⟨_, rfl⟩
        obtain ⟨w2, hw2⟩ : ∃ w2, w2 = wr.setCell ⟨g, hsh ((b.drop i).take 4), none⟩ (.int .i64 (i + 1 : Nat)) := ⟨_, rfl⟩
        rw [← hw2] at hput
        rw [← hhx] at hw2 hcl hfz HSH hq4
        rw [show ((i + 1 : Nat) : Int) = (i : Int) + 1 by omega] at hw2
        have HW2 := Lib.hid hw2
        obtain ⟨own2, tab2, st2⟩ := hput
        have goes' := hmid.goes.step (by rw [← hs2, FC.out.2.2.2.2]; omega)
        have hne := hmid.ne
        have hlow := hmid.low
        have hne2 : some g ≠ lv.ownBlock := fun e => hne e.symm
        have hhit : s.hit b ↔ (y ≠ 0 ∧ (b.drop (y - 1)).take 4 = (b.drop i).take 4) := by unfold Sq.hit; rw [hyc, ← hs2]
        have OWN2 := Lib.hid own2
        have TAB2 := Lib.hid tab2
        have ST2 := Lib.hid st2
        have GO := Lib.hid goes'
        have NE := Lib.hid hne
        have LOW := Lib.hid hlow
        have HS := Lib.hid (And.intro hs1 hs2)
        have HYC := Lib.hid hyc
        have HIT := Lib.hid hhit
        have OKH := Lib.hid OK
        have RD2 := Lib.hid (fun W (s2 : Still w W) k (hk : k ≤ n) => (show Reads W B (some ⟨bb, o + k, none⟩) (n - k) (b.drop k) by have h := (RR.out W s2).dropk hk; simpa [Addr.add_lit] using h))
        clear own2 tab2 st2 goes' hne hlow hne2 hs1 hs2 hyc hhit OK hmid hh hw2 hy rdrop r4 R hb ST hhx hlt4
        have d1 : (i : Int) ≤ (n : Int) - 12 := by omega
        have d2 : (i : Int) + 4 ≤ (c : Int) := by omega
        go_wp2_with fail
        refine HSH.out.mono ?_
        rintro e w3 ⟨rfl, rfl⟩
        clear HSH
        go_upto_region 11 with fail
        rw [← HW2.out]
        clear HW2 hcl hfz hq4
        by_cases h0 : y = 0
        · have hnot : ¬ s.hit b := fun h => (HIT.out.1 h).1 h0
          have e3 := step_miss hnot
          have GO2 := Lib.hid (e3 ▸ GO.out)
          clear hnot e3
          subst h0
          rw [show (((0 : Nat) : Int) - 1) = (-1 : Int) from rfl]
          go_quiet (fail)
          go_wp2_with fail
          go_roundw
          case rel => exact ⟨s.miss b, _, told, i + 1, rfl, rfl, by go_num, by omega, by omega, HS.out.1, by show _ = s.i + 1; rw [← HS.out.2], ({ goes := GO2.out, own := OWN2.out, tab := TAB2.out, still := ST2.out, ne := NE.out, low := LOW.out } : SqMid w w2 g 55 b (s.miss b) lv).drew _⟩
          case measure => simp [intOf]; omega
        · obtain ⟨q, rfl⟩ : ∃ q, y = q + 1 := ⟨y - 1, by omega⟩
          rw [show (((q + 1 : Nat) : Int) - 1) = (q : Int) by omega]
          have hq1 : q + 1 - 1 = q := by omega
          have EQ := Lib.hid (fun m cap cap' => same_quiet (some ⟨bb, o + q, none⟩) (some ⟨bb, o + i, none⟩) 4 4 cap cap' ((b.drop q).take 4) ((b.drop i).take 4) (w2.drewN m) B B ((RD2.out _ (still_drewN ST2.out m) q (by omega)).takek (by omega)) ((RD2.out _ (still_drewN ST2.out m) i (by omega)).takek (by omega)) (by omega) (by omega))
          have d3 : (q : Int) + 4 ≤ (c : Int) := by omega
          have d4 : ¬ ((q : Int) < 0) := by omega
          obtain ⟨dd, hdd⟩ : ∃ dd, dd = i - q := ⟨_, rfl⟩
          have i3 : IntKind.i64.wrap ((i : Int) - (q : Int)) = (dd : Int) := by rw [IntKind.wrap_i64]; omega
          have d5 : ¬ (65535 < (dd : Int)) := by omega
          by_cases heq : (b.drop q).take 4 = (b.drop i).take 4
          · have hh : s.hit b := HIT.out.2 ⟨h0, by rw [hq1]; exact heq⟩
            have e3 := step_got hh
            have GO2 := Lib.hid (e3 ▸ GO.out)
            have kk := OKH.out.kk (by rw [← HS.out.2, FC.out.2.2.2.2]; omega) hh
            obtain ⟨K, hK⟩ : ∃ K, K = s.k b := ⟨_, rfl⟩
            rw [← hK, ← HS.out.2, FC.out.2.2.2.2] at kk
            obtain ⟨kk4, kk5⟩ := kk
            have hkq : alk (b.drop q) ((b.take (n - 5)).drop i) = K := by rw [hK]; unfold Sq.k; rw [HYC.out, hq1, ← HS.out.2, FC.out.2.2.2.2]
            rw [show decide ((b.drop q).take 4 = (b.drop i).take 4) = true by simpa using heq] at EQ
            have RS := Lib.hid (fun W (s2 : Still w W) cap (hcap : 0 < cap) => (show Calls Try.prog 33 #[.slice (some ⟨bb, o + told, none⟩) (i - told) cap, .int .i64 ((i - q : Nat) : Int), .int .i64 (K : Int)] W fun e w' => (∃ v, e = .returned v ∧ w'.ownsRow W.heap.size 5 1 v (seqB ((b.take i).drop told) (i - q) K).length (bytesV (seqB ((b.take i).drop told) (i - q) K))) ∧ Still W w' by
              have h := rsequence_any (some ⟨bb, o + told, none⟩) (i - told) cap ((b.take i).drop told) W B (i - q) (K - 4) (by
                have h := (RD2.out _ s2 told (by omega)).takek (k := i - told) (by omega)
                rw [List.drop_take]
                exact h) (Nat.le_trans FC.out.2.2.2.1 s2.size) (fun e => by cases e) (by omega) (by omega) (by omega)
              rw [show K - 4 + 4 = K by omega] at h
              exact h))
            have HGOT := Lib.hid (show (s.got b).out = s.out ++ seqB ((b.take i).drop told) (i - q) K ∧ (s.got b).told = i + K ∧ (s.got b).i = i + K ∧ (s.got b).tab = s.tab' b by
              unfold Sq.got
              rw [HYC.out, hq1, ← HS.out.2, ← HS.out.1, ← hK]
              exact ⟨rfl, rfl, rfl, rfl⟩)
            have HSL := Lib.hid (show (seqB ((b.take i).drop told) (i - q) K).length ≤ 200000 by
              rw [seqB_length, List.length_drop, List.length_take]; omega)
            have HD := Lib.hid (show (i : Int) - (q : Int) = ((i - q : Nat) : Int) by omega)
            have HKQ := Lib.hid hkq
            obtain ⟨p5, hp5⟩ : ∃ p5, p5 = n - 5 := ⟨_, rfl⟩
            have w5 : IntKind.i64.wrap ((n : Int) - 5) = (p5 : Int) := by rw [IntKind.wrap_i64]; omega
            have P5 := Lib.hid hp5
            have n3 : ¬ c = told := by omega
            have d7 : (told : Int) ≤ (i : Int) := by omega
            have d8 : (i : Int) ≤ (c : Int) := by omega
            have OUTL := Lib.hid (show s.out.length ≤ 131072 by have := OKH.out.len; have := HS.out; have := OKH.out.told; omega)
            rw [← hdd] at RS HGOT HSL
            clear e3 heq h0 hq1 hh hkq hK hdd hp5 HD
            go_quiet (first | (go_at_call 12; exact Calls.quiet_of (EQ.out _ _ _)))
            clear EQ
            have S25 := Lib.hid (still_drewN (Still.refl w2) nq)
            generalize w2.drewN nq = w5' at *
            go_wp2_with fail
            go_loopw [10] (fun kx wr' => ∃ k : Nat, kx = .int .i64 k ∧ 4 ≤ k ∧ i + k + 5 ≤ n ∧ Hid (K = k + alk ((b.drop q).drop k) (((b.take (n - 5)).drop i).drop k) ∧ ∃ m, wr' = w5'.drewN m)) (fun kx _ => n - (intOf kx).toNat)
            case atStart => exact ⟨4, rfl, by omega, by omega, by rw [← HKQ.out]; exact alk_drop _ _ 4 (by rw [HKQ.out]; exact kk4), 0, rfl⟩
            case round =>
              obtain ⟨k, rfl, hk4, hk5, hkk⟩ := hrel
              obtain ⟨mm, hmm⟩ := hkk.out.2
              have ST6 := Lib.hid (show Still w2 wr by rw [hmm]; exact still_drewN S25.out mm)
              have HMM := Lib.hid hmm
              clear hmm
              obtain ⟨p1, hp1⟩ : ∃ p1, p1 = q + k := ⟨_, rfl⟩
              obtain ⟨p2, hp2⟩ : ∃ p2, p2 = i + k := ⟨_, rfl⟩
              have w6 : IntKind.i64.wrap ((q : Int) + (k : Int)) = (p1 : Int) := by rw [IntKind.wrap_i64]; omega
              have w7 : IntKind.i64.wrap ((i : Int) + (k : Int)) = (p2 : Int) := by rw [IntKind.wrap_i64]; omega
              have w8 : IntKind.i64.wrap ((p2 : Int) + 1) = (p2 : Int) + 1 := by rw [IntKind.wrap_i64]; omega
              have RF := Lib.hid (show Reads wr B (some ⟨bb, o, none⟩) n b by have h := RD2.out wr (Still.trans ST2.out ST6.out) 0 (by omega); simpa using h)
              have HP := Lib.hid (And.intro hp1 hp2)
              have G1 := Lib.hid (show (b.drop q).getD k 0 = b.getD p1 0 by rw [hp1]; simp [List.getD])
              have G2 := Lib.hid (fun (h : p2 < n - 5) => (show ((b.take (n - 5)).drop i).getD k 0 = b.getD p2 0 by rw [hp2] at h ⊢; simp [List.getD, List.getElem?_take, h]))
              have LL := Lib.hid (show (b.drop q).length = n - q ∧ ((b.take (n - 5)).drop i).length = n - 5 - i by simp only [List.length_drop, List.length_take]; have := FC.out.2.2.2.2; omega)
              by_cases hgo : p2 + 1 ≤ p5 ∧ b.getD p1 0 = b.getD p2 0
              · obtain ⟨hg1, hg2⟩ := hgo
                have q1 := RF.out.cellAt p1 (by have := P5.out; omega)
                have q2 := RF.out.cellAt p2 (by have := P5.out; omega)
                rw [← hg2] at q2
                have AS := Lib.hid (alk_step (b.drop q) ((b.take (n - 5)).drop i) k (by have := LL.out; have := P5.out; omega) (by have := LL.out; have := P5.out; omega) (by rw [G1.out, G2.out (by have := P5.out; omega)]; exact hg2))
                have e1 : (p2 : Int) + 1 ≤ (p5 : Int) := by omega
                have e2 : (p1 : Int) < (n : Int) := by have := P5.out; omega
                have e3 : (p2 : Int) < (n : Int) := by have := P5.out; omega
                obtain ⟨bx, hbx⟩ : ∃ bx : Int, bx = ((b.getD p1 0).toNat : Int) := ⟨_, rfl⟩
                rw [← hbx] at q1 q2
                clear hg2 hp1 hp2 hbx
                go_wp2_with fail
                go_quiet (fail)
                go_wp2_with fail
                go_roundw
                case rel => exact ⟨k + 1, by go_num, by omega, by have := P5.out; have := HP.out; omega, by have h := hkk.out.1; have := AS.out; omega, mm + nq, by rw [HMM.out, World.drewN_drewN]⟩
                case measure => simp [intOf]; omega
              · have AS := Lib.hid (alk_stop (b.drop q) ((b.take (n - 5)).drop i) k (fun h1 h2 e => hgo ⟨by have := LL.out; have := P5.out; omega, by rw [← G1.out, e, G2.out (by have := LL.out; omega)]⟩))
                have hKk : K = k := by have h := hkk.out.1; rw [AS.out] at h; exact h
                have key : (decide ((p2 : Int) + 1 ≤ (p5 : Int)) = false) ∨ (((p2 : Int) + 1 ≤ (p5 : Int)) ∧ ((p1 : Int) < (n : Int)) ∧ ((p2 : Int) < (n : Int)) ∧ ∃ x y : Int, wr.cell? ⟨bb, o + p1, none⟩ = some (.int .u8 x) ∧ wr.cell? ⟨bb, o + p2, none⟩ = some (.int .u8 y) ∧ (x == y) = false) := by
                  by_cases h1 : p2 + 1 ≤ p5
                  · have := P5.out
                    refine .inr ⟨by omega, by omega, by omega, _, _, RF.out.cellAt p1 (by omega), RF.out.cellAt p2 (by omega), ?_⟩
                    rw [beq_eq_false_iff_ne]
                    intro e
                    exact hgo ⟨h1, UInt8.toNat_inj.1 (by omega)⟩
                  · exact .inl (by simp; omega)
                have HKK := Lib.hid hKk
                clear hgo AS hp1 hp2 hKk hkk
                rcases key with e1 | ⟨e1, e2, e3, xx, yy, q1, q2, q3⟩
                all_goals
                  go_wp2_with fail
                  go_quiet (fail)
                  have S7 := Lib.hid (still_drewN ST6.out nq)
                  generalize wr.drewN nq = w7' at *
                  go_wp2_with fail
                  rw [← HKK.out]
                  refine (RS.out _ (Still.trans ST2.out S7.out) _ (by omega)).mono ?_
                  rintro e w8' ⟨⟨v8, rfl, own8⟩, s8⟩
                  obtain ⟨A8, c8, rfl, f1, f2, f3⟩ := own_form own8
                  have R8 := Lib.hid (Reads.of_own own8)
                  obtain ⟨l8, hl8⟩ : ∃ l8, l8 = (seqB ((b.take i).drop told) dd K).length := ⟨_, rfl⟩
                  rw [← hl8] at R8 f3 HSL ⊢
                  have F8 := Lib.hid f3
                  have S8 := Lib.hid (Still.trans S7.out s8)
                  have O8 := Lib.hid (own_still OWN2.out S8.out)
                  have SW8 := Lib.hid (Still.trans ST2.out S8.out)
                  clear own8 s8 f1 f2 f3 hl8 RS
                  go_wp2_with (at_builtin; go_must (refine wpList_addsG w8' rfl _ _ rfl w.heap.size lv s.out rfl O8.out A8 l8 c8 _ (seqB ((b.take i).drop told) dd K) rfl R8.out (fun e => (F8.out e).2) ?c1 ?c2 ?_))
                  case c1 => have := HSL.out; have := OUTL.out; omega
                  case c2 => exact SW8.out.size
                  intro v9 w9 g9
                  have MID := Lib.hid (show SqMid w w9 g 55 b (s.got b) v9 from
                    { goes := GO2.out, own := by rw [HGOT.out.1]; exact g9.own
                      tab := by
                        rw [HGOT.out.2.2.2]
                        exact (TAB2.out.still S8.out).block (g9.gr.block g (TAB2.out.still S8.out).lt (fun e => NE.out e.symm))
                      still := SW8.out.grown g9.gr SW8.out.size (fun k hk => (OWN2.out.lt k hk).1)
                      ne := fun e => by
                        rcases g9.loc g e with h | h
                        · exact NE.out h
                        · have := (TAB2.out.still S8.out).lt
                          omega
                      low := LOW.out })
                  clear g9
                  go_wp2_with fail
                  go_roundw
                  case rel => exact ⟨s.got b, _, i + K, i + K, rfl, by go_num, by go_num, by omega, Nat.le_refl _, HGOT.out.2.1.symm, HGOT.out.2.2.1.symm, MID.out⟩
                  case measure => simp [intOf]; omega
          · have hnot : ¬ s.hit b := fun h => heq (by have := (HIT.out.1 h).2; rwa [hq1] at this)
            have e3 := step_miss hnot
            have GO2 := Lib.hid (e3 ▸ GO.out)
            rw [show decide ((b.drop q).take 4 = (b.drop i).take 4) = false by simpa using heq] at EQ
            clear hnot e3 heq h0 hq1 hdd
            go_quiet (first | (go_at_call 12; exact Calls.quiet_of (EQ.out _ _ _)))
            go_wp2_with fail
            go_roundw
            case rel => exact ⟨s.miss b, _, told, i + 1, rfl, rfl, by go_num, by omega, by omega, HS.out.1, by show _ = s.i + 1; rw [← HS.out.2], ({ goes := GO2.out, own := OWN2.out, tab := TAB2.out, still := ST2.out, ne := NE.out, low := LOW.out } : SqMid w w2 g 55 b (s.miss b) lv).drew _⟩
            case measure => simp [intOf]; omega
      · have hz := hmid.goes.end_ (by rw [← hs2, FC.out.2.2.2.2]; omega)
        rw [← hs1] at hz
        have HZ2 := Lib.hid hz
        have RD := Lib.hid (RR.out wr hmid.still)
        have RS := Lib.hid (fun (A' : Option Addr) cap (hr' : Reads wr B A' (n - told) (b.drop told)) (hA' : A' = none → n - told = 0 ∧ cap = 0) => rsequence_last A' (n - told) cap (b.drop told) wr B 0 hr' (Nat.le_trans FC.out.2.2.2.1 hmid.still.size) hA' (by omega))
        rw [show ((0 : Nat) : Int) = 0 from rfl] at RS
        have ST := Lib.hid hmid.still
        have OWN := Lib.hid hmid.own
        have OUTL := Lib.hid (show s.out.length ≤ 131072 by have := OK.len; have := OK.told; omega)
        have HSL := Lib.hid (show (litB (b.drop told) 0).length ≤ 200000 by rw [litB_length, List.length_drop]; have := FC.out.2.2.2.2; omega)
        clear hz hmid OK hs1 hs2 hh
        have d1 : ¬ (i : Int) + 12 ≤ (n : Int) := by omega
        have d2 : (told : Int) ≤ (n : Int) := by omega
        have d3 : (told : Int) ≤ (c : Int) := by omega
        have ht : told ≤ n := by omega
        have key : ∃ A' cap, Hid (Reads wr B A' (n - told) (b.drop told) ∧ (A' = none → n - told = 0 ∧ cap = 0)) ∧ ((c = told ∧ A' = A ∧ cap = 0) ∨ (¬ c = told ∧ A' = A.map (·.add told) ∧ cap = c - told)) := by
          by_cases hct : c = told
          · refine ⟨A, 0, ⟨?_, fun e => ⟨by omega, rfl⟩⟩, .inl ⟨hct, rfl, rfl⟩⟩
            have hd : b.drop told = [] := List.drop_of_length_le (by have := FC.out.2.2.2.2; omega)
            rw [hd, show n - told = 0 by omega]
            exact Reads.nil0
          · exact ⟨_, _, ⟨RD.out.dropk ht, fun e => have e2 : A = none := (by simpa using e); (by have := HA.out e2; omega)⟩, .inr ⟨hct, rfl, rfl⟩⟩
        obtain ⟨A', cap, hrd, hcase⟩ := key
        have RS2 := Lib.hid (RS.out A' cap hrd.out.1 hrd.out.2)
        clear RS hrd
        rcases hcase with ⟨k1, rfl, rfl⟩ | ⟨k1, rfl, rfl⟩
        all_goals
          go_wp2_with fail
          refine RS2.out.mono ?_
          rintro e w8 ⟨⟨v8, rfl, own8⟩, s8⟩
          obtain ⟨A8, c8, rfl, f1, f2, f3⟩ := own_form own8
          have R8 := Lib.hid (Reads.of_own own8)
          obtain ⟨l8, hl8⟩ : ∃ l8, l8 = (litB (b.drop told) 0).length := ⟨_, rfl⟩
          rw [← hl8] at R8 f3 HSL ⊢
          have F8 := Lib.hid f3
          have S8 := Lib.hid (Still.trans ST.out s8)
          have O8 := Lib.hid (own_still OWN.out s8)
          clear own8 s8 f1 f2 f3 hl8 RS2
          go_wp2_with (at_builtin; go_must (refine wpList_addsG w8 rfl _ _ rfl w.heap.size lv s.out rfl O8.out A8 l8 c8 _ (litB (b.drop told) 0) rfl R8.out (fun e => (F8.out e).2) ?c1 ?c2 ?_))
          case c1 => have := HSL.out; have := OUTL.out; omega
          case c2 => exact S8.out.size
          intro v9 w9 g9
          have G9 := Lib.hid g9.own
          have S9 := Lib.hid (S8.out.grown g9.gr S8.out.size (fun k hk => (O8.out.lt k hk).1))
          clear g9
          go_wp2_with fail
          go_ret2
          rw [HZ2.out]
          exact ⟨⟨_, rfl, G9.out⟩, S9.out⟩
end Go.Proofs.Ytcbolakhdndffaa
