/- Contract: the program's Squeeze of whatever bytes. It proves no statement. -/
import Derived.Test.YtcbolakhdndffaaLzRow
import Derived.Test.YtcbolakhdndffaaLzTab
import Derived.Test.YtcbolakhdndffaaBytesEq
import Derived.Test.YtcbolakhdndffaaFar
import Derived.Deep.QuietTactic
namespace Go.Proofs.Ytcbolakhdndffaa
open Go.RowKit
set_option linter.unusedVariables false
set_option linter.unusedSimpArgs false

/-- What stands while Squeeze goes. -/
structure SqMid (w wr : World) (g : Nat) (ty : TypeId) (b : List UInt8) (s : Sq) (v : Value) : Prop where
  goes : Goes b s
  own : wr.ownsRow w.heap.size 5 1 v s.out.length (bytesV s.out)
  tab : Tab wr g ty s.tab
  still : Still w wr
  ne : v.ownBlock ≠ some g
  low : w.heap.size ≤ g
theorem SqMid.drew {w wr : World} {g : Nat} {ty : TypeId} {b : List UInt8} {s : Sq} {v : Value} (h : SqMid w wr g ty b s v) (n : Nat) : SqMid w (wr.drewN n) g ty b s v :=
  ⟨h.goes, own_still h.own (still_drewN (Still.refl wr) n), h.tab.still (still_drewN (Still.refl wr) n), still_drewN h.still n, h.ne, h.low⟩
/-- The place is put. -/
theorem SqMid.put {w wr : World} {g : Nat} {ty : TypeId} {b : List UInt8} {s : Sq} {v : Value} (h : SqMid w wr g ty b s v) :
    (wr.setCell ⟨g, hsh ((b.drop s.i).take 4), none⟩ (.int .i64 (s.i + 1 : Nat))).ownsRow w.heap.size 5 1 v s.out.length (bytesV s.out) ∧ Tab (wr.setCell ⟨g, hsh ((b.drop s.i).take 4), none⟩ (.int .i64 (s.i + 1 : Nat))) g ty (s.tab' b) ∧ Still w (wr.setCell ⟨g, hsh ((b.drop s.i).take 4), none⟩ (.int .i64 (s.i + 1 : Nat))) :=
  ⟨h.own.kept (grownBy_set wr g _ _) (.inr h.ne), h.tab.set _ _ (hsh_lt _), h.still.setCell h.low _⟩

set_option maxRecDepth 100000 in
set_option maxHeartbeats 6400000 in
theorem squeeze_any (A : Option Addr) (n c : Nat) (b : List UInt8) (w : World) (B : Nat) (hr : Reads w B A n b) (hB : B ≤ w.heap.size) (hn : n ≤ 1048576) (hc : n ≤ c) (hcm : c ≤ 9223372036854775807) (hA : A = none → n = 0 ∧ c = 0) :
    Calls Try.prog 30 #[.slice A n c] w fun e w' => (∃ v, e = .returned (.tuple #[v, .int .i64 (sqE b)]) ∧ w'.ownsRow w.heap.size 5 1 v (sqB b).length (bytesV (sqB b))) ∧ Still w w' := by
  have hlen := hr.1
  by_cases hbig : 65536 < n
  · have e1 : sqE b = 5 := by unfold sqE; rw [if_neg (by omega)]
    have e2 : sqB b = [] := by unfold sqB; rw [if_neg (by omega)]
    rw [e1, e2]
    clear hr e1 e2
    go_enter Try.func30, Try.ntmps30
    go_wp2_with fail
    go_ret2
    exact ⟨⟨_, rfl, World.ownsRow_nil _ _ _ _⟩, Still.refl _⟩
  · have e1 : sqE b = 0 := by unfold sqE; rw [if_pos (by omega)]
    have e2 : sqB b = sqz b := by unfold sqB; rw [if_pos (by omega)]
    rw [e1, e2]
    have RR := Lib.hid (fun W (s : Still w W) => hr.still hB s)
    have FC := Lib.hid (show n ≤ 65536 ∧ n ≤ c ∧ c ≤ 9223372036854775807 ∧ B ≤ w.heap.size ∧ b.length = n from ⟨by omega, hc, hcm, hB, hlen⟩)
    have HA := Lib.hid hA
    obtain ⟨cs, hz, hcs, hc0⟩ := zeroT_is zeroP
    have T0 := Lib.hid (Tab.new (t := 65) w cs hcs hc0)
    obtain ⟨w1, hw1⟩ : ∃ w1, w1 = w.alloc (.cells cs 65) := ⟨_, rfl⟩
    obtain ⟨g, hg⟩ : ∃ g, g = w.heap.size := ⟨_, rfl⟩
    have S1 := Lib.hid (show Still w w1 by rw [hw1]; exact (Still.refl w).alloc (Nat.le_refl _) _)
    rw [← hw1, ← hg] at T0
    have HZ := Lib.hid hz
    have HW1 := Lib.hid hw1
    have HG := Lib.hid hg
    have hn6 : n ≤ 65536 := by omega
    clear hr hz hc0 hcs hw1 hg hA hlen e1 e2 hbig hn
    go_enter Try.func30, Try.ntmps30
    go_wp2_with (guard_target =~ wpList _ _ _ (Oper.mk (some 5) (Op.alloc _) _ _ _ _ :: _) _ _; go_must (refine wpList_alloc_arr rfl 65 rfl (some 5) rfl cs 4096 HZ.out ?_; rw [← HW1.out, ← HG.out]))
    go_loopw [4, 6, 7] (fun vx tx ix wr => ∃ (s : Sq) (lv : Value) (told i : Nat), lv = vx ∧ tx = .int .i64 told ∧ ix = .int .i64 i ∧ i ≤ n ∧ told ≤ i ∧ Hid (told = s.told ∧ i = s.i ∧ SqMid w wr g 65 b s lv)) (fun _ _ ix _ => n - (intOf ix).toNat)
    case atStart => exact ⟨sq0, _, 0, 0, rfl, rfl, rfl, by omega, Nat.le_refl _, rfl, rfl, { goes := Goes.zero b, own := World.ownsRow_nil _ _ _ _, tab := T0.out, still := S1.out, ne := by simp [Value.ownBlock], low := by rw [HG.out]; exact Nat.le_refl _ }⟩
    case round =>
      obtain ⟨s, lv, told, i, hlv, rfl, rfl, hin, hti, hh⟩ := hrel
      subst hlv
      obtain ⟨hs1, hs2, hmid⟩ := hh.out
      have OK := hmid.goes.1
      by_cases hlt : i + 12 ≤ n
      · have ST := hmid.still
        have R := RR.out wr ST
        obtain ⟨bb, o, rfl, hb, _⟩ := R.at_ (by omega)
        have rdrop : ∀ k, k ≤ n → Reads wr B (some ⟨bb, o + k, none⟩) (n - k) (b.drop k) := fun k hk => by have h := R.dropk hk; simpa [Addr.add_lit] using h
        have r4 : ∀ k, k + 4 ≤ n → Reads wr B (some ⟨bb, o + k, none⟩) 4 ((b.drop k).take 4) := fun k hk => (rdrop k (by omega)).takek (by omega)
        have PUT := Lib.hid (fun cap => put_places (some ⟨bb, o + i, none⟩) cap i _ B hmid.tab (r4 i (by omega)) (by have := OK.tab (hsh ((b.drop i).take 4)); omega) (by omega))
        have hput := hmid.put
        rw [← hs2] at hput
        obtain ⟨y, hy⟩ : ∃ y, y = s.tab (hsh ((b.drop i).take 4)) := ⟨_, rfl⟩
        have hyc : s.c1 b = y := by rw [hy]; unfold Sq.c1; rw [← hs2]
        have hyi : y ≤ i := by rw [← hyc, hs2]; exact SqOK.c b OK
        rw [← hy] at PUT
        obtain ⟨w2, hw2⟩ : ∃ w2, w2 = wr.setCell ⟨g, hsh ((b.drop i).take 4), none⟩ (.int .i64 (i + 1 : Nat)) := ⟨_, rfl⟩
        rw [← hw2] at hput PUT
        obtain ⟨own2, tab2, st2⟩ := hput
        have goes' := hmid.goes.step (by rw [← hs2, FC.out.2.2.2.2]; omega)
        have hne := hmid.ne
        have hlow := hmid.low
        have hne2 : some g ≠ lv.ownBlock := fun e => hne e.symm
        have hhit : s.hit b ↔ (y ≠ 0 ∧ (b.drop (y - 1)).take 4 = (b.drop i).take 4) := by unfold Sq.hit; rw [hyc, ← hs2]
        have OWN2 := Lib.hid own2
        have TAB2 := Lib.hid tab2
        have ST2 := Lib.hid st2
        have GO := Lib.hid goes'
        have NE := Lib.hid hne
        have LOW := Lib.hid hlow
        have HS := Lib.hid (And.intro hs1 hs2)
        have HYC := Lib.hid hyc
        have HIT := Lib.hid hhit
        have OKH := Lib.hid OK
        have RD2 := Lib.hid (fun W (s2 : Still w W) k (hk : k ≤ n) => (show Reads W B (some ⟨bb, o + k, none⟩) (n - k) (b.drop k) by have h := (RR.out W s2).dropk hk; simpa [Addr.add_lit] using h))
        clear own2 tab2 st2 goes' hne hlow hne2 hs1 hs2 hyc hhit OK hmid hh hw2 hy rdrop r4 R hb ST
        have d1 : (i : Int) ≤ (n : Int) - 12 := by omega
        have d2 : (i : Int) + 4 ≤ (c : Int) := by omega
        go_wp2_with fail
        refine (PUT.out _).mono ?_
        rintro e w3 ⟨rfl, hw3⟩
        rw [hw3]
        clear PUT hw3 w3
        by_cases h0 : y = 0
        · have hnot : ¬ s.hit b := fun h => (HIT.out.1 h).1 h0
          have e3 := step_miss hnot
          have GO2 := Lib.hid (e3 ▸ GO.out)
          clear hnot e3
          subst h0
          rw [show decide (0 < 0) = false from rfl]
          go_wp2_with fail
          go_quiet (fail)
          go_wp2_with fail
          go_roundw
          case rel => exact ⟨s.miss b, _, told, i + 1, rfl, rfl, by go_num, by omega, by omega, HS.out.1, by show _ = s.i + 1; rw [← HS.out.2], ({ goes := GO2.out, own := OWN2.out, tab := TAB2.out, still := ST2.out, ne := NE.out, low := LOW.out } : SqMid w w2 g 65 b (s.miss b) lv).drew _⟩
          case measure => simp [intOf]; omega
        · obtain ⟨q, rfl⟩ : ∃ q, y = q + 1 := ⟨y - 1, by omega⟩
          rw [show (((q + 1 : Nat) : Int) - 1) = (q : Int) by omega, show decide (0 < q + 1) = true by simp]
          have hq1 : q + 1 - 1 = q := by omega
          have EQ := Lib.hid (fun m cap cap' => bytesEq_any (some ⟨bb, o + q, none⟩) (some ⟨bb, o + i, none⟩) 4 4 cap cap' ((b.drop q).take 4) ((b.drop i).take 4) (w2.drewN m) B B ((RD2.out _ (still_drewN ST2.out m) q (by omega)).takek (by omega)) ((RD2.out _ (still_drewN ST2.out m) i (by omega)).takek (by omega)))
          have d3 : (q : Int) + 4 ≤ (c : Int) := by omega
          by_cases heq : (b.drop q).take 4 = (b.drop i).take 4
          · have hh : s.hit b := HIT.out.2 ⟨h0, by rw [hq1]; exact heq⟩
            have e3 := step_got hh
            have GO2 := Lib.hid (e3 ▸ GO.out)
            have kk := OKH.out.kk (by rw [← HS.out.2, FC.out.2.2.2.2]; omega) hh
            obtain ⟨K, hK⟩ : ∃ K, K = s.k b := ⟨_, rfl⟩
            rw [← hK, ← HS.out.2, FC.out.2.2.2.2] at kk
            obtain ⟨kk4, kk5⟩ := kk
            have hkq : alk (b.drop q) ((b.take (n - 5)).drop i) = K := by rw [hK]; unfold Sq.k; rw [HYC.out, hq1, ← HS.out.2, FC.out.2.2.2.2]
            have AL := Lib.hid (fun W (s2 : Still w W) cap cap' => alike_any (some ⟨bb, o + q, none⟩) (some ⟨bb, o + i, none⟩) (n - q) (n - 5 - i) cap cap' (b.drop q) ((b.take (n - 5)).drop i) W B B (RD2.out _ s2 q (by omega)) (by
              have h := (RD2.out _ s2 i (by omega)).takek (k := n - 5 - i) (by omega)
              rw [List.drop_take]
              exact h) (by omega) (by omega) (by omega) (by omega) (by have := FC.out.2.2.2.1; have := s2.size; omega) (by have := FC.out.2.2.2.1; have := s2.size; omega))
            rw [hkq] at AL
            rw [show decide ((b.drop q).take 4 = (b.drop i).take 4) = true by simpa using heq] at EQ
            have SQ := Lib.hid (fun W (s2 : Still w2 W) cap (hcap : 0 < cap) => sequence_any W w.heap.size lv s.out (some ⟨bb, o + told, none⟩) (i - told) cap ((b.take i).drop told) B (i - q) K (own_still OWN2.out s2) (Nat.le_trans ST2.out.size s2.size) FC.out.2.2.2.1 (by
              have h := (RD2.out _ (Still.trans ST2.out s2) told (by omega)).takek (k := i - told) (by omega)
              rw [List.drop_take]
              exact h) (fun e => by cases e) (by omega) (by omega) (by omega) kk4 (by have := OKH.out.len; have := HS.out; have := OKH.out.told; omega))
            have HGOT := Lib.hid (show (s.got b).out = s.out ++ seqB ((b.take i).drop told) (i - q) K ∧ (s.got b).told = i + K ∧ (s.got b).i = i + K ∧ (s.got b).tab = s.tab' b by
              unfold Sq.got
              rw [HYC.out, hq1, ← HS.out.2, ← HS.out.1, ← hK]
              exact ⟨rfl, rfl, rfl, rfl⟩)
            have HD := Lib.hid (show (i : Int) - (q : Int) = ((i - q : Nat) : Int) by omega)
            obtain ⟨p, hp⟩ : ∃ p, p = n - 5 := ⟨_, rfl⟩
            rw [← hp] at AL
            have w5 : IntKind.i64.wrap ((n : Int) - 5) = (p : Int) := by rw [IntKind.wrap_i64]; omega
            have d4 : (i : Int) ≤ (p : Int) := by omega
            have d5 : (p : Int) ≤ (c : Int) := by omega
            have n1 : ¬ c = q := by omega
            have n2 : ¬ c = i := by omega
            have n3 : ¬ c = told := by omega
            have d6 : (q : Int) ≤ (n : Int) := by omega
            have d7 : (told : Int) ≤ (i : Int) := by omega
            have d8 : (i : Int) ≤ (c : Int) := by omega
            clear e3 heq h0 hq1 hh hkq hK hp
            go_wp2_with fail
            go_quiet (first | (go_at_call 35; exact Calls.quiet_of_same ((EQ.out _ _ _).mono fun e w' ⟨h1, h2⟩ => ⟨h1, h2.symm⟩)))
            clear EQ
            go_wp2_with fail
            have S25 := Lib.hid (still_drewN (Still.refl w2) nq)
            generalize w2.drewN nq = w5 at *
            go_quiet (first | (go_at_call 45; exact Calls.quiet_of (AL.out _ (still_drewN (Still.trans ST2.out S25.out) _) _ _)))
            clear AL
            have S26 := Lib.hid (still_drewN S25.out nq)
            generalize w5.drewN nq = w6 at *
            clear S25
            go_wp2_with fail
            rw [HD.out]
            refine (SQ.out _ S26.out _ (by omega)).mono ?_
            rintro e w7 ⟨v7, rfl, g7⟩
            have MID := Lib.hid (show SqMid w w7 g 65 b (s.got b) v7 from
              { goes := GO2.out, own := by rw [HGOT.out.1]; exact g7.own
                tab := by
                  rw [HGOT.out.2.2.2]
                  exact (TAB2.out.still S26.out).block (g7.gr.block g (TAB2.out.still S26.out).lt (fun e => NE.out e.symm))
                still := (Still.trans ST2.out S26.out).grown g7.gr (Still.trans ST2.out S26.out).size (fun k hk => (OWN2.out.lt k hk).1)
                ne := fun e => by
                  rcases g7.loc g e with h | h
                  · exact NE.out h
                  · have := (TAB2.out.still S26.out).lt
                    omega
                low := LOW.out })
            clear g7 SQ
            go_wp2_with fail
            go_roundw
            case rel => exact ⟨s.got b, _, i + K, i + K, rfl, by go_num, by go_num, by omega, Nat.le_refl _, HGOT.out.2.1.symm, HGOT.out.2.2.1.symm, MID.out⟩
            case measure => simp [intOf]; omega
          · have hnot : ¬ s.hit b := fun h => heq (by have := (HIT.out.1 h).2; rwa [hq1] at this)
            have e3 := step_miss hnot
            have GO2 := Lib.hid (e3 ▸ GO.out)
            rw [show decide ((b.drop q).take 4 = (b.drop i).take 4) = false by simpa using heq] at EQ
            clear hnot e3 heq h0 hq1
            go_wp2_with fail
            go_quiet (first | (go_at_call 35; exact Calls.quiet_of_same ((EQ.out _ _ _).mono fun e w' ⟨h1, h2⟩ => ⟨h1, h2.symm⟩)))
            go_wp2_with fail
            go_roundw
            case rel => exact ⟨s.miss b, _, told, i + 1, rfl, rfl, by go_num, by omega, by omega, HS.out.1, by show _ = s.i + 1; rw [← HS.out.2], ({ goes := GO2.out, own := OWN2.out, tab := TAB2.out, still := ST2.out, ne := NE.out, low := LOW.out } : SqMid w w2 g 65 b (s.miss b) lv).drew _⟩
            case measure => simp [intOf]; omega
      · have hz := hmid.goes.end_ (by rw [← hs2, FC.out.2.2.2.2]; omega)
        rw [← hs1] at hz
        have HZ2 := Lib.hid hz
        have RD := Lib.hid (RR.out wr hmid.still)
        have LT := Lib.hid (fun (A' : Option Addr) cap (hr' : Reads wr B A' (n - told) (b.drop told)) (hA' : A' = none → n - told = 0 ∧ cap = 0) => literals_any wr w.heap.size lv s.out A' (n - told) cap (b.drop told) B 0 hmid.own hmid.still.size FC.out.2.2.2.1 hr' hA' (by omega) (by omega) (by have := OK.len; have := OK.told; omega))
        have ST := Lib.hid hmid.still
        have LOW := Lib.hid (fun k (e : lv.ownBlock = some k) => (hmid.own.lt k e).1)
        clear hz hmid OK hs1 hs2 hh
        have d1 : ¬ (i : Int) ≤ (n : Int) - 12 := by omega
        have d2 : (told : Int) ≤ (n : Int) := by omega
        have d3 : (told : Int) ≤ (c : Int) := by omega
        have ht : told ≤ n := by omega
        by_cases hct : c = told
        · have hn0 : n - told = 0 := by omega
          have hd : b.drop told = [] := List.drop_of_length_le (by have := FC.out.2.2.2.2; omega)
          have LT2 := Lib.hid (fun cap => LT.out A cap (by rw [hn0, hd]; exact Reads.nil0))
          have HN0 := Lib.hid hn0
          clear LT hn0 hd
          rw [show ((0 : Nat) : Int) = 0 from rfl] at LT2
          go_wp2_with fail
          refine (LT2.out _ (fun e => ⟨HN0.out, by omega⟩)).mono ?_
          rintro e w7 ⟨v7, rfl, g7⟩
          have G7 := Lib.hid g7
          clear g7
          go_wp2_with fail
          go_ret2
          rw [HZ2.out]
          exact ⟨⟨v7, rfl, G7.out.own⟩, ST.out.grown G7.out.gr ST.out.size LOW.out⟩
        · have LT2 := Lib.hid (LT.out (A.map (·.add told)) (c - told) (RD.out.dropk ht) (fun e => have e2 : A = none := (by simpa using e); (by have := HA.out e2; omega)))
          clear LT
          rw [show ((0 : Nat) : Int) = 0 from rfl] at LT2
          go_wp2_with fail
          refine LT2.out.mono ?_
          rintro e w7 ⟨v7, rfl, g7⟩
          have G7 := Lib.hid g7
          clear g7
          go_wp2_with fail
          go_ret2
          rw [HZ2.out]
          exact ⟨⟨v7, rfl, G7.out.own⟩, ST.out.grown G7.out.gr ST.out.size LOW.out⟩
end Go.Proofs.Ytcbolakhdndffaa
