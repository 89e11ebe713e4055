/- Contract: the program's Salvage of whatever bytes. It proves no statement. -/
import Derived.Test.YtnhkabohccbglaaDoorFrPsum
import Derived.Deep.QuietTactic
import Derived.BigQuiet
namespace Go.Proofs.YtnhkabohccbglaaDoor
open Go.RowKit
set_option linter.unusedVariables false
set_option linter.unusedSimpArgs false

theorem HasF.lower {W : World} {B B' : Nat} (hb : B' ≤ B) : ∀ (F : List Fo) (xs : List Value), HasF W B F xs → HasF W B' F xs
  | [], _, h => h
  | f :: F, xs, ⟨v, ys, h1, h2, h3, h4⟩ => ⟨v, ys, h1, h2, own_rebase0 h3 hb, HasF.lower hb F ys h4⟩
theorem piece_eq (l : List UInt8) (a m : Nat) : (l.take (a + m)).drop (a + 4) = ((l.drop a).take m).drop 4 := by
  rw [← List.drop_drop]
  congr 1
  rw [List.drop_take]
  congr 1
  omega

set_option maxRecDepth 100000 in
set_option maxHeartbeats 6400000 in
theorem salvage_any (A : Option Addr) (n c : Nat) (l : List UInt8) (w : World) (B : Nat) (hr : Reads w B A n l) (hB : B ≤ w.heap.size) (hn : n ≤ 1048576) (hc : n ≤ c) (hcm : c ≤ 9223372036854775807) (T : Tabs w) :
    Calls Tryd.prog 25 #[.slice A n c] w fun e w' => (∃ lv xs, e = .returned lv ∧ w'.ownsRow w.heap.size 55 36 lv (salR l).length xs ∧ HasF w' w.heap.size (salR l) xs) ∧ Still w w' := by
  have hlen := hr.1
  have RR := Lib.hid (fun W (s : Still w W) => hr.still hB s)
  have TT := Lib.hid (fun W (s : Still w W) => T.still s)
  have FC := Lib.hid (show n ≤ 1048576 ∧ n ≤ c ∧ c ≤ 9223372036854775807 ∧ B ≤ w.heap.size ∧ l.length = n from ⟨hn, hc, hcm, hB, hlen⟩)
  have MK := Lib.hid (mark_any A n c l w B hr hB hn hc hcm T)
  obtain ⟨fs, hu⟩ := underEnt
  have HU := Lib.hid hu
  obtain ⟨fs2, hu2⟩ := underMk
  have HU2 := Lib.hid hu2
  clear hr hlen hcm T hu hu2
  go_enter Tryd.func25, Tryd.ntmps25
  go_wp2_with fail
  refine MK.out.mono ?_
  rintro e w1 ⟨⟨vs, rfl, ownv⟩, s1⟩
  obtain ⟨K, hK⟩ : ∃ K, K = n / 64 + 1 := ⟨_, rfl⟩
  rw [← hK] at ownv
  obtain ⟨gs, cs, hvs⟩ : ∃ gs cs, vs = .slice (some ⟨gs, 0, none⟩) K cs := by
    rcases ownv.2 with ⟨_, h0⟩ | ⟨g, cc, cur, e, _⟩
    · omega
    · exact ⟨g, cc, e⟩
  subst hvs
  obtain ⟨g4, hg4⟩ : ∃ g4, g4 = w1.heap.size := ⟨_, rfl⟩
  obtain ⟨w2, hw2⟩ : ∃ w2, w2 = w1.alloc (.cells #[.slice A n c, .slice (some ⟨gs, 0, none⟩) K cs] 77) := ⟨_, rfl⟩
  have S2 := Lib.hid (show Still w w2 by rw [hw2]; exact s1.alloc s1.size _)
  have OV := Lib.hid (show w2.ownsRow w.heap.size 57 1 (.slice (some ⟨gs, 0, none⟩) K cs) K (u32V (mkS l K)) by rw [hw2]; exact ownv.alloc _)
  have BX := Lib.hid (show Blk w2 g4 77 #[.slice A n c, .slice (some ⟨gs, 0, none⟩) K cs] by rw [hw2, hg4]; exact Blk.new _ _ _)
  have HW2 := Lib.hid hw2
  have HG4 := Lib.hid hg4
  have HK := Lib.hid hK
  clear MK ownv s1 hg4 hw2 hK
  go_upto_region 3 with fail
  rw [← HW2.out, ← HG4.out]
  clear HW2 HG4
  have M0 := Lib.hid (show SvMid w2 w2 l (.slice none 0 0) 0 from { ex := ⟨[], [], l.length, World.ownsRow_nil _ _ _ _, rfl, by simp, by omega, by simp [salR]⟩, still := Still.refl w2 })
  go_wp2_with fail
  go_loopw [3, 5] (fun lx iv wr => ∃ (a : Nat) (lv : Value), lv = lx ∧ iv = .int .i64 a ∧ a ≤ n ∧ Hid (SvMid w2 wr l lv a)) (fun _ iv _ => n - (intOf iv).toNat)
  case atStart => exact ⟨0, _, rfl, rfl, Nat.zero_le _, M0.out⟩
  case round =>
    obtain ⟨a, lv, hlv, rfl, han, hin⟩ := hrel
    subst hlv
    by_cases hlt : a < n
    · have d1 : (a : Int) < (n : Int) := by omega
      have d2 : (a : Int) ≤ (n : Int) := by omega
      have d3 : (a : Int) ≤ (c : Int) := by omega
      have d4 : (n : Int) ≤ (c : Int) := by omega
      have STW := Lib.hid (Still.trans S2.out hin.out.still)
      obtain ⟨b, o, rfl, hb, _⟩ := (RR.out wr STW.out).at_ (by omega)
      have RDW := Lib.hid (fun W (s : Still wr W) => (show Reads W B (some ⟨b, o + a, none⟩) (n - a) (l.drop a) by have h := (RR.out W (Still.trans STW.out s)).dropk (k := a) (by omega); simpa [Addr.add_lit] using h))
      have TD := Lib.hid (told_any (some ⟨b, o + a, none⟩) (n - a) (c - a) (l.drop a) wr B (RDW.out wr (Still.refl wr)) (by omega) (by omega) (by have := FC.out; omega))
      have LL := Lib.hid (show (l.drop a).length = n - a by rw [List.length_drop, FC.out.2.2.2.2])
      obtain ⟨q, hq⟩ : ∃ q, q = (toE (l.drop a)).2 := ⟨_, rfl⟩
      obtain ⟨m, hm⟩ : ∃ m, m = (toE (l.drop a)).1 := ⟨_, rfl⟩
      have HR := Lib.hid (show rdE (l.drop a) = if q ≠ 0 then q else if crcSum (((l.drop a).take (sizE (l.drop a))).drop 4) = leNum ((l.drop a).take 4) then 0 else 13 by rw [hq]; rfl)
      have HT := Lib.hid (show q = 0 → m = sizE (l.drop a) ∧ 9 ≤ (l.drop a).length ∧ fitE (tagE (l.drop a)) (sizE (l.drop a)) = true ∧ sizE (l.drop a) ≤ (l.drop a).length ∧ 9 ≤ sizE (l.drop a) ∧ sizE (l.drop a) ≤ 16425 ∧ (tagE (l.drop a) ≠ 2 → 41 ≤ sizE (l.drop a)) ∧ tagE (l.drop a) ≤ 2 from fun h => by rw [hm]; exact toE_ok (by rw [← hq]; exact h))
      rw [← hq, ← hm] at TD
      have HE := Lib.hid hin.out.ex
      have HAN := Lib.hid hlt
      have SWR := Lib.hid hin.out.still
      have BADN := Lib.hid (fun (h : rdE (l.drop a) ≠ 0) (W : World) (s : Still wr W) => (show SvMid w2 W l lv (a + 1) by
        obtain ⟨F, xs, k, oF, hF, hFa, hka, hsc⟩ := HE.out
        obtain ⟨k', rfl⟩ : ∃ k', k = k' + 1 := ⟨k - 1, by have := FC.out; omega⟩
        refine { ex := ⟨F, xs, k', oF.kept (row := none) (grown_still0 s) (by cases lv.ownBlock <;> simp), HasF.keep (fun v n l h => own_still h s) F xs hF, by omega, by omega, ?_⟩, still := Still.trans SWR.out s }
        rw [hsc, svF, if_pos (by have := FC.out; omega), if_neg h]))
      clear hq hm hb hin
      go_wp2_with fail
      refine TD.out.mono ?_
      rintro e w3 ⟨rfl, rfl⟩
      clear TD
      by_cases h0 : q = 0
      · obtain ⟨t1, t2, t3, t4, t5, t6, t7, t8⟩ := HT.out h0
        subst h0
        rw [LL.out] at t2 t4
        have MKS := Lib.hid (fun W (s : Still wr W) => (show Marks W B b o n c gs cs l from
          { reads := RR.out W (Still.trans STW.out s), low := Nat.le_trans FC.out.2.2.2.1 (Still.trans STW.out s).size
            sums := fun j hj => by
              have ho := (OV.out.kept (row := none) (grown_still0 (Still.trans SWR.out s)) (.inr (by simp [Value.ownBlock])))
              rw [ho.cellAt j (by have := HK.out; omega), mkS_get _ _ _ (by have := HK.out; omega)]
            lt := ((OV.out.kept (row := none) (grown_still0 (Still.trans SWR.out s)) (.inr (by simp [Value.ownBlock]))).lt gs rfl).2
            fit := ⟨FC.out.2.1, FC.out.2.2.1, FC.out.1⟩, tabs := TT.out W (Still.trans STW.out s) }))
        have PS := Lib.hid (fun W (s : Still wr W) => (show Calls Tryd.prog 42 #[.agg #[.slice (some ⟨b, o, none⟩) n c, .slice (some ⟨gs, 0, none⟩) K cs], .int .i64 ((a + 4 : Nat) : Int), .int .i64 ((a + m : Nat) : Int)] W fun e w' => e = .returned (.int .u32 (crcSum (((l.drop a).take m).drop 4) : Nat)) ∧ Still W w' by
          have h := psum_any (MKS.out W s) (a + 4) (a + m) (by omega) (by omega)
          rw [← HK.out, piece_eq] at h
          exact h))
        have SI := Lib.hid (fun W (s : Still wr W) => sumin_any (some ⟨b, o + a, none⟩) (n - a) (c - a) (l.drop a) W B (RDW.out W s) (by omega) (by omega) (by omega) (by have := FC.out; omega))
        have EN := Lib.hid (fun W (s : Still wr W) => entry_any (some ⟨b, o + a, none⟩) m (c - a) ((l.drop a).take m) W B ((RDW.out W s).takek (k := m) (by omega)) (Nat.le_trans FC.out.2.2.2.1 (Still.trans STW.out s).size) (by omega) (by omega) (by rw [tagE_take (by omega)]; rw [t1]; exact t7) (by omega) (by have := FC.out; omega))
        rw [tagE_take (by omega)] at EN
        rw [← t1] at HR
        obtain ⟨x1, hx1⟩ : ∃ x1, x1 = crcSum (((l.drop a).take m).drop 4) := ⟨_, rfl⟩
        obtain ⟨x2, hx2⟩ : ∃ x2, x2 = leNum ((l.drop a).take 4) := ⟨_, rfl⟩
        rw [← hx1] at PS HR
        rw [← hx2] at SI HR
        have FF := Lib.hid (fun W (s : Still wr W) => (show W.rangeAt g4 0 [.slice (some ⟨b, o, none⟩) n c, .slice (some ⟨gs, 0, none⟩) K cs] from fun j u hj => by
          rw [Nat.zero_add, ((BX.out.still SWR.out).still s).cell j, List.getElem?_toArray]
          exact hj))
        have HTT := Lib.hid (show m = sizE (l.drop a) ∧ m ≤ n - a ∧ (tagE (l.drop a) ≠ 2 → 41 ≤ m) ∧ 9 ≤ m from ⟨t1, by omega, fun h => by rw [t1]; exact t7 h, by omega⟩)
        have a9 : a ≤ 1048576 := by omega
        have m9 : m ≤ 16425 := by omega
        have i1 : IntKind.i64.wrap ((a : Int) + 4) = ((a + 4 : Nat) : Int) := by rw [IntKind.wrap_i64]; omega
        have i2 : IntKind.i64.wrap ((a : Int) + (m : Int)) = ((a + m : Nat) : Int) := by rw [IntKind.wrap_i64]; omega
        have i3 : (a : Int) + (m : Int) ≤ (c : Int) := by omega
        have i4 : ¬ c = a := by omega
        clear hx1 hx2 t1 t2 t3 t4 t5 t6 t7 t8 HT RDW MKS
        go_upto_region 6 with fail
        refine wp_region_held_drew (S := fun W => W.rangeAt g4 0 [.slice (some ⟨b, o, none⟩) n c, .slice (some ⟨gs, 0, none⟩) K cs]) (by kernel_rfl) (FF.out _ ((Still.refl _).drew)) (fun hHeld => ?_)
        obtain ⟨wa, hwa⟩ : ∃ wa, wa = wr.drew := ⟨_, rfl⟩
        have SA := Lib.hid (show Still wr wa by rw [hwa]; exact (Still.refl _).drew)
        try rw [← hwa] at hHeld
        rw [← hwa]
        clear hwa
        try simp only [Act.put, List.setIfInBounds_toArray, List.set_cons_zero, List.set_cons_succ]
        refine wpAnyH_take (i := 0) (v := .int .i64 0) rfl (by kernel_rfl) (by kernel_rfl) (by kernel_rfl) (fun _ _ _ h => h) (Or.inl ⟨by kernel_rfl, fun W hS => by go_simp⟩) (by assumption) ?_
        try simp only [Act.put, List.setIfInBounds_toArray, List.set_cons_zero, List.set_cons_succ]
        refine wpAnyH_take (i := 1) (v := (.bool false)) rfl (by kernel_rfl) (by kernel_rfl) (by kernel_rfl) (fun _ _ _ h => h) (Or.inl ⟨by kernel_rfl, fun W hS => by go_simp⟩) (by assumption) ?_
        try simp only [Act.put, List.setIfInBounds_toArray, List.set_cons_zero, List.set_cons_succ]
        refine wpAnyH_take (i := 2) (v := (.bool false)) rfl (by kernel_rfl) (by kernel_rfl) (by kernel_rfl) (fun _ _ _ h => h) (Or.inl ⟨by kernel_rfl, fun W hS => by go_simp⟩) (by assumption) ?_
        try simp only [Act.put, List.setIfInBounds_toArray, List.set_cons_zero, List.set_cons_succ]
        refine wpAnyH_take (i := 3) (oi := ⟨some 24, .load 77 (.tmp 4), _, _, _, _⟩) (v := .agg #[.slice (some ⟨b, o, none⟩) n c, .slice (some ⟨gs, 0, none⟩) K cs]) rfl (by kernel_rfl) (by kernel_rfl) (by kernel_rfl) (fun _ _ _ h => h) ?hy3 (by assumption) ?_
        case hy3 =>
          refine yieldsIf_load_mid ?hw 77 (.tmp 4) ?ho g4 0 ?hx [.slice (some ⟨b, o, none⟩) n c, .slice (some ⟨gs, 0, none⟩) K cs] _ (fun W h => h) HU2.out rfl (by rw [sizeMk]; rfl)
          case hw => kernel_rfl
          case ho => rfl
          case hx => kernel_rfl
        try simp only [Act.put, List.setIfInBounds_toArray, List.set_cons_zero, List.set_cons_succ]
        refine wpAnyH_take (i := 4) (v := .int .i64 (a : Int)) rfl (by kernel_rfl) (by kernel_rfl) (by kernel_rfl) (fun _ _ _ h => h) (Or.inl ⟨by kernel_rfl, fun W hS => by go_simp⟩) (by assumption) ?_
        try simp only [Act.put, List.setIfInBounds_toArray, List.set_cons_zero, List.set_cons_succ]
        refine wpAnyH_take (i := 5) (v := .int .i64 ((a + 4 : Nat) : Int)) rfl (by kernel_rfl) (by kernel_rfl) (by kernel_rfl) (fun _ _ _ h => h) (Or.inl ⟨by kernel_rfl, fun W hS => by go_simp⟩) (by assumption) ?_
        try simp only [Act.put, List.setIfInBounds_toArray, List.set_cons_zero, List.set_cons_succ]
        refine wpAnyH_take (i := 6) (v := .int .i64 (a : Int)) rfl (by kernel_rfl) (by kernel_rfl) (by kernel_rfl) (fun _ _ _ h => h) (Or.inl ⟨by kernel_rfl, fun W hS => by go_simp⟩) (by assumption) ?_
        try simp only [Act.put, List.setIfInBounds_toArray, List.set_cons_zero, List.set_cons_succ]
        refine wpAnyH_take (i := 7) (v := .int .i64 (m : Int)) rfl (by kernel_rfl) (by kernel_rfl) (by kernel_rfl) (fun _ _ _ h => h) (Or.inl ⟨by kernel_rfl, fun W hS => by go_simp⟩) (by assumption) ?_
        try simp only [Act.put, List.setIfInBounds_toArray, List.set_cons_zero, List.set_cons_succ]
        refine wpAnyH_take (i := 8) (v := .int .i64 ((a + m : Nat) : Int)) rfl (by kernel_rfl) (by kernel_rfl) (by kernel_rfl) (fun _ _ _ h => h) (Or.inl ⟨by kernel_rfl, fun W hS => by go_simp⟩) (by assumption) ?_
        try simp only [Act.put, List.setIfInBounds_toArray, List.set_cons_zero, List.set_cons_succ]
        refine wpAnyH_take (i := 10) (v := .slice (some ⟨b, o, none⟩) n c) rfl (by kernel_rfl) (by kernel_rfl) (by kernel_rfl) (fun _ _ _ h => h) (Or.inl ⟨by kernel_rfl, fun W hS => by go_simp⟩) (by assumption) ?_
        try simp only [Act.put, List.setIfInBounds_toArray, List.set_cons_zero, List.set_cons_succ]
        refine wpAnyH_take (i := 11) (v := .int .i64 (a : Int)) rfl (by kernel_rfl) (by kernel_rfl) (by kernel_rfl) (fun _ _ _ h => h) (Or.inl ⟨by kernel_rfl, fun W hS => by go_simp⟩) (by assumption) ?_
        try simp only [Act.put, List.setIfInBounds_toArray, List.set_cons_zero, List.set_cons_succ]
        refine wpAnyH_take (i := 12) (v := .slice (some ⟨b, o + a, none⟩) (n - a) (c - a)) rfl (by kernel_rfl) (by kernel_rfl) (by kernel_rfl) (fun _ _ _ h => h) (Or.inl ⟨by kernel_rfl, fun W hS => by go_simp⟩) (by assumption) ?_
        try simp only [Act.put, List.setIfInBounds_toArray, List.set_cons_zero, List.set_cons_succ]
        refine wpAnyH_ready (rs := [9]) (by kernel_rfl) (by simp) ?_
        refine AllReadyH.cons (o := ⟨some 30, .call { callee := .value (.func 42), args := #[.tmp 24, .tmp 26, .tmp 29], argTypes := #[77, 3, 3] }, _, _, _, _⟩) rfl (fun K' hK' => ?_) AllReadyH.nil
        have HK' := Lib.hid hK'
        clear hK'
        go_simp
        go_wp2_with (go_at_call 42; refine (PS.out _ SA.out).mono ?_; rintro e w5 ⟨rfl, s5⟩; have Sw5 := Lib.hid (Still.trans SA.out s5); clear s5)
        refine HK'.out.out _ _ (FF.out _ Sw5.out) (fun hHeld => ?_)
        clear HK' K'
        try simp only [Act.put, List.setIfInBounds_toArray, List.set_cons_zero, List.set_cons_succ]
        refine wpAnyH_ready (rs := [13]) (by kernel_rfl) (by simp) ?_
        refine AllReadyH.cons (o := ⟨some 34, .call { callee := .value (.func 36), args := #[.tmp 33], argTypes := #[24] }, _, _, _, _⟩) rfl (fun K' hK' => ?_) AllReadyH.nil
        have HK' := Lib.hid hK'
        clear hK'
        go_simp
        go_wp2_with (go_at_call 36; refine (SI.out _ Sw5.out).mono ?_; rintro e w6 ⟨rfl, rfl⟩)
        refine HK'.out.out _ _ (FF.out _ Sw5.out) (fun hHeld => ?_)
        clear HK' K'
        have hx12 : x1 < 4294967296 ∨ True := .inr True.intro
        by_cases hs : x1 = x2
        · have b1 : ((x1 : Int) != (x2 : Int)) = false := by simp; omega
          have HE0 := Lib.hid (show rdE (l.drop a) = 0 by rw [HR.out, if_neg (by decide), if_pos hs])
          clear hs HR PS SI hx12
          try simp only [Act.put, List.setIfInBounds_toArray, List.set_cons_zero, List.set_cons_succ]
          refine wpAnyH_take (i := 14) (v := (.bool false)) rfl (by kernel_rfl) (by kernel_rfl) (by kernel_rfl) (fun _ _ _ h => h) (Or.inl ⟨by kernel_rfl, fun W hS => by go_simp⟩) (by assumption) ?_
          try simp only [Act.put, List.setIfInBounds_toArray, List.set_cons_zero, List.set_cons_succ]
          refine wpAnyH_take (i := 15) (v := (.bool false)) rfl (by kernel_rfl) (by kernel_rfl) (by kernel_rfl) (fun _ _ _ h => h) (Or.inl ⟨by kernel_rfl, fun W hS => by go_simp⟩) (by assumption) ?_
          try simp only [Act.put, List.setIfInBounds_toArray, List.set_cons_zero, List.set_cons_succ]
          refine wpAnyH_done (by kernel_rfl) ?_ _
          clear FF SA hHeld b1 i1
          go_simp
          obtain ⟨t, ht⟩ : ∃ t : Int, t = ((tagE (l.drop a) : Nat) : Int) := ⟨_, rfl⟩
          obtain ⟨Kk, hKk⟩ : ∃ Kk, Kk = keyR (tagE (l.drop a)) ((l.drop a).take m) := ⟨_, rfl⟩
          obtain ⟨D, hD⟩ : ∃ D, D = datR (tagE (l.drop a)) ((l.drop a).take m) := ⟨_, rfl⟩
          rw [← ht, ← hKk, ← hD] at EN
          have KL := Lib.hid (show Kk.length = 32 by rw [hKk]; exact keyR_len _ _ (fun h => by rw [List.length_take, LL.out]; have h1 := HTT.out.2.2.1 h; have := HTT.out.2.1; omega))
          have FO := Lib.hid (show fo l a = ⟨t, Kk, D, a, m⟩ by
            unfold fo rdT rdK rdD rdN
            rw [if_pos HE0.out, if_pos HE0.out, if_pos HE0.out, if_pos HE0.out, ← HTT.out.1, ht, hKk, hD])
          obtain ⟨F, xs, k, oF, hF, hFa, hka, hsc⟩ := HE.out
          have OK := Lib.hid (show ∃ k', l.length - (a + m) ≤ k' ∧ salR l = (F ++ [fo l a]) ++ svF l k' (a + m) by
            obtain ⟨k', rfl⟩ : ∃ k', k = k' + 1 := ⟨k - 1, by have := FC.out; omega⟩
            refine ⟨k', by have := HAN.out; have := HTT.out.2.2.2; omega, ?_⟩
            have hN : rdN (l.drop a) = m := by unfold rdN; rw [if_pos HE0.out, ← HTT.out.1]
            rw [hsc, svF, if_pos (by have := FC.out; omega), if_pos HE0.out, hN]
            simp)
          have OFH := Lib.hid oF
          have HFH := Lib.hid hF
          have FA := Lib.hid hFa
          have i5 : (a : Int) ≤ (a : Int) + (m : Int) := by omega
          have HFIT := Lib.hid (show 9 ≤ m ∧ m ≤ n - a from ⟨HTT.out.2.2.2, HTT.out.2.1⟩)
          clear ht hKk hD oF hF hFa hka hsc HE BADN HTT HE0
          go_wp2_with fail
          refine (EN.out w5 Sw5.out).mono ?_
          rintro e w7 ⟨⟨v2, rfl, own2⟩, s7⟩
          have V2 := Lib.hid (show v2.oneCell' = true by rcases own2.2 with ⟨h, _⟩ | ⟨_, _, _, h, _⟩ <;> (rw [h]; rfl))
          have VF2 := Lib.hid (show ∃ A n c, v2 = Value.slice A n c by obtain ⟨A, c, h, _⟩ := own_form own2; exact ⟨_, _, _, h⟩)
          have SR7 := Lib.hid (show Still wr w7 from Still.trans Sw5.out s7)
          have SW7 := Lib.hid (show Still w2 w7 from Still.trans SWR.out SR7.out)
          have O7 := Lib.hid (show w7.ownsRow w2.heap.size 5 1 v2 D.length (bytesV D) from own_rebase0 own2 (Nat.le_trans SWR.out.size Sw5.out.size))
          have OF7 := Lib.hid (show w7.ownsRow w2.heap.size 55 36 lv F.length xs from OFH.out.kept (row := none) (grown_still0 SR7.out) (by cases lv.ownBlock <;> simp))
          have HF7 := Lib.hid (show HasF w7 w2.heap.size F xs from HasF.keep (fun v n l h => own_still h SR7.out) F xs HFH.out)
          obtain ⟨w8, hw8⟩ : ∃ w8, w8 = w7.alloc (.cells (foV t Kk v2 (a : Int) (m : Int)) 55) := ⟨_, rfl⟩
          obtain ⟨gy, hgy⟩ : ∃ gy, gy = w7.heap.size := ⟨_, rfl⟩
          have S78 := Lib.hid (show Still w7 w8 by rw [hw8]; exact (Still.refl w7).alloc (Nat.le_refl _) _)
          have B8 := Lib.hid (show Blk w8 gy 55 (foV t Kk v2 (a : Int) (m : Int)) by rw [hw8, hgy]; exact Blk.new _ _ _)
          have OF8 := Lib.hid (show w8.ownsRow w2.heap.size 55 36 lv F.length xs from OF7.out.kept (row := none) (grown_still0 S78.out) (by cases lv.ownBlock <;> simp))
          have HW8 := Lib.hid hw8
          have HGY := Lib.hid hgy
          have SW8 := Lib.hid (show Still w2 w8 from Still.trans SW7.out S78.out)
          clear hw8 hgy own2 s7 EN OFH HFH SR7
          go_wp2_with (first
            | (guard_target =~ wpList _ _ _ (Oper.mk (some 49) _ _ _ _ _ :: _) _ _; go_must (refine wpList_buildF w7 rfl (.tmp 46) (.tmp 47) (.tmp 48) rfl t Kk KL.out v2 VF2.out (a : Int) (m : Int) rfl rfl rfl ?_))
            | (guard_target =~ wpList _ _ _ (Oper.mk (some 50) _ _ _ _ _ :: _) _ _; go_must (refine wpList_boxF w7 rfl (.tmp 49) rfl t Kk KL.out v2 VF2.out (a : Int) (m : Int) rfl ?_; rw [← HW8.out, ← HGY.out]))
            | (guard_target =~ wpList _ _ _ (Oper.mk (some 51) _ _ _ _ _ :: _) _ _; go_must (refine wpList_pushF w8 rfl (.tmp 39) (.tmp 50) rfl w2.heap.size lv F.length xs rfl OF8.out gy (foL t Kk v2 (a : Int) (m : Int)) rfl (fun q u hq => (B8.out.cell q).trans (by unfold foV; rw [List.getElem?_toArray]; exact hq)) (foL_len _ _ _ _ _ KL.out) (foL_one _ _ _ _ _ V2.out) (by have := FA.out; have := HAN.out; have := FC.out; omega) SW8.out.size ?_)))
          intro v9 w9 own9 gr9 loc9
          have MID := Lib.hid (show SvMid w2 w9 l v9 (a + m) from by
            obtain ⟨k', hk', hsc'⟩ := OK.out
            refine { ex := ⟨F ++ [fo l a], xs ++ foL t Kk v2 (a : Int) (m : Int), k', by simpa using own9, ?_, by have := FA.out; have := HFIT.out; simp; omega, hk', hsc'⟩, still := SW8.out.grown gr9 SW8.out.size (fun k hk => (OF8.out.lt k hk).1) }
            have k9 : ∀ v n l, w7.ownsRow w2.heap.size 5 1 v n (bytesV l) → w9.ownsRow w2.heap.size 5 1 v n (bytesV l) := fun v n l h => own_apart (own_still h S78.out) OF8.out (by decide) gr9
            rw [FO.out]
            exact HasF.snoc ⟨t, Kk, D, a, m⟩ v2 KL.out (k9 _ _ _ O7.out) F xs (HasF.keep k9 F xs HF7.out))
          clear own9 gr9 loc9 B8 OF7 OF8 HF7 O7 HW8 S78 SW8 FA OK
          go_wp2_with fail
          go_roundw
          case rel => exact ⟨a + m, _, rfl, by go_num, by have := HFIT.out; have := HAN.out; omega, MID.out⟩
          case measure => simp [intOf]; have := HFIT.out; have := HAN.out; omega
        · have b1 : ((x1 : Int) != (x2 : Int)) = true := by simp; omega
          have HE0 := Lib.hid (show rdE (l.drop a) ≠ 0 by rw [HR.out, if_neg (by decide), if_neg hs]; decide)
          clear hs HR PS SI EN hx12
          try simp only [Act.put, List.setIfInBounds_toArray, List.set_cons_zero, List.set_cons_succ]
          refine wpAnyH_take (i := 14) (v := (.bool true)) rfl (by kernel_rfl) (by kernel_rfl) (by kernel_rfl) (fun _ _ _ h => h) (Or.inl ⟨by kernel_rfl, fun W hS => by go_simp⟩) (by assumption) ?_
          try simp only [Act.put, List.setIfInBounds_toArray, List.set_cons_zero, List.set_cons_succ]
          refine wpAnyH_take (i := 15) (v := (.bool true)) rfl (by kernel_rfl) (by kernel_rfl) (by kernel_rfl) (fun _ _ _ h => h) (Or.inl ⟨by kernel_rfl, fun W hS => by go_simp⟩) (by assumption) ?_
          try simp only [Act.put, List.setIfInBounds_toArray, List.set_cons_zero, List.set_cons_succ]
          refine wpAnyH_done (by kernel_rfl) ?_ _
          have MID := Lib.hid (BADN.out HE0.out w5 Sw5.out)
          clear FF SA hHeld BADN b1 i1 i2 i3 i4 HE HTT
          go_simp
          go_wp2_with fail
          go_roundw
          case rel => exact ⟨a + 1, _, rfl, by go_num, by have := HAN.out; omega, MID.out⟩
          case measure => simp [intOf]; have := HAN.out; omega
      · have b0 : (q != 0) = true := by simpa using h0
        have HE0 := Lib.hid (show rdE (l.drop a) ≠ 0 by rw [HR.out, if_pos h0]; exact h0)
        have MIDF := Lib.hid (fun j => BADN.out HE0.out (wr.drewN j) (still_drewN (Still.refl wr) j))
        have a9 : a ≤ 1048576 := by omega
        clear h0 HR HT RDW HE BADN HE0 d2 d3 d4
        go_wp2_with fail
        go_quiet (fail)
        go_wp2_with fail
        go_roundw
        case rel => exact ⟨a + 1, _, rfl, by go_num, by have := HAN.out; omega, MIDF.out _⟩
        case measure => simp [intOf]; have := HAN.out; omega
    · obtain rfl : a = n := by omega
      obtain ⟨F, xs, k, oF, hF, hFa, hka, hsc⟩ := hin.out.ex
      have FIN := Lib.hid (show salR l = F by rw [hsc, svF_end l k a (by have := FC.out; omega)]; simp)
      have OF := Lib.hid oF
      have HF := Lib.hid hF
      have SW := Lib.hid (Still.trans S2.out hin.out.still)
      clear oF hF hFa hka hsc hin
      go_wp2_with fail
      go_ret
      rw [FIN.out]
      exact ⟨⟨lv, xs, rfl, own_rebase0 OF.out S2.out.size, HasF.lower S2.out.size F xs HF.out⟩, SW.out⟩
end Go.Proofs.YtnhkabohccbglaaDoor
