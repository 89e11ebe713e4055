/- Contracts and facts, several texts in one. It proves no statement. -/
import Derived.Test.YtgbkpbmilaafgaaBkGj
import Derived.Deep.DeepCutAuto
import Derived.Deep.RegionHeld3
import Derived.BigQuiet
import Derived.BigFrame
import Derived.StillTailTactics

/- Contract: what Write does to a hasher that New made. It proves no statement. -/






namespace Go.Proofs.Ytgbkpbmilaafgaa
open Go.RowKit
set_option linter.unusedVariables false
set_option linter.unusedSimpArgs false

def RestF (w : World) (g B n : Nat) (l : List UInt8) (v : Value) : Prop := ∃ A c, v = .slice A n c ∧ Reads w B A n l ∧ n ≤ c ∧ c ≤ 9223372036854775807 ∧ Far g A n
theorem RestF.grown {w w' : World} {B g n : Nat} {v : Value} {l : List UInt8} (h : RestF w g B n l v) (hg : w.grownBy w' (some g)) : RestF w' g B n l v := by
  obtain ⟨A, c, e, hr, h1, h2, h3⟩ := h
  exact ⟨A, c, e, hr.grown h3 hg, h1, h2, h3⟩
theorem restF_end {w : World} {g B k : Nat} {A : Option Addr} {l : List UInt8} (hl : l.length = k) : RestF w g B 0 (l.drop k) (.slice A 0 0) := by
  refine ⟨A, 0, rfl, ?_, Nat.le_refl _, by omega, fun _ _ h => by omega⟩
  rw [List.drop_of_length_le (by omega)]
  exact Reads.nil0
theorem restF_drop {w : World} {g B n c k b o : Nat} {l : List UInt8} (h : Reads w B (some ⟨b, o, none⟩) n l) (hk : k ≤ n) (hc : n ≤ c) (hm : c ≤ 9223372036854775807) (hf : Far g (some ⟨b, o, none⟩) n) :
    RestF w g B (n - k) (l.drop k) (.slice (some ⟨b, o + k, none⟩) (n - k) (c - k)) := by
  have r := h.dropk hk
  simp only [Option.map_some, Addr.add_lit] at r
  exact ⟨_, _, rfl, r, by omega, by omega, fun ad e hn => by cases e; exact hf ⟨b, o, none⟩ rfl (by omega)⟩

/-- 'copy(h.rest[off:], b)'. -/
theorem wpList_copy_rest {w : World} {ops : Array Oper} {rest : List Oper} {o : Oper} {a : Act} {Q : Exit → Act → World → Prop} (hgd : o.guard = none) (d s : Operand)
    (ho : o.op = .call { callee := .builtin .copy, args := #[d, s], argTypes := #[27, 27] }) (g seed size kept off dCap : Nat) (v : Nat → Nat) (R : List UInt8) (hb : HB w g seed v size R kept) (hoff : off ≤ 32)
    (hd : a.eval d = .slice (some ⟨g, 6 + off, none⟩) (32 - off) dCap) (A : Option Addr) (n c B : Nat) (l : List UInt8) (hs : a.eval s = .slice A n c) (hr : Reads w B A n l) (k : Nat) (hk : k = min n (32 - off))
    (h : ∀ w', HB w' g seed v size (R.take off ++ (l.take k ++ R.drop (off + k))) kept → w.grownBy w' (some g) → wpList Try.prog ops Q rest (a.put o.dst (.int .i64 (k : Int))) w') : wpList Try.prog ops Q (o :: rest) a w := by
  have hsz : (Try.prog.info? 5).map (·.size) = some 1 := by kernel_rfl
  have hlk : (l.take k).length = k := by rw [List.length_take, hr.1]; omega
  have hR := hb.len
  by_cases h0 : k = 0
  · subst h0
    refine wpList_copy_nothing hgd d s _ _ ho 5 Try.underlying27 hsz _ _ _ _ _ _ hd hs (by show min n (32 - off) = 0; omega) (h w ?_ (World.grownBy.refl _ _))
    rw [List.take_zero, List.nil_append, Nat.add_zero, List.take_append_drop]
    exact hb
  · obtain ⟨b, o', rfl, hbb, hc⟩ := hr.at_ (by omega)
    refine wpList_copy_own hgd d s _ _ ho 5 Try.underlying27 hsz g (6 + off) _ _ ⟨b, o', none⟩ n c hd hs _ _ hb.blk (bytesV (l.take k)) (by rw [bytesV_length, hlk]; exact hk) ?_ ?_ (bytesV_one _) ?_
    · intro j u hu
      exact (hr.takek (k := k) (by omega)).news _ rfl (by omega) j u hu
    · rw [bytesV_length, hlk]
      simp only [List.size_toArray, hcells_length hR]
      omega
    · have e : (List.take (6 + off) (hcells seed v size R kept) ++ (bytesV (l.take k) ++ List.drop (6 + off + (bytesV (l.take k)).length) (hcells seed v size R kept))) = hcells seed v size (R.take off ++ (l.take k ++ R.drop (off + k))) kept := by
        have := hcells_splice (seed := seed) (v := v) (size := size) (kept := kept) hR off (l.take k) (by rw [hlk]; omega)
        rw [hlk] at this
        exact this
      have eg : goInt ((bytesV (l.take k)).length : Int) = Value.int .i64 (k : Int) := by rw [bytesV_length, hlk]; rfl
      have el : (hcells seed v size R kept).toArray.toList = hcells seed v size R kept := by simp
      rw [eg, el, e]
      refine h _ ⟨?_, ?_⟩ ?_
      · exact setRow_heap w g _ _ _ _ hb.blk
      · simp [hlk, hR]; omega
      · exact ⟨rfl, rfl, rfl, by simp [World.setRow], fun j _ hj => setRow_other w g j _ (fun e => hj (by rw [e]))⟩

theorem xRun_block (s i : Nat) (a x blk : List UInt8) (q : Nat) (hi : i < 4) (hq : 32 * q ≤ a.length) (hblk : (a ++ x).drop (32 * q) = blk) : xLane (xRun s i a q) (xWord blk (8 * i)) = xRun s i (a ++ x) (q + 1) := by
  rw [xRun_succ, xRun_append s i a x q hi hq, ← hblk, xWord_drop]

/-- All whole blocks so far are taken, the rest lies in a slice. -/
def Mid (w : World) (g seed : Nat) (t : List UInt8) (n : Nat) (v : Value) : Prop :=
  ∃ l1 b1 R1 k1 B q, t = l1 ++ b1 ∧ l1.length = 32 * q ∧ HB w g seed (fun k => xRun (xLane0 seed k) k l1 q) t.length R1 k1 ∧ RestF w g B n b1 v

theorem had_end {w : World} {g seed n q : Nat} {t l1 b1 R1 : List UInt8} (ht : t = l1 ++ b1) (hl : l1.length = 32 * q) (hn : b1.length = n) (hn32 : n < 32) (hlen : t.length ≤ 70368744177664)
    (hb : HB w g seed (fun k => xRun (xLane0 seed k) k l1 q) t.length (R1.take 0 ++ (b1.take n ++ R1.drop (0 + n))) n) : Had w g seed t := by
  have htl : t.length = 32 * q + n := by rw [ht, List.length_append, hl, hn]
  have hq : t.length / 32 = q := by omega
  have hk : t.length % 32 = n := by omega
  refine ⟨R1.take 0 ++ (b1.take n ++ R1.drop (0 + n)), ?_, ?_, hlen⟩
  · rw [hk, hq]
    exact hb.congr fun k hk => by rw [ht, xRun_append _ _ _ _ _ hk (by omega)]
  · rw [hk, hq, ht, List.drop_left' hl, List.take_zero, List.nil_append]
    have e1 : b1.take n = b1 := List.take_of_length_le (by omega)
    rw [e1, List.take_left' hn]

theorem had_small {w : World} {g seed n q kp : Nat} {l b R : List UInt8} (hl : l.length = 32 * q + kp) (hkp : kp < 32) (hR : R.take kp = l.drop (32 * q)) (hn : b.length = n) (hn32 : kp + n < 32) (hlen : l.length + n ≤ 70368744177664)
    (hb : HB w g seed (fun k => xRun (xLane0 seed k) k l q) (l.length + n) (R.take kp ++ (b.take n ++ R.drop (kp + n))) (kp + n)) : Had w g seed (l ++ b) := by
  have htl : (l ++ b).length = 32 * q + (kp + n) := by rw [List.length_append, hl, hn]; omega
  have hq : (l ++ b).length / 32 = q := by omega
  have hk : (l ++ b).length % 32 = kp + n := by omega
  refine ⟨R.take kp ++ (b.take n ++ R.drop (kp + n)), ?_, ?_, by rw [List.length_append, hn]; exact hlen⟩
  · rw [hk, hq, List.length_append, hn]
    exact hb.congr fun k hk => by rw [xRun_append _ _ _ _ _ hk (by omega)]
  · rw [hk, hq, List.drop_append_of_le_length (by omega), hR]
    have e1 : b.take n = b := List.take_of_length_le (by omega)
    have e2 : (l.drop (32 * q)).length = kp := by rw [List.length_drop, hl]; omega
    rw [e1, ← List.append_assoc, List.take_left' (by rw [List.length_append, e2, hn])]

set_option maxRecDepth 100000 in
set_option maxHeartbeats 3200000 in
theorem write_any (g seed : Nat) (l b : List UInt8) (A : Option Addr) (n c : Nat) (w : World) (B : Nat) (h : Had w g seed l) (hr : Reads w B A n b) (hc : n ≤ c) (hm : c ≤ 9223372036854775807) (hf : Far g A n) (hA : A = none → c = 0) (hlen : l.length + n ≤ 70368744177664) :
    Calls Try.prog 73 #[.pointer (some ⟨g, 0, none⟩), .slice A n c] w fun e w' => e = .returned (.tuple #[]) ∧ Had w' g seed (l ++ b) ∧ w.grownBy w' (some g) := by
  obtain ⟨R, hb, hR, hll⟩ := h
  obtain ⟨m, hm'⟩ : ∃ m, m = l.length := ⟨_, rfl⟩
  obtain ⟨q, hq⟩ : ∃ q, q = l.length / 32 := ⟨_, rfl⟩
  obtain ⟨kp, hkp⟩ : ∃ k, k = l.length % 32 := ⟨_, rfl⟩
  have hl : l.length = 32 * q + kp := by omega
  have hk32 : kp < 32 := by omega
  rw [← hq, ← hkp, ← hm'] at hb
  rw [← hkp, ← hq] at hR
  obtain ⟨mn, hmn⟩ : ∃ mn, mn = m + n := ⟨_, rfl⟩
  have htl : (l ++ b).length = mn := by rw [List.length_append, hr.1, hmn, hm']
  have hmn2 : mn ≤ 70368744177664 := by omega
  have es : IntKind.u64.wrap ((m : Int) + (n : Int)) = (mn : Int) := by rw [IntKind.wrap_u64]; omega
  obtain ⟨tt, htt⟩ : ∃ tt, tt = l ++ b := ⟨_, rfl⟩
  rw [← htt] at htl ⊢
  have cz := hb.sizec
  have ck := hb.keptc
  have cm := hb.made
  have f5 := hb.frozen 5
  have hb1 := hb.setSize mn
  have gr1 := grownBy_set w g 5 (.int .u64 (mn : Int))
  have hr1 : Reads (w.setCell ⟨g, 5, none⟩ (.int .u64 (mn : Int))) B A n b := hr.grown hf gr1
  have ck1 := hb1.keptc
  have HL := Lib.hid hl
  have HR := Lib.hid hR
  have HTT := Lib.hid htt
  have HTL := Lib.hid htl
  have HMN := Lib.hid hmn
  have HM := Lib.hid hm'
  have HFAR := Lib.hid hf
  clear hb hm' hq hkp hl hR hmn htl htt hll hr hf
  go_enter Try.func73, Try.ntmps73
  go_upto_if 28 with fail
  clear cz ck cm f5
  generalize w.setCell ⟨g, 5, none⟩ (.int .u64 (mn : Int)) = w1 at *
  have HB1 := Lib.hid hb1
  have GR1 := Lib.hid gr1
  have HR1 := Lib.hid hr1
  clear hb1 gr1 hr1 es
  go_cut [1] (fun s1 wx => ∃ n', Mid wx g seed tt n' s1 ∧ w.grownBy wx (some g))
  case first =>
    by_cases h0 : 0 < kp
    · obtain ⟨k, hk⟩ : ∃ k, k = min n (32 - kp) := ⟨_, rfl⟩
      obtain ⟨kk, hkk⟩ : ∃ kk, kk = kp + k := ⟨_, rfl⟩
      have z0 : (0 : Int) < (kp : Int) := by omega
      have z1 : (0 : Int) ≤ (kp : Int) := by omega
      have z2 : (kp : Int) ≤ 32 := by omega
      have z3 : ¬ 32 = kp := by omega
      have hbd : HB w1.drew g seed (fun k => xRun (xLane0 seed k) k l q) mn R kp := HB1.out.keepb rfl
      have hrd : Reads w1.drew B A n b := HR1.out.keep fun _ _ => rfl
      have HBD := Lib.hid hbd
      have HRD := Lib.hid hrd
      have HK := Lib.hid hk
      have HKK := Lib.hid hkk
      have HAN := Lib.hid hA
      have hk1 : k ≤ n := by omega
      have hkc : k ≤ c := by omega
      have hkk1 : kk ≤ 32 := by omega
      have ekk : IntKind.i64.wrap ((kp : Int) + (k : Int)) = (kk : Int) := by rw [IntKind.wrap_i64]; omega
      clear hbd hrd hk hkk hA
      go_wp2_with fail
      go_still_tail 9, (by kernel_rfl)
      · repeat still_step
        change wpList _ _ _ _ _ w1.drew
        refine wpList_copy_rest rfl (.tmp 36) (.tmp 37) rfl g seed mn kp kp (32 - kp) _ R HBD.out (by omega) rfl A n c B b rfl HRD.out k HK.out ?_
        intro w3 hb3 gr3
        have ck3 := hb3.keptc
        have f38 := hb3.frozen 38
        have hb4 := hb3.setKept kk
        have ck4 := hb4.keptc
        have gr4 := (GR1.out.trans (show w1.grownBy w3 (some g) from ⟨gr3.os, gr3.tape, gr3.output, gr3.size, gr3.block⟩)).trans (grownBy_set w3 g 38 (.int .i64 (kk : Int)))
        have rd4 : Reads (w3.setCell ⟨g, 38, none⟩ (.int .i64 (kk : Int))) B A n b := (HRD.out.grown HFAR.out gr3).grown HFAR.out (grownBy_set w3 g 38 (.int .i64 (kk : Int)))
        have HB4 := Lib.hid hb4
        have GR4 := Lib.hid gr4
        have RD4 := Lib.hid rd4
        clear hb3 gr3 hb4 gr4 rd4 ck1
        go_upto_region 5 with fail
        generalize w3.setCell ⟨g, 38, none⟩ (.int .i64 (kk : Int)) = w4 at *
        clear ck3 f38
        have y0 : (0 : Int) ≤ (k : Int) := by omega
        have y1 : (k : Int) ≤ (n : Int) := by omega
        have y2 : (k : Int) ≤ (c : Int) := by omega
        have HX := Lib.hid (show k ≤ n ∧ k ≤ c ∧ kk ≤ 32 from ⟨hk1, hkc, hkk1⟩)
        have fin1 : kk < 32 → Had w4 g seed tt ∧ w.grownBy w4 (some g) := by
          intro hlt
          have e1 := HK.out
          have e2 := HKK.out
          have e3 : k = n := by omega
          refine ⟨?_, GR4.out⟩
          rw [HTT.out]
          have hb5 := HB4.out
          have e4 := HMN.out
          have e5 := HM.out
          rw [e3] at e2
          refine had_small HL.out hk32 HR.out RD4.out.1 (by omega) hlen ?_
          rw [← e5, ← e4]
          rw [e3, e2] at hb5
          exact hb5
        have HF1 := Lib.hid fin1
        have fin2 : ¬ kk < 32 → kk = 32 ∧ k = 32 - kp := by
          intro hge
          have e1 := HK.out
          have e2 := HKK.out
          omega
        have HF2 := Lib.hid fin2
        clear fin1 fin2 hk1 hkc hkk1 z0 z1 z2 z3 ekk
        by_cases hlt : kk < 32
        · have y3 : (kk : Int) < 32 := by omega
          by_cases hck : c = k
          · subst hck
            go_wp2_with fail
            (try simp only [Exit.inBlock, Exit.then])
            refine bodyPost_ret (results_none rfl _ _ _) rfl ?_
            exact ⟨rfl, HF1.out hlt⟩
          · go_wp2_with fail
            (try simp only [Exit.inBlock, Exit.then])
            refine bodyPost_ret (results_none rfl _ _ _) rfl ?_
            exact ⟨rfl, HF1.out hlt⟩
        · obtain ⟨e32, ek⟩ := HF2.out hlt
          subst e32
          rw [show ((32 : Nat) : Int) = 32 from rfl] at ck4
          have R2len := HB4.out.len
          have hR2 : (l ++ b.take k).drop (32 * q) = R.take kp ++ (b.take k ++ R.drop (kp + k)) := by
            have e2 : kp + k = 32 := by omega
            have hRl : R.length = 32 := HBD.out.len
            rw [e2, List.drop_of_length_le (show R.length ≤ 32 by omega), List.append_nil, HR.out, List.drop_append_of_le_length (by have := HL.out; omega)]
          have hl1 : (l ++ b.take k).length = 32 * (q + 1) := by
            have e1 := HL.out
            have e2 := RD4.out.1
            have e3 := HX.out.1
            rw [List.length_append, List.length_take]
            omega
          have TB := Lib.hid (takeBlock_any g seed mn 32 _ _ _ 32 _ w4 (g + 1) HB4.out.reads (by omega) (by omega) HB4.out)
          have HR2 := Lib.hid hR2
          have HL1 := Lib.hid hl1
          have HLT := Lib.hid hlt
          have HEK := Lib.hid ek
          clear hR2 hl1 hlt ek
          by_cases hck : c = k
          · subst hck
            obtain rfl : n = c := by have := HX.out.1; omega
            go_wp2_with fail
            refine TB.out.mono ?_
            rintro e w5 ⟨rfl, hb5, gr5⟩
            have hb6 : HB w5 g seed (fun i => xRun (xLane0 seed i) i (l ++ b.take n) (q + 1)) mn (R.take kp ++ (b.take n ++ R.drop (kp + n))) 32 :=
              hb5.congr fun i hi => xRun_block _ i l (b.take n) _ q hi (by have := HL.out; omega) HR2.out
            have gr6 := GR4.out.trans gr5
            have rd6 := RD4.out.grown HFAR.out gr5
            have htt2 : tt = (l ++ b.take n) ++ b.drop n := by rw [List.append_assoc, List.take_append_drop]; exact HTT.out
            have HB6 := Lib.hid hb6
            have GR6 := Lib.hid gr6
            have RD6 := Lib.hid rd6
            have HT6 := Lib.hid htt2
            clear hb5 gr5 hb6 gr6 rd6 htt2
            go_wp2_with fail
            go_meet
            case rel =>
              refine ⟨0, ⟨_, _, _, 32, B, q + 1, HT6.out, HL1.out, by rw [HTL.out]; exact HB6.out, restF_end RD6.out.1⟩, GR6.out⟩
          · obtain ⟨ad, rfl⟩ : ∃ ad, A = some ad := by
              rcases A with _ | ad
              · exact absurd (HAN.out rfl) (by have := HX.out.1; omega)
              · exact ⟨ad, rfl⟩
            go_wp2_with fail
            refine TB.out.mono ?_
            rintro e w5 ⟨rfl, hb5, gr5⟩
            have hb6 : HB w5 g seed (fun i => xRun (xLane0 seed i) i (l ++ b.take k) (q + 1)) mn (R.take kp ++ (b.take k ++ R.drop (kp + k))) 32 :=
              hb5.congr fun i hi => xRun_block _ i l (b.take k) _ q hi (by have := HL.out; omega) HR2.out
            have gr6 := GR4.out.trans gr5
            have rd6 := RD4.out.grown HFAR.out gr5
            have htt2 : tt = (l ++ b.take k) ++ b.drop k := by rw [List.append_assoc, List.take_append_drop]; exact HTT.out
            have HB6 := Lib.hid hb6
            have GR6 := Lib.hid gr6
            have RD6 := Lib.hid rd6
            have HT6 := Lib.hid htt2
            clear hb5 gr5 hb6 gr6 rd6 htt2
            go_wp2_with fail
            go_meet
            case rel =>
              obtain ⟨b0, o0, e0, _, _⟩ | h0 : (∃ b0 o0, ad = ⟨b0, o0, none⟩ ∧ True ∧ True) ∨ n = 0 := by
                rcases Nat.eq_zero_or_pos n with h0 | h0
                · exact .inr h0
                · obtain ⟨b0, o0, e0, _⟩ := RD6.out.at_ h0
                  exact .inl ⟨b0, o0, Option.some.inj e0, trivial, trivial⟩
              · subst e0
                refine ⟨n - k, ⟨_, _, _, 32, B, q + 1, HT6.out, HL1.out, by rw [HTL.out]; exact HB6.out, ?_⟩, GR6.out⟩
                simp only [Addr.add_lit]
                exact restF_drop RD6.out HX.out.1 hc hm HFAR.out
              · subst h0
                refine ⟨0 - k, ⟨_, _, _, 32, B, q + 1, HT6.out, HL1.out, by rw [HTL.out]; exact HB6.out, ?_⟩, GR6.out⟩
                have hk0 : k = 0 := by have := HX.out.1; omega
                subst hk0
                have hbn : b = [] := List.eq_nil_of_length_eq_zero RD6.out.1
                subst hbn
                exact ⟨_, _, rfl, Reads.nil0, by omega, by omega, fun _ _ h => absurd h (by omega)⟩
    · obtain rfl : kp = 0 := by omega
      rw [show ((0 : Nat) : Int) = 0 from rfl] at ck1 ⊢
      go_wp2_with fail
      go_meet
      case rel =>
        refine ⟨n, ⟨l, b, R, 0, B, q, HTT.out, by have := HL.out; omega, ?_, A, c, rfl, HR1.out, hc, hm, HFAR.out⟩, GR1.out⟩
        rw [HTL.out]
        exact HB1.out
  case rest =>
    obtain ⟨n', hmid, gr⟩ := hcut
    clear ck1 HB1 GR1 HR1 HFAR HL HR hk32 hc hm hlen
    go_wp2_with fail
    go_loopg [1] n' (fun n1 sv wr => Mid wr g seed tt n1 sv ∧ w.grownBy wr (some g))
    case atStart => exact ⟨hmid, gr⟩
    case round =>
      obtain ⟨⟨l1, b1, R1, k1, B1, q1, ht1, hl1, hb, A1, c1, rfl, hr1, hc1, hm1, hf1⟩, gr⟩ := hrel
      by_cases h32 : 32 ≤ gk
      · obtain ⟨bb, o, rfl, hbb, hcc⟩ := hr1.at_ (by omega)
        clear hcc
        have z32 : (32 : Int) ≤ (gk : Int) := by omega
        have hbl : b1.length = gk := hr1.1
        have TB := Lib.hid (takeBlock_any g seed tt.length k1 _ R1 _ c1 _ wr B1 (hr1.takek (k := 32) (by omega)) (by omega) hm1 hb)
        have HT1 := Lib.hid ht1
        have HL1 := Lib.hid hl1
        have HR1 := Lib.hid hr1
        have HF1 := Lib.hid hf1
        have GR := Lib.hid gr
        have HBL := Lib.hid hbl
        clear ht1 hl1 hb hr1 hf1 gr hbl
        go_wp2_with fail
        refine TB.out.mono ?_
        rintro e w2 ⟨rfl, hb2, gr2⟩
        have ht2 : tt = (l1 ++ b1.take 32) ++ b1.drop 32 := by rw [List.append_assoc, List.take_append_drop]; exact HT1.out
        have hl2 : (l1 ++ b1.take 32).length = 32 * (q1 + 1) := by rw [List.length_append, List.length_take, HL1.out, HBL.out]; omega
        have hb3 : HB w2 g seed (fun k => xRun (xLane0 seed k) k (l1 ++ b1.take 32) (q1 + 1)) tt.length R1 k1 :=
          hb2.congr fun k hk => xRun_block _ k l1 (b1.take 32) _ q1 hk (by rw [HL1.out]; omega) (List.drop_left' HL1.out)
        have HT2 := Lib.hid ht2
        have HL2 := Lib.hid hl2
        have HB3 := Lib.hid hb3
        have GR2 := Lib.hid (GR.out.trans gr2)
        have rest2 := (show RestF wr g B1 gk b1 (.slice (some ⟨bb, o, none⟩) gk c1) from ⟨_, _, rfl, HR1.out, hc1, hm1, HF1.out⟩).grown gr2
        obtain ⟨A9, c9, e9, hr9, hc9, hm9, hf9⟩ := rest2
        injection e9 with e91 e92 e93
        subst e91 e93
        have HR9 := Lib.hid hr9
        have HF9 := Lib.hid hf9
        clear ht2 hl2 hb3 hb2 gr2 hr9 hf9 e92
        by_cases hc8 : c1 = 32
        · subst hc8
          obtain rfl : gk = 32 := by omega
          go_wp2_with fail
          go_roundg 0
          case measure => omega
          case rel => exact ⟨⟨_, _, R1, k1, B1, q1 + 1, HT2.out, HL2.out, HB3.out, restF_end HBL.out⟩, GR2.out⟩
        · go_wp2_with fail
          go_roundg (gk - 32)
          case measure => omega
          case rel => exact ⟨⟨_, _, R1, k1, B1, q1 + 1, HT2.out, HL2.out, HB3.out, restF_drop HR9.out h32 hc1 hm1 HF9.out⟩, GR2.out⟩
      · have z32 : (gk : Int) < 32 := by omega
        have HT1 := Lib.hid ht1
        have HL1 := Lib.hid hl1
        have HBB := Lib.hid hb
        have GR := Lib.hid gr
        clear ht1 hl1 hb gr
        have HRR := Lib.hid hr1
        clear hr1
        go_wp2_with (refine wpList_copy_rest (o := ⟨some 76, _, _, _, _, _⟩) rfl (.tmp 74) (.tmp 75) rfl g seed tt.length k1 0 32 _ R1 HBB.out (by omega) rfl A1 gk c1 B1 b1 rfl HRR.out gk (by omega) ?_; intro w3 hb3 gr3; have ck := hb3.keptc; have f38 := hb3.frozen 38)
        go_end0
        have hlast := hb3.setKept gk
        refine ⟨rfl, had_end HT1.out HL1.out HRR.out.1 (by omega) (by rw [HTL.out]; exact hmn2) hlast, (GR.out.trans gr3).trans (grownBy_set _ _ _ _)⟩
end Go.Proofs.Ytgbkpbmilaafgaa

/- Contract: a text's sum at once. It proves no statement. -/

namespace Go.Proofs.Ytgbkpbmilaafgaa
open Go.RowKit
set_option linter.unusedVariables false
set_option linter.unusedSimpArgs false

theorem xsum_any (A : Option Addr) (n c : Nat) (l : List UInt8) (seed : Nat) (w : World) (B : Nat) (h : Reads w B A n l) (hB : B ≤ w.heap.size) (hn : n ≤ 70368744177664) (hnc : n ≤ c) (hc : c ≤ 9223372036854775807) (hA : A = none → c = 0) (hs : seed < m64) :
    Calls Try.prog 48 #[.slice A n c, .int .u64 seed] w fun e w' => e = .returned (.int .u64 (xxSum l seed : Nat)) ∧ Still w w' := by
  obtain ⟨X, hX⟩ : ∃ X, X = xxSum l seed := ⟨_, rfl⟩
  rw [← hX]
  have HX := Lib.hid hX
  clear hX
  go_enter Try.func48, Try.ntmps48
  go_wp2_with fail
  refine (new_any seed w hs).mono ?_
  rintro e w1 ⟨rfl, hd, s1⟩
  have W := Lib.hid (write_any w.heap.size seed [] l A n c w1 B hd (h.still hB s1) hnc hc (far_low (h.still hB s1) hB) hA (by simpa using hn))
  have S1 := Lib.hid s1
  clear hd s1
  go_wp2_with fail
  refine W.out.mono ?_
  rintro e w2 ⟨rfl, hd2, gr⟩
  have s2 := still_grown S1.out gr (Nat.le_refl _)
  rw [List.nil_append] at hd2
  have M := Lib.hid (msum_any w.heap.size seed l w2 hd2 hs)
  have S2 := Lib.hid s2
  clear hd2 gr s2 W
  rw [← HX.out] at M
  go_wp2_with fail
  refine M.out.mono ?_
  rintro e w3 ⟨rfl, s3⟩
  go_wp2_with fail
  go_ret
  exact ⟨rfl, S2.out.trans s3⟩
end Go.Proofs.Ytgbkpbmilaafgaa
