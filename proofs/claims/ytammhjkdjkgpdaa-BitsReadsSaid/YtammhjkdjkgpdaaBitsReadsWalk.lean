/- The walk of BitsReads: it returns true, and nothing that was there turns. -/
import Derived.Test.YtammhjkdjkgpdaaPoke
namespace Go.Proofs.Ytammhjkdjkgpdaa
open Go.RowKit
set_option linter.unusedVariables false
set_option linter.unusedSimpArgs false

/-- Outside the blocks from a to b nothing has turned. -/
structure Out (w w' : World) (a b : Nat) : Prop where
  os : w'.os = w.os
  tape : w'.tape = w.tape
  output : w'.output = w.output
  size : w'.heap.size = w.heap.size
  block : ∀ j, j < a ∨ b ≤ j → w'.heap[j]? = w.heap[j]?
theorem Out.refl (w : World) (a b : Nat) : Out w w a b := ⟨rfl, rfl, rfl, rfl, fun _ _ => rfl⟩
theorem Out.set {w0 w : World} {a b : Nat} (h : Out w0 w a b) {p : Addr} (h1 : a ≤ p.block) (h2 : p.block < b) (u : Value) : Out w0 (w.setCell p u) a b :=
  ⟨h.os, h.tape, h.output, by simpa [World.setCell] using h.size, fun j hj => (Below.heap_setCell w p u j (by omega)).trans (h.block j hj)⟩

set_option maxRecDepth 100000 in
set_option maxHeartbeats 3200000 in
theorem bitsReads_walk (A0 : Option Addr) (n0 c0 : Nat) (z0 : List Int) (A1 : Option Addr) (n1 c1 : Nat) (w : World) (h0 : RowIn .u8 w A0 n0 c0 z0) (h1 : Pairs w A1 n1) :
    Calls Try.prog 6 #[.slice A0 n0 c0, .slice A1 n1 c1] w fun e w' => e = .returned (.bool true) ∧ Below w.heap.size w w' := by
  obtain ⟨l0, r0, hc0, hm0, hA0⟩ := reads_of_row h0
  obtain ⟨hn1, hz1⟩ := h1
  obtain ⟨n, l, rl, hn, hnc, hA, hcut⟩ : ∃ n l, Reads w w.heap.size A0 n l ∧ n ≤ 300 ∧ n ≤ c0 ∧ (A0 = none → n = 0 ∧ c0 = 0) ∧ Calls Try.prog 17 #[.slice A0 n0 c0, .int .i64 300] w fun e w' => e = .returned (.slice A0 n c0) ∧ w = w' :=
    ⟨_, _, r0.take 300, by omega, by omega, fun e => ⟨by have := (hA0 e).1; omega, (hA0 e).2⟩, cut_any A0 n0 c0 300 l0 w _ r0 hc0 hm0 (by omega)⟩
  have HC := Lib.hid hcut
  have HZ := Lib.hid hz1
  have hc0m : c0 ≤ 9223372036854775807 := hm0
  clear hcut h0 r0 hA0 hm0 hz1
  go_enter Try.func6, Try.ntmps6
  go_wp2_with fail
  refine HC.out.mono ?_
  rintro e w1 ⟨rfl, rfl⟩
  go_wp2_with fail
  refine (copy_any A0 n c0 l w _ rl (by omega) hA).mono ?_
  rintro e w1 ⟨⟨v, rfl, own1⟩, s1⟩
  obtain ⟨Am, cm, rfl, fm1, fm2, fm3⟩ := own_form own1
  have lt1 := own1.lt
  have q1 := Reads.of_own own1
  go_wp2_with fail
  refine (open_any Am n cm l w1 _ q1 (Nat.le_refl _) (by omega) fm3).mono ?_
  rintro e w2 ⟨⟨g, A', c', rfl, lv⟩, s2⟩
  have lv0 : LiveAny w2 w1.heap.size w2.heap.size g l 0 := ⟨_, _, _, lv⟩
  have hg : g < w2.heap.size := lv.high
  have hg1 : w1.heap.size ≤ g := lv.low
  have own2 := own_still own1 s2
  have s12 := s1.trans s2
  have rl2 := rl.still (Nat.le_refl _) s12
  have hz01 : w.heap.size ≤ w1.heap.size := s1.size
  have hz12 : w1.heap.size ≤ w2.heap.size := s2.size
  have hln : l.length = n := rl.1
  obtain ⟨w3, hw3⟩ : ∃ w3, w3 = w2.alloc (.cells #[.slice A0 n c0, .int .i64 0, .int .i64 0] 43) := ⟨_, rfl⟩
  have hz3 : w3.heap.size = w2.heap.size + 1 := by rw [hw3]; simp
  have rr3 : RRd w3 w.heap.size w2.heap.size A0 n c0 l 0 0 :=
    ⟨by rw [hw3]; exact Blk.new w2 _ _, by omega, by rw [hw3]; exact rl2.keep fun p hp => World.cell?_alloc_lt w2 _ p (by omega), Nat.zero_le _, hnc, hc0m, by omega, hA⟩
  have lv3 : LiveAny w3 w1.heap.size w2.heap.size g l 0 := lv0.kept fun j hj => by rw [hw3]; exact Below.heap_alloc w2 _ j hj
  have s3 : Still w w3 := by rw [hw3]; exact s12.alloc (by omega) _
  have own3 : w3.ownsRow w.heap.size 5 1 (.slice Am n cm) n (bytesV l) := by rw [hw3]; exact own2.alloc _
  have LT := Lib.hid lt1
  have HW := Lib.hid hw3
  clear own1 own2 lv lv0 q1 rl2 s12 s1 s2 rl hw3 lt1 hnc fm3
  go_wp2_with fail
  rw [← HW.out]
  go_wp2_with fail
  clear HW
  generalize w2.heap.size = G at *
  generalize w1.heap.size = M at *
  go_loopw [8] (fun i wr => ∃ (k : Nat) (m : List UInt8), i = .int .i64 k ∧ k ≤ n ∧ wr.ownsRow w.heap.size 5 1 (.slice Am n cm) n (bytesV m) ∧ Out w3 wr w.heap.size M) (fun i _ => n - (intOf i).toNat)
  case atStart => exact ⟨0, l, rfl, Nat.zero_le _, own3, Out.refl _ _ _⟩
  case round =>
    obtain ⟨k, m, rfl, hk, own, out⟩ := hrel
    have hml : m.length = n := by have := own.1; rw [bytesV_length] at this; omega
    by_cases hlt : k < n
    · obtain ⟨gm, cap, hv, hgb, hgl⟩ := own.form (by omega)
      simp only [Value.slice.injEq] at hv
      obtain ⟨rfl, -, rfl⟩ := hv
      have hgm := LT.out gm rfl
      have e1 := own.cellAt k (by omega)
      have f1 := own.frozenAt k
      rw [bytesV_get _ _ (by omega)] at e1
      have st1 := (own.stored k (.int .u8 ((UInt8.ofNat ((m.getD k 0).toNat + 1)).toNat : Int))).1
      rw [bytesV_set] at st1
      have out1 := fun u => out.set (p := ⟨gm, k, none⟩) hgm.1 hgm.2 u
      have hd := (m.getD k 0).toNat_lt
      generalize (m.getD k 0).toNat = d at e1 st1 hd
      have hcast : (((UInt8.ofNat (d + 1)).toNat : Nat) : Int) = ((d : Int) + 1) % 256 := by rw [byte_cast]; simp
      rw [hcast] at st1
      have ST := Lib.hid st1
      have OUT := Lib.hid out1
      clear st1 out1 hcast own out
      go_wp2_with fail
      go_roundw
      case rel => exact ⟨k + 1, _, by go_num, by omega, ST.out, OUT.out _⟩
      case measure => simp [intOf]; omega
    · obtain ⟨wo, rfl⟩ : ∃ wo : World, wo = wr := ⟨_, rfl⟩
      have lvo : LiveAny wo M G g l 0 := by
        obtain ⟨a1, a2, a3, q⟩ := lv3
        exact ⟨a1, a2, a3, q.kept2 fun j h1 h2 => out.block j (.inr h1)⟩
      have rro : RRd wo w.heap.size G A0 n c0 l 0 0 :=
        ⟨(out.block G (.inr (by omega))).trans rr3.blk, rr3.high, rr3.reads.keep fun p hp => World.cell?_of_block (w := w3) (out.block _ (.inl hp)), rr3.here, rr3.fit, rr3.cap, rr3.small, rr3.nil⟩
      have sto : Still w wo := ⟨out.os.trans s3.os, out.tape.trans s3.tape, out.output.trans s3.output, by rw [out.size]; exact s3.size, fun j hj => (out.block j (.inl hj)).trans (s3.block j hj)⟩
      have hzo : G < wo.heap.size := by rw [out.size]; omega
      clear out own lv3 rr3 s3 own3 LT hln hml
      go_wp2_with fail
      go_loopw [9] (fun i wr => ∃ (k at_ : Nat) (x : Int), i = .int .i64 k ∧ k ≤ n1 ∧ k ≤ 60 ∧ LiveAny wr M G g (l.drop at_) x ∧ RRd wr w.heap.size G A0 n c0 l at_ x ∧ Still w wr ∧ G < wr.heap.size) (fun i _ => 60 - (intOf i).toNat)
      case atStart => exact ⟨0, 0, 0, rfl, by omega, by omega, lvo, rro, sto, hzo⟩
      case round =>
        obtain ⟨j, at_, x, rfl, hj1, hj2, lv, rr, st, hz⟩ := hrel
        by_cases hlt2 : j < n1 ∧ j < 60
        · obtain ⟨g1, g2⟩ := hlt2
          obtain ⟨b, o, kd, y, rfl, hb, hk1, hk2⟩ := HZ.out j g1
          have ck : wr.cell? ⟨b, o + j * 2, none⟩ = some (.int .i64 kd) := (st.cell (p := ⟨b, o + j * 2, none⟩) hb).trans hk1
          have cy : wr.cell? ⟨b, o + j * 2 + 1, none⟩ = some (.int .i64 y) := (st.cell (p := ⟨b, o + j * 2 + 1, none⟩) hb).trans hk2
          obtain ⟨num, hnum⟩ : ∃ num : Bool, (kd == 0) = num := ⟨_, rfl⟩
          have rrd : RRd wr.drew w.heap.size G A0 n c0 l at_ x := rr.drewN 1
          have HR := Lib.hid rrd
          have hbG : b ≠ G := by have := rr.high; omega
          have z1 : (0 : Int) ≤ (j : Int) := by omega
          have z2 : (j : Int) < (n1 : Int) := by omega
          clear rrd hk1 hk2
          go_wp2_with fail
          go_region_held3 (fun w' => w'.cell? ⟨b, o + j * 2, none⟩ = some (.int .i64 kd) ∧ w'.cell? ⟨b, o + j * 2 + 1, none⟩ = some (.int .i64 y)) (first | go_keep | (go_split_ands; exact ⟨by assumption, by assumption⟩))
            ((go_at_call 28; refine (rtake_any HR.out y num).mono ?_; rintro e w5 ⟨v, rfl, own5, rr5, gr5⟩; have ck5 : w5.cell? ⟨b, o + j * 2, none⟩ = some (.int .i64 kd) := (gr5.cell_far ⟨b, o + j * 2, none⟩ (by have := st.size; simp; omega) (fun e => hbG (by injection e))).trans ck; have cy5 : w5.cell? ⟨b, o + j * 2 + 1, none⟩ = some (.int .i64 y) := (gr5.cell_far ⟨b, o + j * 2 + 1, none⟩ (by have := st.size; simp; omega) (fun e => hbG (by injection e))).trans cy))
          have gr5' : wr.grownBy w5 (some G) := ⟨gr5.os, gr5.tape, gr5.output, gr5.size, gr5.block⟩
          have lv5 := lv.grown gr5' (Nat.le_refl G) (by omega)
          have st5 := st.grown gr5' rro.high
          have hz5 : G < w5.heap.size := Nat.lt_of_lt_of_le hz gr5'.size
          have own5' : w5.ownsRow wr.heap.size 5 1 v (rstep (l.drop at_) x y num).2.length (bytesV (rstep (l.drop at_) x y num).2) := own5
          have hgr : g < wr.heap.size := by omega
          have hwg : w.heap.size ≤ g := by omega
          clear own5 gr5 gr5' lv rr st ck cy HR
          cases num
          · have bc := bytes_any lv5 y
            have tc := fun k => text_any (lv5.drewN k) y
            have hpl : (rstep (l.drop at_) x y false).2.length ≤ 300 := by
              have h1 : (l.drop at_).length ≤ n := by rw [List.length_drop, rro.reads.1]; omega
              unfold rstep
              split
              · simp
              · split
                · simp
                · split
                  · simp
                  · simp only [List.length_take]; omega
            generalize rstep (l.drop at_) x y false = st at own5' rr5 bc tc hpl
            obtain ⟨⟨l1, x1⟩, p⟩ := st
            simp only at own5' rr5 bc tc hpl
            obtain ⟨at6, rr5, rfl⟩ := rr5
            obtain ⟨A5, c5, rfl, _, _, _⟩ := own_form own5'
            by_cases hk1 : kd = 1
            · subst hk1
              have BC := Lib.hid bc
              clear bc tc
              go_wp2_with fail
              refine BC.out.mono ?_
              rintro e w6 ⟨A6, k6, A', n', c', rfl, lv6, ha, rd6, mi6, nn6, gr6⟩
              have hpk : p.length = k6 := rd6.1
              subst hpk
              have rr6 := rr5.grown gr6 (by omega) hwg
              have st6 := st5.grown gr6 hwg
              have hz6 : G < w6.heap.size := Nat.lt_of_lt_of_le hz5 gr6.size
              have own6 := own_grown own5' gr6 hgr
              have q6 := Reads.of_own own6
              have op6 := open9_of rd6 mi6
              clear gr6 rr5 st5 hz5 lv5 own5' own6 mi6 nn6
              go_wp2_with fail
              refine (same_yes A6 A5 p.length p.length c5 p w6 _ _ rd6 q6 (by omega)).mono ?_
              rintro e w7 ⟨rfl, s7⟩
              have lv7 := lv6.kept2 fun j h1 h2 => s7.block j (by omega)
              have rr7 := rr6.still s7
              have st7 := st6.trans s7
              have hz7 : G < w7.heap.size := Nat.lt_of_lt_of_le hz6 s7.size
              have op7 := op6.still s7 (by omega)
              clear s7 lv6 rr6 st6 hz6 op6 rd6 q6
              generalize p.length = kp at *
              go_wp2_with fail
              obtain ⟨wi, rfl⟩ : ∃ wi : World, wi = w7 := ⟨_, rfl⟩
              go_loopw [14] (fun i wq => ∃ t : Nat, i = .int .i64 t ∧ t ≤ kp ∧ Live wq M G g A' n' c' (l.drop at6) x1 ∧ RRd wq w.heap.size G A0 n c0 l at6 x1 ∧ Still w wq ∧ G < wq.heap.size ∧ Open9 wq M G A6 kp) (fun i _ => kp - (intOf i).toNat)
              case atStart => exact ⟨0, rfl, Nat.zero_le _, lv7, rr7, st7, hz7, op7⟩
              case round =>
                obtain ⟨t, rfl, ht, lvq, rrq, stq, hzq, opq⟩ := hrel
                by_cases hlt3 : t < kp
                · obtain ⟨bq, oq, rfl, hq1, hq2, hcq⟩ := opq (by omega)
                  obtain ⟨⟨yq, hyq⟩, hfq⟩ := hcq t hlt3
                  have LVQ := Lib.hid (lvq.poke ha hlt3 hyq (.int .u8 9))
                  have RRQ := Lib.hid (rrq.far (p := ⟨bq, oq + t, none⟩) (by simp; omega) (by simp; omega) (.int .u8 9))
                  have STQ : Hid (Still w (wr.setCell ⟨bq, oq + t, none⟩ (.int .u8 9))) := stq.setCell (p := ⟨bq, oq + t, none⟩) (by simp; omega) _
                  have OPQ := Lib.hid (opq.poke (j := t) 9)
                  have HZQ : Hid (G < (wr.setCell ⟨bq, oq + t, none⟩ (.int .u8 9)).heap.size) := by simpa [Hid, World.setCell] using hzq
                  clear lvq rrq stq hzq opq hcq lv7 rr7 st7 hz7 op7
                  go_wp2_with fail
                  go_roundw
                  case rel => exact ⟨t + 1, by go_num, by omega, LVQ.out, RRQ.out, STQ.out, HZQ.out, OPQ.out⟩
                  case measure => simp [intOf]; omega
                · have lvz : LiveAny wr M G g (l.drop at6) x1 := ⟨_, _, _, lvq⟩
                  clear lvq opq lv7 rr7 st7 hz7 op7
                  have as6 := asks_of lvz rrq
                  have k1 := rrq.blk.cell 1
                  have k2 := rrq.blk.cell 2
                  have hat := rrq.here
                  simp only [List.getElem?_toArray, List.getElem?_cons_succ, List.getElem?_cons_zero] at k1 k2
                  have AS := Lib.hid as6
                  have LV6 := Lib.hid lvz
                  have RR6 := Lib.hid rrq
                  have ST6 := Lib.hid stq
                  have HZ6 := Lib.hid hzq
                  clear as6 lvz rrq stq hzq
                  go_wp2_with fail
                  go_quiet ((first | (go_at_call 32; exact Calls.quiet_of_same (AS.out.left _)) | (go_at_call 33; exact Calls.quiet_of_same (AS.out.err _)) | (go_at_call 34; exact Calls.quiet_of_same (AS.out.fin _)) | (go_at_call 35; exact Calls.quiet_of (AS.out.rfin _))))
                  go_wp2_with fail
                  go_roundw
                  case rel => exact ⟨j + 1, at6, _, by go_num, by omega, by omega, LV6.out.drewN _, RR6.out.drewN _, still_drewN ST6.out _, HZ6.out⟩
                  case measure => simp [intOf]; omega
            · have hk1' : (kd == 1) = false := by simpa using hk1
              have tc1 := tc 1
              have own5d : w5.drew.ownsRow wr.heap.size 5 1 (.slice A5 p.length c5) p.length (bytesV p) := own5'.drew
              have kc5 := conv_reads (Reads.of_own own5d) c5
              have TC := Lib.hid tc1
              have OW := Lib.hid own5d
              have hbg : b ≠ g := by omega
              have hb5 : b < w5.heap.size := by omega
              generalize hq : (⟨p.toArray⟩ : ByteArray) = q at kc5
              have HQ := Lib.hid hq
              clear bc tc tc1 own5' own5d hq
              go_wp2_with fail
              have cyd : w5.drew.cell? ⟨b, o + j * 2 + 1, none⟩ = some (.int .i64 y) := cy5
              go_region_held3 (fun w' => w'.cell? ⟨b, o + j * 2 + 1, none⟩ = some (.int .i64 y) ∧ (convert 23 9 (.slice A5 p.length c5)).run Try.prog w' = .ok (.string q) w') (first | (go_split_ands; exact ⟨by assumption, by assumption⟩) | exact ⟨cyd, kc5⟩ | go_keep)
                ((go_at_call 31; refine TC.out.mono ?_; rintro e w6 ⟨rfl, lv6, gr6⟩; have hq2 := HQ.out; rw [hq2]; have cy6 : w6.cell? ⟨b, o + j * 2 + 1, none⟩ = some (.int .i64 y) := (gr6.cell_far ⟨b, o + j * 2 + 1, none⟩ (by simp; omega) (fun e => hbg (by injection e))).trans cy5; have kc6 := conv_reads (Reads.of_own (own_grown OW.out gr6 hgr)) c5; rw [hq2] at kc6; clear hq2))
              have gr6' : w5.grownBy w6 (some g) := ⟨gr6.os, gr6.tape, gr6.output, gr6.size, gr6.block⟩
              have rr6 := rr5.grown gr6' (by omega) hwg
              have st6 := st5.grown gr6' hwg
              have hz6 : G < w6.heap.size := Nat.lt_of_lt_of_le hz5 gr6'.size
              clear gr6 gr6' rr5 st5 hz5 lv5 kc5 kc6 cyd cy6 cy5 ck5
              have as6 := asks_of lv6 rr6
              have k1 := rr6.blk.cell 1
              have k2 := rr6.blk.cell 2
              have hat := rr6.here
              simp only [List.getElem?_toArray, List.getElem?_cons_succ, List.getElem?_cons_zero] at k1 k2
              have AS := Lib.hid as6
              have LV6 := Lib.hid lv6
              have RR6 := Lib.hid rr6
              have ST6 := Lib.hid st6
              have HZ6 := Lib.hid hz6
              clear as6 lv6 rr6 st6 hz6
              go_wp2_with fail
              go_quiet ((first | (go_at_call 32; exact Calls.quiet_of_same (AS.out.left _)) | (go_at_call 33; exact Calls.quiet_of_same (AS.out.err _)) | (go_at_call 34; exact Calls.quiet_of_same (AS.out.fin _)) | (go_at_call 35; exact Calls.quiet_of (AS.out.rfin _))))
              go_wp2_with fail
              go_roundw
              case rel => exact ⟨j + 1, at6, _, by go_num, by omega, by omega, LV6.out.drewN _, RR6.out.drewN _, still_drewN ST6.out _, HZ6.out⟩
              case measure => simp [intOf]; omega
          · have hp := rstep_len (l.drop at_) x y
            have nc := num_any lv5 y
            generalize rstep (l.drop at_) x y true = st at own5' rr5 hp nc
            obtain ⟨⟨l1, x1⟩, p⟩ := st
            simp only at own5' rr5 hp nc
            obtain ⟨at6, rr5, rfl⟩ := rr5
            obtain ⟨A5, c5, rfl, _, _, _⟩ := own_form own5'
            have q5 := Reads.of_own own5'
            have gc := rget_any A5 c5 p w5 _ q5 hp
            have NC := Lib.hid nc
            have GC := Lib.hid gc
            clear nc gc q5 hp own5'
            generalize leNum p = z at NC GC
            go_wp2_with fail
            refine GC.out.mono ?_
            rintro e w6 ⟨⟨ok, rfl⟩, rfl⟩
            go_wp2_with fail
            refine NC.out.mono ?_
            rintro e w6 ⟨rfl, lv6, gr6⟩
            have rr6 := rr5.grown gr6 (by omega) hwg
            have st6 := st5.grown gr6 hwg
            have hz6 : G < w6.heap.size := Nat.lt_of_lt_of_le hz5 gr6.size
            clear gr6 rr5 st5 hz5 lv5
            have as6 := asks_of lv6 rr6
            have k1 := rr6.blk.cell 1
            have k2 := rr6.blk.cell 2
            have hat := rr6.here
            simp only [List.getElem?_toArray, List.getElem?_cons_succ, List.getElem?_cons_zero] at k1 k2
            have AS := Lib.hid as6
            have LV6 := Lib.hid lv6
            have RR6 := Lib.hid rr6
            have ST6 := Lib.hid st6
            have HZ6 := Lib.hid hz6
            clear as6 lv6 rr6 st6 hz6
            go_wp2_with fail
            go_quiet ((first | (go_at_call 32; exact Calls.quiet_of_same (AS.out.left _)) | (go_at_call 33; exact Calls.quiet_of_same (AS.out.err _)) | (go_at_call 34; exact Calls.quiet_of_same (AS.out.fin _)) | (go_at_call 35; exact Calls.quiet_of (AS.out.rfin _))))
            go_wp2_with fail
            go_roundw
            case rel => exact ⟨j + 1, at6, _, by go_num, by omega, by omega, LV6.out.drewN _, RR6.out.drewN _, still_drewN ST6.out _, HZ6.out⟩
            case measure => simp [intOf]; omega
        · have key : (j < n1 ∧ decide ((j : Int) < 60) = false) ∨ ¬ j < n1 := by
            by_cases c1 : j < n1
            · exact .inl ⟨c1, by simp; omega⟩
            · exact .inr c1
          clear lv rr lvo rro sto hzo hlt2
          rcases key with ⟨d1, d2⟩ | d1
          all_goals
            go_wp2_with fail
            refine (lives_yes wr).mono ?_
            rintro e w9 ⟨rfl, s9⟩
            go_wp2_with fail
            go_ret
            exact ⟨rfl, st.trans s9⟩
end Go.Proofs.Ytammhjkdjkgpdaa
