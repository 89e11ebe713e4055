/- The walk of TableKinds: it returns true, and nothing that was there turns. -/
import Derived.Test.YtlebancjgjcfjaaTbKin
import Derived.Test.YtlebancjgjcfjaaQuiet
namespace Go.Proofs.Ytlebancjgjcfjaa
open Go.RowKit
set_option linter.unusedVariables false
set_option linter.unusedSimpArgs false

def keyX : List UInt8 := [255, 254, 253, 252, 251] ++ List.replicate 27 0
theorem built_X : Try.prog.built 43 [(0, .int .u8 255), (1, .int .u8 254), (2, .int .u8 253), (3, .int .u8 252), (4, .int .u8 251)] = some (bytesV keyX).toArray := by kernel_rfl
/-- What holds behind i rounds. -/
def KinL (w wr : World) (ga gb i : Nat) : Prop := (∃ ba bb La Lb ca da cb db, Kin w.heap.size wr ga ba gb bb La Lb ca da cb db ∧ La.map Prod.fst = Lb.map Prod.fst ∧ La.length ≤ i ∧ ∀ z ∈ La, z.2.length = 3) ∧ Still w wr
theorem fst_len {L M : List KV} (h : L.map Prod.fst = M.map Prod.fst) : L.length = M.length := by
  have := congrArg List.length h
  simpa using this
theorem newP (w : World) : Calls Try.prog 9 #[] w fun e w' => ∃ g b, e = .returned (.pointer (some ⟨g, 0, none⟩)) ∧ Pl.Tb w' g b [] 8 0 ∧ Still w w' ∧ w.heap.size ≤ g ∧ w.heap.size ≤ b := Pl.tnew_any w
theorem newC (w : World) : Calls Try.prog 10 #[] w fun e w' => ∃ g b, e = .returned (.pointer (some ⟨g, 0, none⟩)) ∧ Cn.Tb w' g b [] 8 0 ∧ Still w w' ∧ w.heap.size ≤ g ∧ w.heap.size ≤ b := Cn.tnew_any w
set_option maxRecDepth 100000 in
set_option maxHeartbeats 6400000 in
theorem tableKinds_walk (A0 : Option Addr) (n0 c0 : Nat) (L0 : List (List UInt8)) (A1 : Option Addr) (n1 c1 : Nat) (L1 : List (List Int)) (A2 : Option Addr) (n2 c2 : Nat) (L2 : List (List Int)) (w : World) (h0 : IdRow w A0 n0 c0 L0) (h1 : PlRow w A1 n1 c1 L1) (h2 : CnRow w A2 n2 c2 L2) :
    Calls Try.prog 4 #[.slice A0 n0 c0, .slice A1 n1 c1, .slice A2 n2 c2] w fun e w' => e = .returned (.bool true) ∧ Below w.heap.size w w' := by
  have LI := Lib.hid (fun W => lives_any W)
  have G0 := Lib.hid (fun i (hi : i < n0) => h0.get hi)
  have G1 := Lib.hid (fun i (hi : i < n1) => h1.get hi)
  have G2 := Lib.hid (fun i (hi : i < n2) => h2.get hi)
  have f0 : (n0 : Int) ≤ (c0 : Int) := by have := h0.row.fit; omega
  have f1 : (n1 : Int) ≤ (c1 : Int) := by have := h1.row.fit; omega
  have f2 : (n2 : Int) ≤ (c2 : Int) := by have := h2.row.fit; omega
  have NP := Lib.hid (newP w)
  have NC := Lib.hid (fun W => newC W)
  have BX := Lib.hid built_X
  obtain ⟨kx, hkx⟩ : ∃ kx, kx = (bytesV keyX).toArray := ⟨_, rfl⟩
  rw [← hkx] at BX
  have HKX := Lib.hid hkx
  obtain ⟨fs, hu⟩ := Pl.underVal
  have UP := Lib.hid hu
  obtain ⟨fs', hu'⟩ := Cn.underVal
  have UC := Lib.hid hu'
  obtain ⟨zp, hzp⟩ : ∃ z, z = intsV (List.replicate 3 0) := ⟨_, rfl⟩
  obtain ⟨zc, hzc⟩ : ∃ z, z = intsV (List.replicate 2 0) := ⟨_, rfl⟩
  have ZP := Lib.hid (show (Try.prog.info? 36).map (fun i => (i.zero, i.size)) = some (some (.agg zp), 3) by rw [hzp]; exact Pl.zeroVal)
  have ZC := Lib.hid (show (Try.prog.info? 40).map (fun i => (i.zero, i.size)) = some (some (.agg zc), 2) by rw [hzc]; exact Cn.zeroVal)
  have ZPS := Lib.hid (show zp.size = 3 by rw [hzp, Pl.intsV_size]; rfl)
  have ZCS := Lib.hid (show zc.size = 2 by rw [hzc, Cn.intsV_size]; rfl)
  clear hkx h0 h1 h2 hu hu' hzp hzc
  go_enter Try.func4, Try.ntmps4
  go_wp2_with (first
    | (go_at_call 9; refine NP.out.mono ?_; rintro e w1 ⟨ga, ba, rfl, ta, s1, l1, l2⟩; have TA := Lib.hid ta; have S1 := Lib.hid s1; have LA := Lib.hid (And.intro l1 l2); clear ta s1 l1 l2)
    | (go_at_call 10; refine (NC.out _).mono ?_; rintro e w2 ⟨gb, bb, rfl, tb, s2, l3, l4⟩; have TB2 := Lib.hid tb; have S2 := Lib.hid s2; have LB := Lib.hid (And.intro l3 l4); clear tb s2 l3 l4))
  have ST := Lib.hid (show KinL w w2 ga gb 0 from by
    have q1 := TA.out.glt
    have q2 := TA.out.blt
    obtain ⟨l1, l2⟩ := LA.out
    obtain ⟨l3, l4⟩ := LB.out
    have := S1.out.size
    exact ⟨⟨ba, bb, [], [], 8, 0, 8, 0, ⟨TA.out.still S2.out, TB2.out, ⟨l1, l2, by omega, by omega⟩, ⟨by omega, by omega, by omega, by omega⟩⟩, rfl, Nat.le_refl _, fun z hz => by simp at hz⟩, Still.trans S1.out S2.out⟩)
  clear NP NC TA S1 LA TB2 S2 LB
  go_loopw [9] (fun iv wr => ∃ i : Nat, i ≤ 50 ∧ iv = .int .i64 i ∧ Hid (KinL w wr ga gb i)) (fun iv _ => 50 - (intOf iv).toNat)
  case atStart => exact ⟨0, by omega, rfl, ST⟩
  case round =>
    obtain ⟨i, hi, rfl, KW⟩ := hrel
    clear ST
    by_cases t0 : i < n0
    · by_cases t1 : i < n1
      · by_cases t2 : i < n2
        · by_cases t3 : i < 50
          · skip
            have d0 : (i : Int) < (n0 : Int) := by omega
            have d1 : (i : Int) < (n1 : Int) := by omega
            have d2 : (i : Int) < (n2 : Int) := by omega
            have d3 : (i : Int) < 50 := by omega
            obtain ⟨k, b0, o0, rfl, hk, R0⟩ := G0.out i t0
            obtain ⟨v, b1, o1, rfl, hv, R1⟩ := G1.out i t1
            obtain ⟨u, b2, o2, rfl, hu, R2⟩ := G2.out i t2
            have RK := Lib.hid R0
            have RV := Lib.hid R1
            have RU := Lib.hid R2
            have H32 := Lib.hid (show (Try.prog.info? 43).map (·.size) = some (bytesV k).length from by rw [size32, bytesV_length, hk])
            have SV := Lib.hid (show (Try.prog.info? 36).map (·.size) = some (v.map (Value.int .i64)).length from by rw [Pl.sizeVal, List.length_map, hv])
            have SU := Lib.hid (show (Try.prog.info? 40).map (·.size) = some (u.map (Value.int .i64)).length from by rw [Cn.sizeVal, List.length_map, hu])
            have VS := Lib.hid (show (intsV v).size = 3 by rw [Pl.intsV_size, hv])
            have US := Lib.hid (show (intsV u).size = 2 by rw [Cn.intsV_size, hu])
            have OV := Lib.hid (Pl.ints_one' v)
            have OU := Lib.hid (Cn.ints_one' u)
            have NV := Lib.hid (fun W => show (binOp .neq 36 (.agg (intsV v)) (.agg (intsV v))).run Try.prog W = .ok (.bool false) W from neq_place W hv)
            have NU := Lib.hid (fun W => show (binOp .neq 40 (.agg (intsV u)) (.agg (intsV u))).run Try.prog W = .ok (.bool false) W from neq_count W hu)
            obtain ⟨⟨ba, bb, La, Lb, ca, da, cb, db, kin, hks, hlen, hvl⟩, sw⟩ := KW.out
            have PA := Lib.hid ((Pl.put_any (kin.still (Still.refl _).drew).a k v hv hk (by omega)).mono (fun e w' ⟨he, p⟩ => And.intro he ((kin.still (Still.refl _).drew).putA sw.drew p)))
            have PB := Lib.hid (fun W ba ca da (K : Kin w.heap.size W ga ba gb bb (insL k v La) Lb ca da cb db) (s : Still w W) => (Cn.put_any K.b k u hu hk (by have := fst_len hks; omega)).mono (fun e w' ⟨he, p⟩ => And.intro he (K.putB s p)))
            have GA := Lib.hid (fun W ba bb ca da cb db (K : Kin w.heap.size W ga ba gb bb (insL k v La) (insL k u Lb) ca da cb db) => Pl.get_yes K.a k v hv hk (by have := insL_le k v kin.a.rise hlen; omega) ((mem_insL kin.a.rise _).2 (.inl rfl)))
            have GB := Lib.hid (fun W ba bb ca da cb db (K : Kin w.heap.size W ga ba gb bb (insL k v La) (insL k u Lb) ca da cb db) => Cn.get_yes K.b k u hu hk (by have h1 := fst_len hks; have := insL_le k u kin.b.rise (i := i) (by omega); omega) ((mem_insL kin.b.rise _).2 (.inl rfl)))
            have hks2 := insL_fst k v u La Lb hks
            have NX := Lib.hid (fun W ba bb ca da cb db (K : Kin w.heap.size W ga ba gb bb (insL k v La) (insL k u Lb) ca da cb db) (s : Still w W) => show KinL w W ga gb (i + 1) from ⟨⟨ba, bb, _, _, ca, da, cb, db, K, hks2, insL_le k v kin.a.rise hlen, fun z hz => by
              rcases (mem_insL kin.a.rise z).1 hz with e | ⟨e, _⟩
              · rw [e]; exact hv
              · exact hvl z e⟩, s⟩)
            have LN := Lib.hid (fst_len hks2)
            have SW := Lib.hid sw
            obtain ⟨kv, hkv⟩ : ∃ kv, kv = (bytesV k).toArray := ⟨_, rfl⟩
            obtain ⟨vv, hvv⟩ : ∃ vv, vv = intsV v := ⟨_, rfl⟩
            obtain ⟨uu, huu⟩ : ∃ uu, uu = intsV u := ⟨_, rfl⟩
            rw [← hkv] at PA PB GA GB
            rw [← hvv] at PA GA VS OV NV
            rw [← huu] at PB GB US OU NU
            have HK := Lib.hid hkv
            have HV := Lib.hid hvv
            have HU := Lib.hid huu
            clear G0 G1 G2 R0 R1 R2 hk hv hu kin hks hlen hvl sw hks2 hkv hvv huu KW hi LI
            go_upto_region 5 with fail
            refine wp_region_still_tail 9 (by kernel_rfl) (by kernel_rfl) ?_
            simp only [List.take_succ_cons, List.take_zero, List.drop_succ_cons, List.drop_zero]
            change wpStill _ _ wr.drew _ _ _
            repeat (first
              | (guard_target =~ wpStill _ _ _ _ (Oper.mk (some 44) _ _ _ _ _ :: _) _; go_must (refine still_load_mid (by kernel_rfl) 43 (.tmp 43) rfl b0 (o0 + i * 32) (by kernel_rfl) (bytesV k) _ (RK.out _ SW.out.drew) under32 rfl H32.out ?_); rw [← HK.out])
              | (guard_target =~ wpStill _ _ _ _ (Oper.mk (some 48) _ _ _ _ _ :: _) _; go_must (refine still_load_mid (by kernel_rfl) 36 (.tmp 47) rfl b1 (o1 + i * 3) (by kernel_rfl) (v.map (Value.int .i64)) _ (RV.out _ SW.out.drew) UP.out rfl SV.out ?_); change wpStill _ _ _ _ _ (Act.put _ _ (.agg (intsV v))); rw [← HV.out])
              | still_step)
            refine wpStill_nil ?_
            change wpList _ _ _ _ _ wr.drew
            go_upto_region 6 with (go_at_call 11; refine PA.out.mono ?_; rintro e w3 ⟨rfl, ⟨ba3, ca3, da3, k3⟩, s3⟩; have K3 := Lib.hid k3; have S3 := Lib.hid s3; clear k3 s3)
            refine wp_region_still_tail 9 (by kernel_rfl) (by kernel_rfl) ?_
            simp only [List.take_succ_cons, List.take_zero, List.drop_succ_cons, List.drop_zero]
            change wpStill _ _ w3.drew _ _ _
            repeat (first
              | (guard_target =~ wpStill _ _ _ _ (Oper.mk (some 54) _ _ _ _ _ :: _) _; go_must (refine still_load_mid (by kernel_rfl) 43 (.tmp 53) rfl b0 (o0 + i * 32) (by kernel_rfl) (bytesV k) _ (RK.out _ S3.out.drew) under32 rfl H32.out ?_); rw [← HK.out])
              | (guard_target =~ wpStill _ _ _ _ (Oper.mk (some 58) _ _ _ _ _ :: _) _; go_must (refine still_load_mid (by kernel_rfl) 40 (.tmp 57) rfl b2 (o2 + i * 2) (by kernel_rfl) (u.map (Value.int .i64)) _ (RU.out _ S3.out.drew) UC.out rfl SU.out ?_); change wpStill _ _ _ _ _ (Act.put _ _ (.agg (intsV u))); rw [← HU.out])
              | still_step)
            refine wpStill_nil ?_
            change wpList _ _ _ _ _ w3.drew
            go_upto_region 7 with (go_at_call 12; refine (PB.out _ _ _ _ (K3.out.still (Still.refl _).drew) S3.out.drew).mono ?_; rintro e w4 ⟨rfl, ⟨bb4, cb4, db4, k4⟩, s4⟩; have K4 := Lib.hid k4; have S4 := Lib.hid s4; clear k4 s4)
            clear PA PB K3
            go_upto_region 8 with (first
              | (guard_target =~ wpList _ _ _ (Oper.mk (some 65) _ _ _ _ _ :: _) _ _; go_must (refine wpList_load_mid rfl 43 (.tmp 64) rfl b0 (o0 + i * 32) rfl (bytesV k) _ (RK.out _ S4.out) under32 rfl H32.out ?_); rw [← HK.out])
              | (go_at_call 13; refine (GA.out _ _ _ _ _ _ _ K4.out).mono ?_; rintro e w5 ⟨rfl, s5⟩; have U5 := Lib.hid s5; have S5 := Lib.hid (Still.trans S4.out s5); have K5 := Lib.hid (K4.out.still s5); clear s5)
              | (guard_target =~ wpList _ _ _ (Oper.mk (some 10) _ _ _ _ _ :: _) _ _; go_must (refine wpList_alloc_arr rfl 36 rfl (some 10) rfl zp 3 ZP.out ?_))
              | (guard_target =~ wpList _ _ _ (Oper.mk none (Op.store _ _ _) _ _ _ _ :: _) _ _; go_must (refine wpList_store_rowTo rfl 36 (.tmp 10) (.tmp 67) rfl rfl w5.heap.size vv rfl rfl 36 _ (heap_alloc_new w5 _) (by rw [Pl.sizeVal, VS.out]) (by rw [ZPS.out, VS.out]) OV.out ?_)))
            obtain ⟨w6, hw6⟩ : ∃ w6, w6 = (w5.alloc (.cells zp 36)).setRow w5.heap.size vv := ⟨_, rfl⟩
            obtain ⟨g10, hg10⟩ : ∃ g, g = w5.heap.size := ⟨_, rfl⟩
            have U6 := Lib.hid (show Still w5 w6 from by rw [hw6]; exact below_setRow ((Still.refl w5).alloc (Nat.le_refl _) _) (Nat.le_refl _) _)
            have B6 := Lib.hid (show Blk w6 g10 36 vv from by rw [hw6, hg10]; exact setRow_heap _ _ _ _ _ _ (heap_alloc_new w5 _))
            rw [← hw6, ← hg10]
            have K6 := Lib.hid (K5.out.still U6.out)
            have S6 := Lib.hid (Still.trans S5.out U6.out)
            clear hw6 hg10 GA K4 K5 U5
            go_upto_region 9 with (first
              | (guard_target =~ wpList _ _ _ (Oper.mk (some 74) _ _ _ _ _ :: _) _ _; go_must (refine wpList_load_mid rfl 43 (.tmp 73) rfl b0 (o0 + i * 32) rfl (bytesV k) _ (RK.out _ S6.out) under32 rfl H32.out ?_); rw [← HK.out])
              | (go_at_call 14; refine (GB.out _ _ _ _ _ _ _ K6.out).mono ?_; rintro e w7 ⟨rfl, s7⟩; have U7 := Lib.hid s7; have S7 := Lib.hid (Still.trans S6.out s7); have K7 := Lib.hid (K6.out.still s7); clear s7)
              | (guard_target =~ wpList _ _ _ (Oper.mk (some 12) _ _ _ _ _ :: _) _ _; go_must (refine wpList_alloc_arr rfl 40 rfl (some 12) rfl zc 2 ZC.out ?_))
              | (guard_target =~ wpList _ _ _ (Oper.mk none (Op.store _ _ _) _ _ _ _ :: _) _ _; go_must (refine wpList_store_rowTo rfl 40 (.tmp 12) (.tmp 76) rfl rfl w7.heap.size uu rfl rfl 40 _ (heap_alloc_new w7 _) (by rw [Cn.sizeVal, US.out]) (by rw [ZCS.out, US.out]) OU.out ?_)))
            obtain ⟨w8, hw8⟩ : ∃ w8, w8 = (w7.alloc (.cells zc 40)).setRow w7.heap.size uu := ⟨_, rfl⟩
            obtain ⟨g12, hg12⟩ : ∃ g, g = w7.heap.size := ⟨_, rfl⟩
            have U8 := Lib.hid (show Still w7 w8 from by rw [hw8]; exact below_setRow ((Still.refl w7).alloc (Nat.le_refl _) _) (Nat.le_refl _) _)
            have B8 := Lib.hid (show Blk w8 g12 40 uu from by rw [hw8, hg12]; exact setRow_heap _ _ _ _ _ _ (heap_alloc_new w7 _))
            rw [← hw8, ← hg12]
            have K8 := Lib.hid (K7.out.still U8.out)
            have S8 := Lib.hid (Still.trans S7.out U8.out)
            have B6' := Lib.hid (B6.out.still (Still.trans U7.out U8.out))
            have Q10 := Lib.hid (fun W (s : Still w8 W) => show W.rangeAt g10 0 (v.map (Value.int .i64)) from fun q x hq => by
              rw [Nat.zero_add, (B6'.out.still s).cell, HV.out, intsV, List.getElem?_toArray, hq])
            have Q12 := Lib.hid (fun W (s : Still w8 W) => show W.rangeAt g12 0 (u.map (Value.int .i64)) from fun q x hq => by
              rw [Nat.zero_add, (B8.out.still s).cell, HU.out, intsV, List.getElem?_toArray, hq])
            have QV := Lib.hid (fun W (s : Still w8 W) => RV.out W (Still.trans S8.out s))
            have QU := Lib.hid (fun W (s : Still w8 W) => RU.out W (Still.trans S8.out s))
            have LNA := Lib.hid (fun W (s : Still w8 W) => show Calls Try.prog 15 #[.pointer (some ⟨ga, 0, none⟩)] W fun e w' => e = .returned (.int .i64 ((insL k v La).length : Nat)) ∧ Still W w' from (Pl.len_any (K8.out.still s).a).mono fun e w' ⟨he, hw⟩ => ⟨he, hw ▸ Still.refl _⟩)
            have LNB := Lib.hid (fun W (s : Still w8 W) => show Calls Try.prog 16 #[.pointer (some ⟨gb, 0, none⟩)] W fun e w' => e = .returned (.int .i64 ((insL k v La).length : Nat)) ∧ Still W w' from (Cn.len_any (K8.out.still s).b).mono fun e w' ⟨he, hw⟩ => ⟨by rw [he, LN.out], hw ▸ Still.refl _⟩)
            have NX8 := Lib.hid (fun W (s : Still w8 W) => NX.out W _ _ _ _ _ _ (K8.out.still s) (Still.trans S8.out s))
            generalize (insL k v La).length = m at LNA LNB
            have nv := NV.out
            have nu := NU.out
            have I50 := Lib.hid t3
            clear hw8 hg12 GB K6 K7 K8 U6 U7 U8 B6 B8 B6' NX LN t0 t1 t2 t3
            refine wp_region_quiet_still w8 (Still.refl _) (by kernel_rfl) (by kernel_rfl) ?_
            repeat (first
              | (guard_target =~ wpQuiet _ _ _ _ (Oper.mk (some 85) _ _ _ _ _ :: _) _; go_must (refine quiet_load_mid (by kernel_rfl) 36 (.tmp 10) rfl g10 0 (by kernel_rfl) (v.map (Value.int .i64)) _ (fun W hW => by obtain ⟨p, rfl⟩ := hW; exact Q10.out _ p.still) UP.out rfl SV.out ?_); change wpQuiet _ _ _ _ _ (Act.put _ _ (.agg (intsV v))); rw [← HV.out])
              | (guard_target =~ wpQuiet _ _ _ _ (Oper.mk (some 89) _ _ _ _ _ :: _) _; go_must (refine quiet_load_mid (by kernel_rfl) 36 (.tmp 88) rfl b1 (o1 + i * 3) (by kernel_rfl) (v.map (Value.int .i64)) _ (fun W hW => by obtain ⟨p, rfl⟩ := hW; exact QV.out _ p.still) UP.out rfl SV.out ?_); change wpQuiet _ _ _ _ _ (Act.put _ _ (.agg (intsV v))); rw [← HV.out])
              | (guard_target =~ wpQuiet _ _ _ _ (Oper.mk (some 93) _ _ _ _ _ :: _) _; go_must (refine quiet_load_mid (by kernel_rfl) 40 (.tmp 12) rfl g12 0 (by kernel_rfl) (u.map (Value.int .i64)) _ (fun W hW => by obtain ⟨p, rfl⟩ := hW; exact Q12.out _ p.still) UC.out rfl SU.out ?_); change wpQuiet _ _ _ _ _ (Act.put _ _ (.agg (intsV u))); rw [← HU.out])
              | (guard_target =~ wpQuiet _ _ _ _ (Oper.mk (some 97) _ _ _ _ _ :: _) _; go_must (refine quiet_load_mid (by kernel_rfl) 40 (.tmp 96) rfl b2 (o2 + i * 2) (by kernel_rfl) (u.map (Value.int .i64)) _ (fun W hW => by obtain ⟨p, rfl⟩ := hW; exact QU.out _ p.still) UC.out rfl SU.out ?_); change wpQuiet _ _ _ _ _ (Act.put _ _ (.agg (intsV u))); rw [← HU.out])
              | quiet_step ((first
                  | (go_at_call 15; exact Calls.stillby _ (LNA.out _ (StillBy.still _)))
                  | (go_at_call 16; exact Calls.stillby _ (LNB.out _ (StillBy.still _))))))
            refine wpQuiet_nil ?_
            intro wq hw'
            have NQ := Lib.hid (show KinL w wq ga gb (i + 1) from by obtain ⟨p, rfl⟩ := hw'; exact NX8.out _ p.still)
            clear hw' nv nu
            go_wp2_with fail
            go_roundw
            case rel => exact ⟨i + 1, by have := I50.out; omega, by go_num, NQ⟩
            case measure => simp [intOf]; have := I50.out; omega
          · have d3 : ¬ (i : Int) < 50 := by omega
            have d0 : (i : Int) < (n0 : Int) := by omega
            have d1 : (i : Int) < (n1 : Int) := by omega
            have d2 : (i : Int) < (n2 : Int) := by omega
            clear G0 G1 G2
            obtain ⟨⟨ba, bb, La, Lb, ca, da, cb, db, kin, hks, hlen, hvl⟩, sw⟩ := KW.out
            have GX := Lib.hid (getA_any kin.a hvl keyX rfl (by omega))
            have KIN := Lib.hid kin
            have SW := Lib.hid sw
            have nn : Lb.length = La.length := (fst_len hks).symm
            have LNA := Lib.hid (fun W (s : Still wr W) => Pl.len_any (kin.still s).a)
            have LNB := Lib.hid (fun W (s : Still wr W) => Cn.len_any (kin.still s).b)
            obtain ⟨n, hn⟩ : ∃ n, n = La.length := ⟨_, rfl⟩
            rw [nn] at LNB
            rw [← hn] at LNA LNB GX
            rw [← HKX.out] at GX
            clear kin sw hks hlen hvl nn hn KW hi
            go_upto_region 11 with fail
            go_upto_region 12 with (first
              | (guard_target =~ wpList _ _ _ (Oper.mk (some 109) _ _ _ _ _ :: _) _ _; go_must (refine wpList_buildTo rfl 43 _ rfl (some 109) rfl kx (by simp only [List.map_toArray, List.map_cons, List.map_nil]; exact BX.out) ?_))
              | (go_at_call 13; refine GX.out.mono ?_; rintro e w3 ⟨v, q, hv, hq, rfl, s3⟩; have HV := Lib.hid (show (intsV v).size = 3 by rw [Pl.intsV_size, hv]); have O1 := Lib.hid (Pl.ints_one' v); have HQ := Lib.hid hq; have S3 := Lib.hid s3; obtain ⟨vx, hvx⟩ : ∃ vx, vx = intsV v := ⟨_, rfl⟩; rw [← hvx] at HV O1 ⊢; clear hv hq s3 hvx)
              | (guard_target =~ wpList _ _ _ (Oper.mk (some 14) _ _ _ _ _ :: _) _ _; go_must (refine wpList_alloc_arr rfl 36 rfl (some 14) rfl zp 3 ZP.out ?_))
              | (guard_target =~ wpList _ _ _ (Oper.mk none (Op.store _ _ _) _ _ _ _ :: _) _ _; go_must (refine wpList_store_rowTo rfl 36 (.tmp 14) (.tmp 111) rfl rfl w3.heap.size vx rfl rfl 36 _ (heap_alloc_new w3 _) (by rw [Pl.sizeVal, HV.out]) (by rw [ZPS.out, HV.out]) O1.out ?_)))
            have S4 := Lib.hid (show Still wr ((w3.alloc (.cells zp 36)).setRow w3.heap.size vx) from below_setRow (S3.out.alloc S3.out.size _) S3.out.size _)
            obtain ⟨w4, hw4⟩ : ∃ w4, w4 = (w3.alloc (.cells zp 36)).setRow w3.heap.size vx := ⟨_, rfl⟩
            rw [← hw4] at S4 ⊢
            have A1 := Lib.hid (LNA.out _ S4.out)
            have B1 := Lib.hid (LNB.out _ S4.out)
            have L4 := Lib.hid (LI.out w4)
            clear hw4
            cases q
            · go_wp2_with (first
                | (go_at_call 15; with_reducible refine A1.out.mono ?_; rintro e w5 ⟨rfl, rfl⟩)
                | (go_at_call 16; with_reducible refine B1.out.mono ?_; rintro e w5 ⟨rfl, rfl⟩)
                | (go_at_call 8; with_reducible refine L4.out.mono ?_; rintro e w6 ⟨rfl, s6⟩; have S6 := Lib.hid s6; clear s6))
              go_ret
              exact ⟨rfl, Still.trans SW.out (Still.trans S4.out S6.out)⟩
            · have dn : (0 : Int) < (n : Int) := by have := HQ.out rfl; omega
              go_wp2_with (first
                | (go_at_call 15; with_reducible refine A1.out.mono ?_; rintro e w5 ⟨rfl, rfl⟩)
                | (go_at_call 16; with_reducible refine B1.out.mono ?_; rintro e w5 ⟨rfl, rfl⟩)
                | (go_at_call 8; with_reducible refine L4.out.mono ?_; rintro e w6 ⟨rfl, s6⟩; have S6 := Lib.hid s6; clear s6))
              go_ret
              exact ⟨rfl, Still.trans SW.out (Still.trans S4.out S6.out)⟩
        · have d2 : ¬ (i : Int) < (n2 : Int) := by omega
          have d0 : (i : Int) < (n0 : Int) := by omega
          have d1 : (i : Int) < (n1 : Int) := by omega
          clear G0 G1 G2
          obtain ⟨⟨ba, bb, La, Lb, ca, da, cb, db, kin, hks, hlen, hvl⟩, sw⟩ := KW.out
          have GX := Lib.hid (getA_any kin.a hvl keyX rfl (by omega))
          have KIN := Lib.hid kin
          have SW := Lib.hid sw
          have nn : Lb.length = La.length := (fst_len hks).symm
          have LNA := Lib.hid (fun W (s : Still wr W) => Pl.len_any (kin.still s).a)
          have LNB := Lib.hid (fun W (s : Still wr W) => Cn.len_any (kin.still s).b)
          obtain ⟨n, hn⟩ : ∃ n, n = La.length := ⟨_, rfl⟩
          rw [nn] at LNB
          rw [← hn] at LNA LNB GX
          rw [← HKX.out] at GX
          clear kin sw hks hlen hvl nn hn KW hi
          go_upto_region 11 with fail
          go_upto_region 12 with (first
            | (guard_target =~ wpList _ _ _ (Oper.mk (some 109) _ _ _ _ _ :: _) _ _; go_must (refine wpList_buildTo rfl 43 _ rfl (some 109) rfl kx (by simp only [List.map_toArray, List.map_cons, List.map_nil]; exact BX.out) ?_))
            | (go_at_call 13; refine GX.out.mono ?_; rintro e w3 ⟨v, q, hv, hq, rfl, s3⟩; have HV := Lib.hid (show (intsV v).size = 3 by rw [Pl.intsV_size, hv]); have O1 := Lib.hid (Pl.ints_one' v); have HQ := Lib.hid hq; have S3 := Lib.hid s3; obtain ⟨vx, hvx⟩ : ∃ vx, vx = intsV v := ⟨_, rfl⟩; rw [← hvx] at HV O1 ⊢; clear hv hq s3 hvx)
            | (guard_target =~ wpList _ _ _ (Oper.mk (some 14) _ _ _ _ _ :: _) _ _; go_must (refine wpList_alloc_arr rfl 36 rfl (some 14) rfl zp 3 ZP.out ?_))
            | (guard_target =~ wpList _ _ _ (Oper.mk none (Op.store _ _ _) _ _ _ _ :: _) _ _; go_must (refine wpList_store_rowTo rfl 36 (.tmp 14) (.tmp 111) rfl rfl w3.heap.size vx rfl rfl 36 _ (heap_alloc_new w3 _) (by rw [Pl.sizeVal, HV.out]) (by rw [ZPS.out, HV.out]) O1.out ?_)))
          have S4 := Lib.hid (show Still wr ((w3.alloc (.cells zp 36)).setRow w3.heap.size vx) from below_setRow (S3.out.alloc S3.out.size _) S3.out.size _)
          obtain ⟨w4, hw4⟩ : ∃ w4, w4 = (w3.alloc (.cells zp 36)).setRow w3.heap.size vx := ⟨_, rfl⟩
          rw [← hw4] at S4 ⊢
          have A1 := Lib.hid (LNA.out _ S4.out)
          have B1 := Lib.hid (LNB.out _ S4.out)
          have L4 := Lib.hid (LI.out w4)
          clear hw4
          cases q
          · go_wp2_with (first
              | (go_at_call 15; with_reducible refine A1.out.mono ?_; rintro e w5 ⟨rfl, rfl⟩)
              | (go_at_call 16; with_reducible refine B1.out.mono ?_; rintro e w5 ⟨rfl, rfl⟩)
              | (go_at_call 8; with_reducible refine L4.out.mono ?_; rintro e w6 ⟨rfl, s6⟩; have S6 := Lib.hid s6; clear s6))
            go_ret
            exact ⟨rfl, Still.trans SW.out (Still.trans S4.out S6.out)⟩
          · have dn : (0 : Int) < (n : Int) := by have := HQ.out rfl; omega
            go_wp2_with (first
              | (go_at_call 15; with_reducible refine A1.out.mono ?_; rintro e w5 ⟨rfl, rfl⟩)
              | (go_at_call 16; with_reducible refine B1.out.mono ?_; rintro e w5 ⟨rfl, rfl⟩)
              | (go_at_call 8; with_reducible refine L4.out.mono ?_; rintro e w6 ⟨rfl, s6⟩; have S6 := Lib.hid s6; clear s6))
            go_ret
            exact ⟨rfl, Still.trans SW.out (Still.trans S4.out S6.out)⟩
      · have d1 : ¬ (i : Int) < (n1 : Int) := by omega
        have d0 : (i : Int) < (n0 : Int) := by omega
        clear G0 G1 G2
        obtain ⟨⟨ba, bb, La, Lb, ca, da, cb, db, kin, hks, hlen, hvl⟩, sw⟩ := KW.out
        have GX := Lib.hid (getA_any kin.a hvl keyX rfl (by omega))
        have KIN := Lib.hid kin
        have SW := Lib.hid sw
        have nn : Lb.length = La.length := (fst_len hks).symm
        have LNA := Lib.hid (fun W (s : Still wr W) => Pl.len_any (kin.still s).a)
        have LNB := Lib.hid (fun W (s : Still wr W) => Cn.len_any (kin.still s).b)
        obtain ⟨n, hn⟩ : ∃ n, n = La.length := ⟨_, rfl⟩
        rw [nn] at LNB
        rw [← hn] at LNA LNB GX
        rw [← HKX.out] at GX
        clear kin sw hks hlen hvl nn hn KW hi
        go_upto_region 11 with fail
        go_upto_region 12 with (first
          | (guard_target =~ wpList _ _ _ (Oper.mk (some 109) _ _ _ _ _ :: _) _ _; go_must (refine wpList_buildTo rfl 43 _ rfl (some 109) rfl kx (by simp only [List.map_toArray, List.map_cons, List.map_nil]; exact BX.out) ?_))
          | (go_at_call 13; refine GX.out.mono ?_; rintro e w3 ⟨v, q, hv, hq, rfl, s3⟩; have HV := Lib.hid (show (intsV v).size = 3 by rw [Pl.intsV_size, hv]); have O1 := Lib.hid (Pl.ints_one' v); have HQ := Lib.hid hq; have S3 := Lib.hid s3; obtain ⟨vx, hvx⟩ : ∃ vx, vx = intsV v := ⟨_, rfl⟩; rw [← hvx] at HV O1 ⊢; clear hv hq s3 hvx)
          | (guard_target =~ wpList _ _ _ (Oper.mk (some 14) _ _ _ _ _ :: _) _ _; go_must (refine wpList_alloc_arr rfl 36 rfl (some 14) rfl zp 3 ZP.out ?_))
          | (guard_target =~ wpList _ _ _ (Oper.mk none (Op.store _ _ _) _ _ _ _ :: _) _ _; go_must (refine wpList_store_rowTo rfl 36 (.tmp 14) (.tmp 111) rfl rfl w3.heap.size vx rfl rfl 36 _ (heap_alloc_new w3 _) (by rw [Pl.sizeVal, HV.out]) (by rw [ZPS.out, HV.out]) O1.out ?_)))
        have S4 := Lib.hid (show Still wr ((w3.alloc (.cells zp 36)).setRow w3.heap.size vx) from below_setRow (S3.out.alloc S3.out.size _) S3.out.size _)
        obtain ⟨w4, hw4⟩ : ∃ w4, w4 = (w3.alloc (.cells zp 36)).setRow w3.heap.size vx := ⟨_, rfl⟩
        rw [← hw4] at S4 ⊢
        have A1 := Lib.hid (LNA.out _ S4.out)
        have B1 := Lib.hid (LNB.out _ S4.out)
        have L4 := Lib.hid (LI.out w4)
        clear hw4
        cases q
        · go_wp2_with (first
            | (go_at_call 15; with_reducible refine A1.out.mono ?_; rintro e w5 ⟨rfl, rfl⟩)
            | (go_at_call 16; with_reducible refine B1.out.mono ?_; rintro e w5 ⟨rfl, rfl⟩)
            | (go_at_call 8; with_reducible refine L4.out.mono ?_; rintro e w6 ⟨rfl, s6⟩; have S6 := Lib.hid s6; clear s6))
          go_ret
          exact ⟨rfl, Still.trans SW.out (Still.trans S4.out S6.out)⟩
        · have dn : (0 : Int) < (n : Int) := by have := HQ.out rfl; omega
          go_wp2_with (first
            | (go_at_call 15; with_reducible refine A1.out.mono ?_; rintro e w5 ⟨rfl, rfl⟩)
            | (go_at_call 16; with_reducible refine B1.out.mono ?_; rintro e w5 ⟨rfl, rfl⟩)
            | (go_at_call 8; with_reducible refine L4.out.mono ?_; rintro e w6 ⟨rfl, s6⟩; have S6 := Lib.hid s6; clear s6))
          go_ret
          exact ⟨rfl, Still.trans SW.out (Still.trans S4.out S6.out)⟩
    · have d0 : ¬ (i : Int) < (n0 : Int) := by omega
      clear G0 G1 G2
      obtain ⟨⟨ba, bb, La, Lb, ca, da, cb, db, kin, hks, hlen, hvl⟩, sw⟩ := KW.out
      have GX := Lib.hid (getA_any kin.a hvl keyX rfl (by omega))
      have KIN := Lib.hid kin
      have SW := Lib.hid sw
      have nn : Lb.length = La.length := (fst_len hks).symm
      have LNA := Lib.hid (fun W (s : Still wr W) => Pl.len_any (kin.still s).a)
      have LNB := Lib.hid (fun W (s : Still wr W) => Cn.len_any (kin.still s).b)
      obtain ⟨n, hn⟩ : ∃ n, n = La.length := ⟨_, rfl⟩
      rw [nn] at LNB
      rw [← hn] at LNA LNB GX
      rw [← HKX.out] at GX
      clear kin sw hks hlen hvl nn hn KW hi
      go_upto_region 11 with fail
      go_upto_region 12 with (first
        | (guard_target =~ wpList _ _ _ (Oper.mk (some 109) _ _ _ _ _ :: _) _ _; go_must (refine wpList_buildTo rfl 43 _ rfl (some 109) rfl kx (by simp only [List.map_toArray, List.map_cons, List.map_nil]; exact BX.out) ?_))
        | (go_at_call 13; refine GX.out.mono ?_; rintro e w3 ⟨v, q, hv, hq, rfl, s3⟩; have HV := Lib.hid (show (intsV v).size = 3 by rw [Pl.intsV_size, hv]); have O1 := Lib.hid (Pl.ints_one' v); have HQ := Lib.hid hq; have S3 := Lib.hid s3; obtain ⟨vx, hvx⟩ : ∃ vx, vx = intsV v := ⟨_, rfl⟩; rw [← hvx] at HV O1 ⊢; clear hv hq s3 hvx)
        | (guard_target =~ wpList _ _ _ (Oper.mk (some 14) _ _ _ _ _ :: _) _ _; go_must (refine wpList_alloc_arr rfl 36 rfl (some 14) rfl zp 3 ZP.out ?_))
        | (guard_target =~ wpList _ _ _ (Oper.mk none (Op.store _ _ _) _ _ _ _ :: _) _ _; go_must (refine wpList_store_rowTo rfl 36 (.tmp 14) (.tmp 111) rfl rfl w3.heap.size vx rfl rfl 36 _ (heap_alloc_new w3 _) (by rw [Pl.sizeVal, HV.out]) (by rw [ZPS.out, HV.out]) O1.out ?_)))
      have S4 := Lib.hid (show Still wr ((w3.alloc (.cells zp 36)).setRow w3.heap.size vx) from below_setRow (S3.out.alloc S3.out.size _) S3.out.size _)
      obtain ⟨w4, hw4⟩ : ∃ w4, w4 = (w3.alloc (.cells zp 36)).setRow w3.heap.size vx := ⟨_, rfl⟩
      rw [← hw4] at S4 ⊢
      have A1 := Lib.hid (LNA.out _ S4.out)
      have B1 := Lib.hid (LNB.out _ S4.out)
      have L4 := Lib.hid (LI.out w4)
      clear hw4
      cases q
      · go_wp2_with (first
          | (go_at_call 15; with_reducible refine A1.out.mono ?_; rintro e w5 ⟨rfl, rfl⟩)
          | (go_at_call 16; with_reducible refine B1.out.mono ?_; rintro e w5 ⟨rfl, rfl⟩)
          | (go_at_call 8; with_reducible refine L4.out.mono ?_; rintro e w6 ⟨rfl, s6⟩; have S6 := Lib.hid s6; clear s6))
        go_ret
        exact ⟨rfl, Still.trans SW.out (Still.trans S4.out S6.out)⟩
      · have dn : (0 : Int) < (n : Int) := by have := HQ.out rfl; omega
        go_wp2_with (first
          | (go_at_call 15; with_reducible refine A1.out.mono ?_; rintro e w5 ⟨rfl, rfl⟩)
          | (go_at_call 16; with_reducible refine B1.out.mono ?_; rintro e w5 ⟨rfl, rfl⟩)
          | (go_at_call 8; with_reducible refine L4.out.mono ?_; rintro e w6 ⟨rfl, s6⟩; have S6 := Lib.hid s6; clear s6))
        go_ret
        exact ⟨rfl, Still.trans SW.out (Still.trans S4.out S6.out)⟩
end Go.Proofs.Ytlebancjgjcfjaa
