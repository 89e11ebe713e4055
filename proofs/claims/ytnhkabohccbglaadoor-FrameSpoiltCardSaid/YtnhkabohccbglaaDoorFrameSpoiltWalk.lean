/- The walk of FrameSpoilt: it returns true, and nothing that was there turns. -/
import Derived.Test.YtnhkabohccbglaaDoorFrSeg
import Derived.Test.YtnhkabohccbglaaDoorFrSpoilM
import Derived.Test.YtnhkabohccbglaaDoorWithin
import Derived.Test.YtnhkabohccbglaaDoorSpoil
import Derived.Deep.Upon
import Derived.Laws.BitsAllLaws
namespace Go.Proofs.YtnhkabohccbglaaDoor
open Go.RowKit
set_option linter.unusedVariables false
set_option linter.unusedSimpArgs false

theorem wpList_addsNone (w : World) {ops : Array Oper} {rest : List Oper} {o : Oper} {a : Act} {Q : Exit → Act → World → Prop} (hgd : o.guard = none) (s x : Operand)
    (ho : o.op = .call { callee := .builtin .append, args := #[s, x], argTypes := #[24, 24] })
    (A : Option Addr) (n c : Nat) (hs : a.eval s = .slice A n c) (hnc : n ≤ c) (A' : Option Addr) (c' : Nat)
    (hx : a.eval x = .slice A' 0 c')
    (h : wpList Tryd.prog ops Q rest (a.put o.dst (.slice A n c)) w) :
    wpList Tryd.prog ops Q (o :: rest) a w := by
  refine wpList_plain hgd fun K hK => ?_
  obtain ⟨i0, hi, hz0, hz1, hz2⟩ := info_parts Tryd.infoByte
  have src : Src Tryd.prog i0.size 24 (.slice A' 0 c') 0 [] w := by
    cases A' with
    | none => exact Src.ofNil w Tryd.underlying24 c'
    | some ad => exact Src.ofSlice w Tryd.underlying24 ad 0 c' [] (by simp) (fun j u hu => by simp at hu) (fun u hu => by cases hu)
  have hrun := run_append_nothing (P := Tryd.prog) w 24 24 o.type 5 i0 Tryd.underlying24 hi A n c hnc _ src
  unfold Oper.wp execOp
  simp only [ho, resolve, invoke, builtin, Sem.run_bind, Sem.run_pure, Result.andThen_ok, List.map_toArray, List.map_cons, List.map_nil, hs, hx, hrun]
  exact hK _ _ h
theorem atE_succ (G : List Ee) (i : Nat) (x : Ee) (hx : G[i]? = some x) : atE G (i + 1) = atE G i + (bytE x.t x.K x.D).length := by
  unfold atE
  rw [List.take_add_one, hx, segB_app, List.length_append]
  show 8 + (_ + (bytE x.t x.K x.D ++ []).length) = _
  rw [List.append_nil]
  omega
theorem atE_bound (G : List Ee) (ok : ∀ x ∈ G, okE x) : ∀ i, i ≤ G.length → atE G i ≤ 8 + 16425 * i ∧ atE G i ≤ (magic ++ segB G).length
  | 0, _ => by
    refine ⟨Nat.le_refl _, ?_⟩
    rw [List.length_append]
    show 8 + 0 ≤ 8 + _
    omega
  | i + 1, hi => by
    obtain ⟨b1, b2⟩ := atE_bound G ok i (by omega)
    have hx : G[i]? = some G[i] := List.getElem?_eq_getElem (by omega)
    have hz := okE_len (ok _ (List.mem_of_getElem? hx))
    rw [atE_succ G i _ hx]
    refine ⟨by omega, ?_⟩
    obtain ⟨h1, h2⟩ := seg_part G i _ hx
    rw [h1, ← List.append_assoc, List.length_append, h2, List.length_append]
    omega
/-- What stands of the i-th entry. -/
structure EntF (V w2 : World) (B gg i : Nat) (G : List Ee) (t : Int) (K D : List UInt8) (A : Option Addr) (n d z : Nat) : Prop where
  at_ : G[i]? = some ⟨t, K, D⟩
  key : K.length = 32
  dat : w2.ownsRow B 5 1 (.slice A n d) n (bytesV D)
  nD : n = D.length
  n20 : n ≤ 200
  rng : ∀ W, Still V W → W.rangeAt gg (i * 34) (entL t K (.slice A n d))
  sz : ∀ W, Calls Tryd.prog 15 #[.agg (entV t K (.slice A n d))] W fun e w' => e = .returned (.int .i64 (z : Int)) ∧ Still W w'
  zD : z = (bytE t K D).length
  z9 : 9 ≤ z ∧ z ≤ 16425
  next : atE G (i + 1) = atE G i + z
theorem entF_of {V w2 : World} {B base gg NG cg : Nat} {G : List Ee} {xs : List Value} (og : V.ownsRow base 26 34 (.slice (some ⟨gg, 0, none⟩) NG cg) NG xs) (hg : HasE w2 B G xs) (ok : ∀ x ∈ G, okE x) (long : ∀ x ∈ G, x.D.length ≤ 200) (hNG : NG = G.length) (i : Nat) (hi : i < NG) :
    ∃ t K D A n d z, EntF V w2 B gg i G t K D A n d z := by
  obtain ⟨x, hx⟩ : ∃ x, G[i]? = some x := ⟨_, List.getElem?_eq_getElem (by omega)⟩
  have hok := ok x (List.mem_of_getElem? hx)
  have hlong := long x (List.mem_of_getElem? hx)
  have hz9 := okE_len hok
  have hszl := szE_len hok.1 hok.2
  obtain ⟨A, n, d, k1, k2, k3, k4⟩ := atE_row og hg hx hi
  have hnx := atE_succ G i x hx
  obtain ⟨t, K, D⟩ := x
  simp only at hok hlong hz9 hszl hnx k1 k2 k3 k4
  refine ⟨t, K, D, A, n, d, (bytE t K D).length, hx, k1, k2, k3, by omega, fun W s => ?_, fun W => ?_, rfl, hz9, hnx⟩
  · intro j u hj
    have h := k4 j u hj
    exact (s.cell (World.block_lt_of_cell? V _ h)).trans h
  · have h := size_any t K A n d W k1 (by omega)
    rw [show szE t K n = (bytE t K D).length by rw [hszl.1, k3]] at h
    exact h
theorem xor_byte (y : UInt8) (m : Nat) (hm : m < 256) : bits .xor .u8 ((y.toNat : Nat) : Int) ((m : Nat) : Int) = (((y ^^^ UInt8.ofNat m).toNat : Nat) : Int) := by
  rw [u8_xor_nat _ _ y.toNat_lt hm, UInt8.toNat_xor, UInt8.toNat_ofNat', show m % 2 ^ 8 = m by omega]

set_option maxRecDepth 100000 in
set_option maxHeartbeats 6400000 in
theorem frameSpoilt_walk (A : Option Addr) (n c : Nat) (L : List Ee) (x1 x2 x3 : Int) (w : World) (hin : EntsIn w w.heap.size A L) (hn : L.length = n) (hnc : n ≤ c) (hcm : c ≤ 9223372036854775807) (h3 : 0 ≤ x3 ∧ x3 ≤ 255) (T : Tabs w) :
    Calls Tryd.prog 9 #[.slice A n c, .int .i64 x1, .int .i64 x2, .int .u8 x3] w fun e w' => e = .returned (.bool true) ∧ Below w.heap.size w w' := by
  have FEW := Lib.hid (few_any A n c 10 100 L w w.heap.size hin (Nat.le_refl _) hn hnc hcm (by omega) (by omega) (by omega))
  have HT := Lib.hid (fun W (s : Still w W) => T.still s)
  have LV := Lib.hid (fun w (T : Tabs w) => lives_any w T)
  obtain ⟨X, hX⟩ : ∃ X, X = (L.take 10).map (cutE 100) := ⟨_, rfl⟩
  have hXl : X.length = min n 10 := by rw [hX, List.length_map, List.length_take, hn]; omega
  have XD := Lib.hid (show ∀ x ∈ X, x.D.length ≤ 200 by
    intro x hx
    rw [hX] at hx
    obtain ⟨y, _, rfl⟩ := List.mem_map.1 hx
    show (y.D.take 100).length ≤ 200
    rw [List.length_take]; omega)
  obtain ⟨M, hM⟩ : ∃ M, M = X.length := ⟨_, rfl⟩
  rw [← hX, ← hXl, ← hM] at FEW
  have hM12 : M ≤ 12 := by omega
  have HM := Lib.hid hM
  obtain ⟨fs, hu⟩ := underEnt
  have HU := Lib.hid hu
  clear hin hn hnc hcm T hX hXl hM hu
  go_enter Tryd.func9, Tryd.ntmps9
  go_wp2_with fail
  refine FEW.out.mono ?_
  rintro e w2 ⟨⟨ov, xs, rfl, own1, has1⟩, s2⟩
  obtain ⟨aa, c1, rfl, g1⟩ := own_formE own1
  have S2 := Lib.hid s2
  have TW := Lib.hid (fun W (s : Still w2 W) => HT.out W (S2.out.trans s))
  have SEG := Lib.hid (rsegment_any aa M c1 X xs w2 w.heap.size own1 has1 HM.out hM12 XD.out)
  clear own1 has1 s2 g1 FEW
  go_wp2_with fail
  refine SEG.out.mono ?_
  rintro e w3 ⟨bv, gv, rfl, mid⟩
  obtain ⟨G, hG⟩ : ∃ G, G = X.filter okb := ⟨_, rfl⟩
  rw [← hG] at mid
  have HH := Lib.hid mid
  obtain ⟨xsg, og0, hg0⟩ := mid.g
  obtain ⟨NG, hNG⟩ : ∃ NG, NG = G.length := ⟨_, rfl⟩
  rw [← hNG] at og0
  have hle : NG ≤ 12 := by have := mid.le; omega
  obtain ⟨ag, cg, rfl, gg0⟩ := own_formE og0
  have hlb : (magic ++ segB G).length ≤ 197108 := by have := mid.len; omega
  obtain ⟨nb, hnb⟩ : ∃ nb, nb = (magic ++ segB G).length := ⟨_, rfl⟩
  have ob := mid.b
  rw [← hnb] at ob hlb
  obtain ⟨Ab, cb, rfl, hb1, hb2, _⟩ := own_form ob
  have OB := Lib.hid ob
  have OG := Lib.hid og0
  have HG := Lib.hid hg0
  have GG := Lib.hid gg0
  have HNG := Lib.hid hNG
  have HNB := Lib.hid hnb
  clear SEG mid og0 hg0 gg0 ob hG hNG hnb
  by_cases h0 : NG = 0
  · have b0 : ((NG : Int) == 0) = true := by simp [h0]
    go_wp2_with fail
    refine (LV.out _ (TW.out _ HH.out.still)).mono ?_
    rintro e w10 ⟨rfl, s10⟩
    have S10 := Lib.hid (Still.trans S2.out (Still.trans HH.out.still s10))
    clear s10
    go_wp2_with fail
    go_ret
    exact ⟨rfl, S10.out⟩
  · have b0 : ((NG : Int) == 0) = false := by simp [h0]
    obtain ⟨gg, rfl⟩ := GG.out (by omega)
    obtain ⟨m3, rfl⟩ := Int.eq_ofNat_of_zero_le h3.1
    have hm3 : m3 < 256 := by omega
    have M3 := Lib.hid hm3
    have WI := Lib.hid (within_any x1 0 ((NG : Int) - 1) w3 (by omega))
    have EF := Lib.hid (entF_of OG.out HG.out HH.out.ok HH.out.long HNG.out)
    have AB := Lib.hid (atE_bound G HH.out.ok)
    clear GG h3 hm3 h0
    go_wp2_with fail
    refine WI.out.mono ?_
    rintro e w' ⟨⟨y, y0, y1, rfl⟩, rfl⟩
    obtain ⟨q, rfl⟩ := Int.eq_ofNat_of_zero_le y0
    have hq : q < NG := by omega
    clear y0 y1 WI
    go_wp2_with fail
    go_loopw [11, 12] (fun pv kv wk => ∃ p k : Nat, pv = .int .i64 p ∧ kv = .int .i64 k ∧ k ≤ q ∧ Hid (p = atE G k ∧ p ≤ 8 + 16425 * k ∧ Still w3 wk)) (fun _ kv _ => q - (intOf kv).toNat)
    case atStart => exact ⟨8, 0, rfl, rfl, Nat.zero_le _, rfl, Nat.le_refl _, Still.refl _⟩
    case round =>
      obtain ⟨p, k, rfl, rfl, hk, hp⟩ := hrel
      by_cases hlt : k < q
      · have e1 : (k : Int) < (q : Int) := by omega
        have e2 : (k : Int) < (NG : Int) := by omega
        obtain ⟨t, K, D, A1, nD, d1, z, ef⟩ := EF.out k (by omega)
        have E1 := Lib.hid ef
        have R1 := ef.rng wr hp.out.2.2
        have SZ := Lib.hid (ef.sz wr)
        have HP := Lib.hid hp.out
        have hpz : p + z ≤ 300000 := by have := hp.out.2.1; have := ef.z9; omega
        have HLT := Lib.hid hlt
        have KL := Lib.hid ef.key
        clear ef hp hlt
        go_wp2_with (guard_target =~ wpList _ _ _ (Oper.mk (some 46) _ _ _ _ _ :: _) _ _; go_must (refine wpList_plain rfl fun _ hQ => wp_load_mid 26 (.tmp 45) rfl gg (k * 34) rfl (entL t K (.slice A1 nD d1)) _ R1 HU.out rfl (by rw [sizeEnt]; exact congrArg some (by have h := entV_size t K (.slice A1 nD d1) KL.out; unfold entV at h; simpa using h.symm)) (hQ _ _ ?_)))
        refine SZ.out.mono ?_
        rintro e w5 ⟨rfl, s5⟩
        have S5 := Lib.hid (Still.trans HP.out.2.2 s5)
        clear s5 SZ R1
        go_wp2_with fail
        go_roundw
        case rel => exact ⟨p + z, k + 1, by go_num, by go_num, by have := HLT.out; omega, by rw [E1.out.next, HP.out.1], by have := HP.out.2.1; have := E1.out.z9; omega, S5.out⟩
        case measure => simp [intOf]; have := HLT.out; omega
      · obtain rfl : k = q := by omega
        obtain ⟨t, K, D, A1, nD, d1, z, ef⟩ := EF.out k hq
        have e2 : (k : Int) < (NG : Int) := by omega
        have E1 := Lib.hid ef
        have R1 := ef.rng wr hp.out.2.2
        have SZ := Lib.hid (ef.sz wr)
        have HP := Lib.hid hp.out
        have hz9 := ef.z9
        have KL := Lib.hid ef.key
        have P8 := Lib.hid (show p + z ≤ nb ∧ p = atE G k ∧ 8 ≤ p by
          have h1 := (AB.out (k + 1) (by have := HNG.out; omega)).2
          rw [← HNB.out, ef.next, ← hp.out.1] at h1
          exact ⟨h1, hp.out.1, by rw [hp.out.1]; unfold atE; omega⟩)
        have hpz : p + z ≤ nb := P8.out.1
        clear ef hp hlt hk
        go_wp2_with (guard_target =~ wpList _ _ _ (Oper.mk (some 52) _ _ _ _ _ :: _) _ _; go_must (refine wpList_plain rfl fun _ hQ => wp_load_mid 26 (.tmp 51) rfl gg (k * 34) rfl (entL t K (.slice A1 nD d1)) _ R1 HU.out rfl (by rw [sizeEnt]; exact congrArg some (by have h := entV_size t K (.slice A1 nD d1) KL.out; unfold entV at h; simpa using h.symm)) (hQ _ _ ?_)))
        refine SZ.out.mono ?_
        rintro e w5 ⟨rfl, s5⟩
        have S5 := Lib.hid (Still.trans HP.out.2.2 s5)
        have WI := Lib.hid (within_any x2 0 ((z : Int) - 1) w5 (by omega))
        clear s5 SZ R1 HP
        go_wp2_with fail
        refine WI.out.mono ?_
        rintro e w' ⟨⟨y, y0, y1, rfl⟩, rfl⟩
        obtain ⟨j, rfl⟩ := Int.eq_ofNat_of_zero_le y0
        have hj : j < z := by omega
        have ob5 := own_still0 S5.out OB.out
        obtain ⟨gb, hAb⟩ : ∃ gb, Ab = some ⟨gb, 0, none⟩ := by
          obtain ⟨_, _, e, h⟩ := own_formE ob5
          injection e with e1 e2 e3
          subst e1
          exact h (by omega)
        subst hAb
        obtain ⟨l, hl⟩ : ∃ l, l = magic ++ segB G := ⟨_, rfl⟩
        rw [← hl] at ob5
        have hll : l.length = nb := by have := ob5.1; rw [bytesV_length] at this; omega
        have q1 : w5.cell? ⟨gb, p + j, none⟩ = some (.int .u8 ((l.getD (p + j) 0).toNat : Int)) := by
          rw [ob5.cellAt (p + j) (by omega), bytesV_get _ _ (by omega)]
        have q2 : w5.frozen? ⟨gb, p + j, none⟩ = false := ob5.frozenAt (p + j)
        obtain ⟨v, hv⟩ : ∃ v : UInt8, v = l.getD (p + j) 0 ^^^ UInt8.ofNat m3 := ⟨_, rfl⟩
        have hx := xor_byte (l.getD (p + j) 0) m3 M3.out
        rw [← hv] at hx
        obtain ⟨w6, hw6⟩ : ∃ w6, w6 = w5.setCell ⟨gb, p + j, none⟩ (.int .u8 (v.toNat : Int)) := ⟨_, rfl⟩
        have ob6 := (ob5.stored (p + j) (.int .u8 (v.toNat : Int))).1
        rw [bytesV_set, ← hw6] at ob6
        have gr6 : w5.grownBy w6 (some gb) := by rw [hw6]; exact grownBy_set w5 gb (p + j) _
        have hgb : w2.heap.size ≤ gb := (ob5.lt gb rfl).1
        have OG6 := Lib.hid (own_apart (own_still0 S5.out OG.out) ob5 (by decide) gr6)
        have EF6 := Lib.hid (entF_of OG6.out HG.out HH.out.ok HH.out.long HNG.out)
        have S26 := Lib.hid (show Still w2 w6 from (Still.trans HH.out.still S5.out).grown gr6 (Still.trans HH.out.still S5.out).size (fun k hk => by cases hk; exact hgb))
        obtain ⟨⟨R, hR⟩, hB⟩ := spoilt_parts G k j ⟨t, K, D⟩ v E1.out.at_ (by show j < (bytE t K D).length; rw [← E1.out.zD]; exact hj)
        rw [← hl, ← P8.out.2.1] at hR hB
        have hB : (l.set (p + j) v).drop (p + z) = segB (G.drop (k + 1)) := by rw [E1.out.zD]; exact hB
        obtain ⟨l6, hl6⟩ : ∃ l6, l6 = l.set (p + j) v := ⟨_, rfl⟩
        rw [← hl6] at ob6 hR hB
        obtain ⟨F', hF'⟩ := scan_ahead (G.take k) R (fun x hx => HH.out.ok x (List.mem_of_mem_take hx))
        rw [← hR] at hF'
        have SC := Lib.hid (scan_any (some ⟨gb, 0, none⟩) nb cb l6 w6 w6.heap.size (Reads.of_own ob6) (Nat.le_refl _) (by omega) hb1 hb2 (TW.out _ S26.out))
        have FA := Lib.hid hF'
        have OB6 := Lib.hid ob6
        have HB := Lib.hid hB
        have HW6 := Lib.hid hw6
        obtain ⟨old, hold⟩ : ∃ old, old = (((l.getD (p + j) 0).toNat : Nat) : Int) := ⟨_, rfl⟩
        rw [← hold] at q1 hx
        clear hold ob5 ob6 gr6 hR hB hF' hw6 hl hll hl6 hv y0 y1 WI EF
        go_upto_region 14 with fail
        rw [← HW6.out]
        clear HW6 q1 q2 hx
        obtain ⟨sR, hsR⟩ : ∃ sR, sR = scanR l6 := ⟨_, rfl⟩
        rw [← hsR] at SC FA
        obtain ⟨NA, hNA⟩ : ∃ NA, NA = sR.1.length := ⟨_, rfl⟩
        have hkN : k ≤ G.length := by have := HNG.out; omega
        have hNAk : k ≤ NA := by
          rw [hNA, FA.out, List.length_append, fosF_len, List.length_take]
          omega
        rw [← hNA] at SC
        have HNA := Lib.hid hNA
        clear hsR hNA
        go_wp2_with fail
        refine SC.out.mono ?_
        rintro e w7 ⟨⟨lvA, xsA, rfl, oa, ha⟩, s7⟩
        obtain ⟨aA, cA, rfl, gA⟩ := own_formE oa
        have S67 := Lib.hid s7
        have S27 := Lib.hid (Still.trans S26.out s7)
        have OA := Lib.hid oa
        have HA := Lib.hid ha
        have GA := Lib.hid gA
        have RB7 := Lib.hid (fun W (s : Still w7 W) => (Reads.of_own OB6.out).still (Nat.le_refl _) (Still.trans s7 s))
        have HOK := Lib.hid (show ∀ x ∈ G.drop (k + 1), okE x from fun x hx => HH.out.ok x (List.mem_of_mem_drop hx))
        have HDL := Lib.hid (show (G.drop (k + 1)).length = NG - (k + 1) by rw [List.length_drop, HNG.out])
        obtain ⟨p2, hp2⟩ : ∃ p2, p2 = p + z := ⟨_, rfl⟩
        have i1 : (p : Int) + (z : Int) = (p2 : Int) := by omega
        have HLN := Lib.hid (show 8 + (segB (G.drop (k + 1))).length ≤ 200000 by
          rw [← HB.out, List.length_drop]
          have := (Reads.of_own OB6.out).1
          omega)
        rw [← hp2] at HB hpz
        obtain ⟨wM, hwM⟩ : ∃ wM, wM = w7.alloc (.cells (bytesV magic).toArray 5 (8, 9)) := ⟨_, rfl⟩
        have BR := Lib.hid (show BRow wM w7.heap.size (.slice (some ⟨w7.heap.size, 0, none⟩) 8 8) magic from .inl ⟨w7.heap.size, rfl, rfl, Nat.le_refl _, by rw [hwM]; exact heap_alloc_new w7 _⟩)
        have S7M := Lib.hid (show Still w7 wM by rw [hwM]; exact (Still.refl w7).alloc (Nat.le_refl _) _)
        have HWM := Lib.hid hwM
        clear oa ha gA s7 SC hp2 hwM hkN E1 KL P8 OG6 OB6 OB
        go_upto_region 15 with fail
        go_cut [17, 18, 19] (fun lv pv ev wx => ∃ (aB : Option Addr) (cB : Nat) (pz : Int), lv = .slice aB (NG - (k + 1)) cB ∧ pv = .int .i64 pz ∧ ev = .int .i64 0 ∧ Hid (Still w7 wx ∧ ∃ g9 xsB, w7.heap.size ≤ g9 ∧ wx.ownsRow g9 55 36 (.slice aB (NG - (k + 1)) cB) (NG - (k + 1)) xsB ∧ HasF wx g9 (fosF 8 (G.drop (k + 1))) xsB))
        case first =>
          have kc := fun (w : World) (C : Array Value) (n c : Nat) => Lib.run_convert_bytes_const (P := Tryd.prog) w 24 5 C n c Tryd.underlying24 Tryd.underlying5
          have HWM2 := Lib.hid (show w7.alloc (.cells #[.int .u8 72, .int .u8 79, .int .u8 65, .int .u8 82, .int .u8 68, .int .u8 83, .int .u8 69, .int .u8 71] 5 (8, 9)) = wM by rw [HWM.out]; rfl)
          have key : (p2 < nb ∧ ¬ cb = p2) ∨ (nb = p2 ∧ cb = p2 ∧ Hid (segB (G.drop (k + 1)) = [])) ∨ (nb = p2 ∧ ¬ cb = p2 ∧ Hid (segB (G.drop (k + 1)) = [])) := by
            have hlen := (RB7.out w7 (Still.refl _)).1
            have hnil : nb = p2 → Hid (segB (G.drop (k + 1)) = []) := fun h => by
              show _ = _
              rw [← HB.out]
              exact List.drop_of_length_le (by omega)
            by_cases h1 : nb = p2
            · by_cases h2 : cb = p2
              · exact .inr (.inl ⟨h1, h2, hnil h1⟩)
              · exact .inr (.inr ⟨h1, h2, hnil h1⟩)
            · exact .inl ⟨by omega, by omega⟩
          rcases key with ⟨k1, k2⟩ | ⟨k1, k2, HE⟩ | ⟨k1, k2, HE⟩
          · have k3 : (p2 : Int) ≤ (nb : Int) := by omega
            have RD := Lib.hid (show Reads wM w6.heap.size (some ⟨gb, p2, none⟩) (nb - p2) (segB (G.drop (k + 1))) by
              have h := (RB7.out wM S7M.out).dropk (k := p2) (by omega)
              rw [HB.out] at h
              simpa [Addr.add_lit] using h)
            go_wp2_with (guard_target =~ wpList _ _ _ (Oper.mk (some 85) _ _ _ _ _ :: _) _ _; rw [HWM2.out]; clear kc; go_must (refine wpList_addsB wM rfl (.tmp 79) (.tmp 84) rfl w7.heap.size (.slice (some ⟨w7.heap.size, 0, none⟩) 8 8) magic rfl BR.out (some ⟨gb, p2, none⟩) (nb - p2) (cb - p2) w6.heap.size (segB (G.drop (k + 1))) rfl RD.out (by omega) (by have : magic.length = 8 := rfl; omega) S7M.out.size ?_))
            intro v9 w9 br9 gr9
            have S9 := Lib.hid (show Still w7 w9 from S7M.out.grown gr9 S7M.out.size (fun k hk => BR.out.low k hk))
            clear gr9
            have BR9 := Lib.hid br9
            obtain ⟨A9, c9, rfl, f1, f2⟩ := br9.form
            have hm8 : (magic ++ segB (G.drop (k + 1))).length = 8 + (segB (G.drop (k + 1))).length := by rw [List.length_append]; rfl
            have sc := scan_any A9 _ c9 (magic ++ segB (G.drop (k + 1))) w9 w9.heap.size br9.reads (Nat.le_refl _) (by have := HLN.out; omega) f1 f2 (TW.out _ (Still.trans S27.out S9.out))
            rw [scan_whole _ HOK.out] at sc
            simp only [fosF_len] at sc
            rw [hm8] at sc f1 ⊢
            obtain ⟨n9, hn9⟩ : ∃ n9, n9 = 8 + (segB (G.drop (k + 1))).length := ⟨_, rfl⟩
            rw [← hn9] at sc f1 ⊢
            rw [HDL.out] at sc
            have SC9 := Lib.hid sc
            clear sc br9 f1 f2 hm8 hn9 BR9
            go_wp2_with fail
            refine SC9.out.mono ?_
            rintro e w10 ⟨⟨lvB, xsB, rfl, ob0, hb0⟩, s10⟩
            obtain ⟨aB, cB, rfl, gB0⟩ := own_formE ob0
            have S10 := Lib.hid (Still.trans S9.out s10)
            have OBB := Lib.hid ob0
            have HBB := Lib.hid hb0
            have Z9 := Lib.hid S9.out.size
            clear ob0 hb0 s10 SC9 gB0
            go_wp2_with fail
            go_meet
            exact ⟨aB, cB, _, rfl, rfl, rfl, S10.out, _, xsB, Z9.out, OBB.out, HBB.out⟩
          · subst k1
            subst k2
            go_wp2_with (guard_target =~ wpList _ _ _ (Oper.mk (some 85) _ _ _ _ _ :: _) _ _; rw [HWM2.out]; clear kc; go_must (refine wpList_addsNone _ rfl (.tmp 79) (.tmp 84) rfl (some ⟨w7.heap.size, 0, none⟩) 8 8 rfl (by omega) _ _ rfl ?_))
            obtain ⟨w9, hw9⟩ : ∃ w9, w9 = wM := ⟨_, rfl⟩
            have br9 : BRow w9 w7.heap.size (.slice (some ⟨w7.heap.size, 0, none⟩) 8 8) (magic ++ segB (G.drop (k + 1))) := by
              rw [hw9, HE.out, List.append_nil]
              exact BR.out
            have S9 := Lib.hid (show Still w7 w9 by rw [hw9]; exact S7M.out)
            rw [← hw9]
            obtain ⟨v9, hv9⟩ : ∃ v9, v9 = Value.slice (some ⟨w7.heap.size, 0, none⟩) 8 8 := ⟨_, rfl⟩
            rw [← hv9] at br9 ⊢
            clear hw9 hv9
            have BR9 := Lib.hid br9
            obtain ⟨A9, c9, rfl, f1, f2⟩ := br9.form
            have hm8 : (magic ++ segB (G.drop (k + 1))).length = 8 + (segB (G.drop (k + 1))).length := by rw [List.length_append]; rfl
            have sc := scan_any A9 _ c9 (magic ++ segB (G.drop (k + 1))) w9 w9.heap.size br9.reads (Nat.le_refl _) (by have := HLN.out; omega) f1 f2 (TW.out _ (Still.trans S27.out S9.out))
            rw [scan_whole _ HOK.out] at sc
            simp only [fosF_len] at sc
            rw [hm8] at sc f1 ⊢
            obtain ⟨n9, hn9⟩ : ∃ n9, n9 = 8 + (segB (G.drop (k + 1))).length := ⟨_, rfl⟩
            rw [← hn9] at sc f1 ⊢
            rw [HDL.out] at sc
            have SC9 := Lib.hid sc
            clear sc br9 f1 f2 hm8 hn9 BR9
            go_wp2_with fail
            refine SC9.out.mono ?_
            rintro e w10 ⟨⟨lvB, xsB, rfl, ob0, hb0⟩, s10⟩
            obtain ⟨aB, cB, rfl, gB0⟩ := own_formE ob0
            have S10 := Lib.hid (Still.trans S9.out s10)
            have OBB := Lib.hid ob0
            have HBB := Lib.hid hb0
            have Z9 := Lib.hid S9.out.size
            clear ob0 hb0 s10 SC9 gB0
            go_wp2_with fail
            go_meet
            exact ⟨aB, cB, _, rfl, rfl, rfl, S10.out, _, xsB, Z9.out, OBB.out, HBB.out⟩
          · subst k1
            go_wp2_with (guard_target =~ wpList _ _ _ (Oper.mk (some 85) _ _ _ _ _ :: _) _ _; rw [HWM2.out]; clear kc; go_must (refine wpList_addsNone _ rfl (.tmp 79) (.tmp 84) rfl (some ⟨w7.heap.size, 0, none⟩) 8 8 rfl (by omega) _ _ rfl ?_))
            obtain ⟨w9, hw9⟩ : ∃ w9, w9 = wM := ⟨_, rfl⟩
            have br9 : BRow w9 w7.heap.size (.slice (some ⟨w7.heap.size, 0, none⟩) 8 8) (magic ++ segB (G.drop (k + 1))) := by
              rw [hw9, HE.out, List.append_nil]
              exact BR.out
            have S9 := Lib.hid (show Still w7 w9 by rw [hw9]; exact S7M.out)
            rw [← hw9]
            obtain ⟨v9, hv9⟩ : ∃ v9, v9 = Value.slice (some ⟨w7.heap.size, 0, none⟩) 8 8 := ⟨_, rfl⟩
            rw [← hv9] at br9 ⊢
            clear hw9 hv9
            have BR9 := Lib.hid br9
            obtain ⟨A9, c9, rfl, f1, f2⟩ := br9.form
            have hm8 : (magic ++ segB (G.drop (k + 1))).length = 8 + (segB (G.drop (k + 1))).length := by rw [List.length_append]; rfl
            have sc := scan_any A9 _ c9 (magic ++ segB (G.drop (k + 1))) w9 w9.heap.size br9.reads (Nat.le_refl _) (by have := HLN.out; omega) f1 f2 (TW.out _ (Still.trans S27.out S9.out))
            rw [scan_whole _ HOK.out] at sc
            simp only [fosF_len] at sc
            rw [hm8] at sc f1 ⊢
            obtain ⟨n9, hn9⟩ : ∃ n9, n9 = 8 + (segB (G.drop (k + 1))).length := ⟨_, rfl⟩
            rw [← hn9] at sc f1 ⊢
            rw [HDL.out] at sc
            have SC9 := Lib.hid sc
            clear sc br9 f1 f2 hm8 hn9 BR9
            go_wp2_with fail
            refine SC9.out.mono ?_
            rintro e w10 ⟨⟨lvB, xsB, rfl, ob0, hb0⟩, s10⟩
            obtain ⟨aB, cB, rfl, gB0⟩ := own_formE ob0
            have S10 := Lib.hid (Still.trans S9.out s10)
            have OBB := Lib.hid ob0
            have HBB := Lib.hid hb0
            have Z9 := Lib.hid S9.out.size
            clear ob0 hb0 s10 SC9 gB0
            go_wp2_with fail
            go_meet
            exact ⟨aB, cB, _, rfl, rfl, rfl, S10.out, _, xsB, Z9.out, OBB.out, HBB.out⟩
        case rest =>
          obtain ⟨aB, cB, pz, rfl, rfl, rfl, hh⟩ := hcut
          obtain ⟨NB, hNB⟩ : ∃ NB, NB = NG - (k + 1) := ⟨_, rfl⟩
          have HNB2 := Lib.hid hNB
          rw [← hNB] at hh ⊢
          obtain ⟨s7c, g9, xsB, z9, obb, hbb⟩ := hh.out
          have S7C := Lib.hid s7c
          have OBB := Lib.hid obb
          have HBB := Lib.hid hbb
          have GB := Lib.hid (show 0 < NB → ∃ g, aB = some ⟨g, 0, none⟩ by
            obtain ⟨_, _, e, h⟩ := own_formE obb
            injection e with e1 e2 e3
            subst e1
            exact h)
          have i2 : (NG : Int) - (k : Int) - 1 = (NB : Int) := by omega
          have t1 : ¬ (NA : Int) < (k : Int) := by omega
          have hNBb : NB ≤ 12 := by omega
          clear hh s7c obb hbb hNB z9 HOK HDL HLN HWM BR S7M RB7 HB
          obtain ⟨w8, hw8⟩ : ∃ w8, w8 = wc := ⟨_, rfl⟩
          subst hw8
          go_wp2_with fail
          go_loopw [20] (fun iv wk => ∃ i : Nat, iv = .int .i64 i ∧ i ≤ NG ∧ Hid (Still w8 wk)) (fun iv _ => NG - (intOf iv).toNat)
          case atStart => exact ⟨0, rfl, Nat.zero_le _, Still.refl _⟩
          case round =>
            obtain ⟨i, rfl, hi, hst⟩ := hrel
            by_cases hlt : i < NG
            · have e1 : (i : Int) < (NG : Int) := by omega
              have HLT := Lib.hid hlt
              have SK := Lib.hid hst.out
              have S6K := Lib.hid (Still.trans S67.out (Still.trans S7C.out hst.out))
              have S7K := Lib.hid (Still.trans S7C.out hst.out)
              have S2K := Lib.hid (Still.trans S26.out S6K.out)
              clear hst hi
              by_cases hc1 : i < k
              · obtain ⟨t, K, D, A2, nD, d2, z2, ef⟩ := EF6.out i hlt
                have KL := Lib.hid ef.key
                obtain ⟨gf, rfl⟩ := GA.out (by omega)
                have hF : sR.1[i]? = some ⟨t, K, D, 8 + (segB ((G.take k).take i)).length, (bytE t K D).length⟩ := by
                  rw [FA.out, List.getElem?_append_left (by rw [fosF_len, List.length_take]; have := HNG.out; omega)]
                  exact fosF_at (G.take k) 8 i ⟨t, K, D⟩ (by rw [List.getElem?_take_of_lt hc1]; exact ef.at_)
                obtain ⟨A1, nD1, d1, k1, k2, k3, k4⟩ := atF OA.out HA.out hF (by omega)
                have VK := Lib.hid S7K.out
                simp only at k1 k2 k3 k4
                obtain rfl : nD = nD1 := by rw [k3, ef.nD]
                have FF := Lib.hid (fun W (s : Still wr W) => (show W.rangeAt gf (i * 36) (entL t K (.slice A1 nD d1)) ∧ W.rangeAt gg (i * 34) (entL t K (.slice A2 nD d2)) by
                  refine ⟨fun jj u hj => ?_, ef.rng W (Still.trans S6K.out s)⟩
                  have h := k4.ent jj u hj
                  exact ((Still.trans VK.out s).cell (World.block_lt_of_cell? _ _ h)).trans h))
                have SE := Lib.hid (fun W (s : Still wr W) => sameE_yes t K D A1 A2 nD d1 d2 W _ _ KL.out ((Reads.of_own k2).still (Nat.le_refl _) (Still.trans VK.out s)) ((Reads.of_own ef.dat).still (Nat.le_refl _) (Still.trans S2K.out s)) (Still.trans VK.out s).size (Still.trans S2K.out s).size (by have := ef.n20; omega))
                have dA : (i : Int) < (k : Int) := by omega
                have dA2 : ¬ (k : Int) < (i : Int) := by omega
                have dA4 : i ≤ k := by omega
                have dA3 : (i : Int) < (NA : Int) := by omega
                clear hlt hc1 k1 k2 k3 k4 ef hF VK
                go_upto_region 21 with fail
                refine wp_region_held_drew (S := fun W => W.rangeAt gf (i * 36) (entL t K (.slice A1 nD d1)) ∧ W.rangeAt gg (i * 34) (entL t K (.slice A2 nD d2))) (by kernel_rfl) (FF.out _ ((Still.refl _).drew)) (fun hHeld => ?_)
                obtain ⟨wa, hwa⟩ : ∃ wa, wa = wr.drew := ⟨_, rfl⟩
                have SA := Lib.hid (show Still wr wa by rw [hwa]; exact (Still.refl _).drew)
                try rw [← hwa] at hHeld
                rw [← hwa]
                clear hwa
                try simp only [Act.put, List.setIfInBounds_toArray, List.set_cons_zero, List.set_cons_succ]
                refine wpAnyH_take (i := 0) (v := .int .i64 (i : Int)) rfl (by kernel_rfl) (by kernel_rfl) (by kernel_rfl) (fun _ _ _ h => h) (Or.inl ⟨by kernel_rfl, fun W hS => by obtain ⟨h0, h1⟩ := hS; go_simp⟩) (by assumption) ?_
                try simp only [Act.put, List.setIfInBounds_toArray, List.set_cons_zero, List.set_cons_succ]
                refine wpAnyH_take (i := 1) (v := .int .i64 (k : Int)) rfl (by kernel_rfl) (by kernel_rfl) (by kernel_rfl) (fun _ _ _ h => h) (Or.inl ⟨by kernel_rfl, fun W hS => by obtain ⟨h0, h1⟩ := hS; go_simp⟩) (by assumption) ?_
                try simp only [Act.put, List.setIfInBounds_toArray, List.set_cons_zero, List.set_cons_succ]
                refine wpAnyH_take (i := 2) (v := (.bool true)) rfl (by kernel_rfl) (by kernel_rfl) (by kernel_rfl) (fun _ _ _ h => h) (Or.inl ⟨by kernel_rfl, fun W hS => by obtain ⟨h0, h1⟩ := hS; go_simp⟩) (by assumption) ?_
                try simp only [Act.put, List.setIfInBounds_toArray, List.set_cons_zero, List.set_cons_succ]
                refine wpAnyH_take (i := 3) (v := (.bool true)) rfl (by kernel_rfl) (by kernel_rfl) (by kernel_rfl) (fun _ _ _ h => h) (Or.inl ⟨by kernel_rfl, fun W hS => by obtain ⟨h0, h1⟩ := hS; go_simp⟩) (by assumption) ?_
                try simp only [Act.put, List.setIfInBounds_toArray, List.set_cons_zero, List.set_cons_succ]
                refine wpAnyH_take (i := 4) (v := .slice (some ⟨gf, 0, none⟩) NA cA) rfl (by kernel_rfl) (by kernel_rfl) (by kernel_rfl) (fun _ _ _ h => h) (Or.inl ⟨by kernel_rfl, fun W hS => by obtain ⟨h0, h1⟩ := hS; go_simp⟩) (by assumption) ?_
                try simp only [Act.put, List.setIfInBounds_toArray, List.set_cons_zero, List.set_cons_succ]
                refine wpAnyH_take (i := 5) (v := .int .i64 (i : Int)) rfl (by kernel_rfl) (by kernel_rfl) (by kernel_rfl) (fun _ _ _ h => h) (Or.inl ⟨by kernel_rfl, fun W hS => by obtain ⟨h0, h1⟩ := hS; go_simp⟩) (by assumption) ?_
                try simp only [Act.put, List.setIfInBounds_toArray, List.set_cons_zero, List.set_cons_succ]
                refine wpAnyH_take (i := 6) (v := .pointer (some ⟨gf, i * 36, none⟩)) rfl (by kernel_rfl) (by kernel_rfl) (by kernel_rfl) (fun _ _ _ h => h) (Or.inl ⟨by kernel_rfl, fun W hS => by obtain ⟨h0, h1⟩ := hS; go_simp⟩) (by assumption) ?_
                try simp only [Act.put, List.setIfInBounds_toArray, List.set_cons_zero, List.set_cons_succ]
                refine wpAnyH_take (i := 7) (v := .pointer (some ⟨gf, i * 36, none⟩)) rfl (by kernel_rfl) (by kernel_rfl) (by kernel_rfl) (fun _ _ _ h => h) (Or.inl ⟨by kernel_rfl, fun W hS => by obtain ⟨h0, h1⟩ := hS; go_simp⟩) (by assumption) ?_
                try simp only [Act.put, List.setIfInBounds_toArray, List.set_cons_zero, List.set_cons_succ]
                refine wpAnyH_take (i := 8) (oi := ⟨some 122, .load 26 (.tmp 121), _, _, _, _⟩) (v := .agg (entV t K (.slice A1 nD d1))) rfl (by kernel_rfl) (by kernel_rfl) (by kernel_rfl) (fun _ _ _ h => h) ?hyA8 (by assumption) ?_
                case hyA8 =>
                  refine yieldsIf_load_mid ?hw 26 (.tmp 121) ?ho gf (i * 36) ?hx (entL t K (.slice A1 nD d1)) _ (fun W h => h.1) HU.out rfl (by rw [sizeEnt]; exact congrArg some (by have h := entV_size t K ((.slice A1 nD d1)) KL.out; unfold entV at h; simpa using h.symm))
                  case hw => kernel_rfl
                  case ho => rfl
                  case hx => kernel_rfl
                try simp only [Act.put, List.setIfInBounds_toArray, List.set_cons_zero, List.set_cons_succ]
                refine wpAnyH_take (i := 9) (v := .slice (some ⟨gg, 0, none⟩) NG cg) rfl (by kernel_rfl) (by kernel_rfl) (by kernel_rfl) (fun _ _ _ h => h) (Or.inl ⟨by kernel_rfl, fun W hS => by obtain ⟨h0, h1⟩ := hS; go_simp⟩) (by assumption) ?_
                try simp only [Act.put, List.setIfInBounds_toArray, List.set_cons_zero, List.set_cons_succ]
                refine wpAnyH_take (i := 10) (v := .int .i64 (i : Int)) rfl (by kernel_rfl) (by kernel_rfl) (by kernel_rfl) (fun _ _ _ h => h) (Or.inl ⟨by kernel_rfl, fun W hS => by obtain ⟨h0, h1⟩ := hS; go_simp⟩) (by assumption) ?_
                try simp only [Act.put, List.setIfInBounds_toArray, List.set_cons_zero, List.set_cons_succ]
                refine wpAnyH_take (i := 11) (v := .pointer (some ⟨gg, i * 34, none⟩)) rfl (by kernel_rfl) (by kernel_rfl) (by kernel_rfl) (fun _ _ _ h => h) (Or.inl ⟨by kernel_rfl, fun W hS => by obtain ⟨h0, h1⟩ := hS; go_simp⟩) (by assumption) ?_
                try simp only [Act.put, List.setIfInBounds_toArray, List.set_cons_zero, List.set_cons_succ]
                refine wpAnyH_take (i := 12) (oi := ⟨some 126, .load 26 (.tmp 125), _, _, _, _⟩) (v := .agg (entV t K (.slice A2 nD d2))) rfl (by kernel_rfl) (by kernel_rfl) (by kernel_rfl) (fun _ _ _ h => h) ?hyA12 (by assumption) ?_
                case hyA12 =>
                  refine yieldsIf_load_mid ?hw 26 (.tmp 125) ?ho gg (i * 34) ?hx (entL t K (.slice A2 nD d2)) _ (fun W h => h.2) HU.out rfl (by rw [sizeEnt]; exact congrArg some (by have h := entV_size t K ((.slice A2 nD d2)) KL.out; unfold entV at h; simpa using h.symm))
                  case hw => kernel_rfl
                  case ho => rfl
                  case hx => kernel_rfl
                try simp only [Act.put, List.setIfInBounds_toArray, List.set_cons_zero, List.set_cons_succ]
                refine wpAnyH_ready (rs := [13]) (by kernel_rfl) (by simp) ?_
                refine AllReadyH.cons (o := ⟨some 127, .call { callee := .value (.func 16), args := #[.tmp 122, .tmp 126], argTypes := #[26, 26] }, _, _, _, _⟩) rfl (fun K' hK' => ?_) AllReadyH.nil
                have HK' := Lib.hid hK'
                clear hK'
                go_simp
                go_wp2_with (go_at_call 16; refine (SE.out _ SA.out).mono ?_; rintro e w5 ⟨rfl, s5⟩; have S5 := Lib.hid (SA.out.trans s5))
                refine HK'.out.out _ _ (FF.out _ S5.out) (fun hHeld => ?_)
                clear HK' K'
                try simp only [Act.put, List.setIfInBounds_toArray, List.set_cons_zero, List.set_cons_succ]
                refine wpAnyH_take (i := 14) (v := (.bool false)) rfl (by kernel_rfl) (by kernel_rfl) (by kernel_rfl) (fun _ _ _ h => h) (Or.inl ⟨by kernel_rfl, fun W hS => by obtain ⟨h0, h1⟩ := hS; go_simp⟩) (by assumption) ?_
                try simp only [Act.put, List.setIfInBounds_toArray, List.set_cons_zero, List.set_cons_succ]
                refine wpAnyH_take (i := 15) (v := (.bool false)) rfl (by kernel_rfl) (by kernel_rfl) (by kernel_rfl) (fun _ _ _ h => h) (Or.inl ⟨by kernel_rfl, fun W hS => by obtain ⟨h0, h1⟩ := hS; go_simp⟩) (by assumption) ?_
                try simp only [Act.put, List.setIfInBounds_toArray, List.set_cons_zero, List.set_cons_succ]
                refine wpAnyH_take (i := 16) (v := (.bool false)) rfl (by kernel_rfl) (by kernel_rfl) (by kernel_rfl) (fun _ _ _ h => h) (Or.inl ⟨by kernel_rfl, fun W hS => by obtain ⟨h0, h1⟩ := hS; go_simp⟩) (by assumption) ?_
                try simp only [Act.put, List.setIfInBounds_toArray, List.set_cons_zero, List.set_cons_succ]
                refine wpAnyH_take (i := 17) (v := .int .i64 (i : Int)) rfl (by kernel_rfl) (by kernel_rfl) (by kernel_rfl) (fun _ _ _ h => h) (Or.inl ⟨by kernel_rfl, fun W hS => by obtain ⟨h0, h1⟩ := hS; go_simp⟩) (by assumption) ?_
                try simp only [Act.put, List.setIfInBounds_toArray, List.set_cons_zero, List.set_cons_succ]
                refine wpAnyH_take (i := 18) (v := .int .i64 (k : Int)) rfl (by kernel_rfl) (by kernel_rfl) (by kernel_rfl) (fun _ _ _ h => h) (Or.inl ⟨by kernel_rfl, fun W hS => by obtain ⟨h0, h1⟩ := hS; go_simp⟩) (by assumption) ?_
                try simp only [Act.put, List.setIfInBounds_toArray, List.set_cons_zero, List.set_cons_succ]
                refine wpAnyH_take (i := 19) (v := (.bool false)) rfl (by kernel_rfl) (by kernel_rfl) (by kernel_rfl) (fun _ _ _ h => h) (Or.inl ⟨by kernel_rfl, fun W hS => by obtain ⟨h0, h1⟩ := hS; go_simp⟩) (by assumption) ?_
                try simp only [Act.put, List.setIfInBounds_toArray, List.set_cons_zero, List.set_cons_succ]
                refine wpAnyH_take (i := 20) (v := (.bool false)) rfl (by kernel_rfl) (by kernel_rfl) (by kernel_rfl) (fun _ _ _ h => h) (Or.inl ⟨by kernel_rfl, fun W hS => by obtain ⟨h0, h1⟩ := hS; go_simp⟩) (by assumption) ?_
                try simp only [Act.put, List.setIfInBounds_toArray, List.set_cons_zero, List.set_cons_succ]
                refine wpAnyH_take (i := 21) (v := undef) rfl (by kernel_rfl) (by kernel_rfl) (by kernel_rfl) (fun _ _ _ h => h) (Or.inr ⟨by kernel_rfl, rfl⟩) (by assumption) ?_
                try simp only [Act.put, List.setIfInBounds_toArray, List.set_cons_zero, List.set_cons_succ]
                refine wpAnyH_take (i := 22) (v := undef) rfl (by kernel_rfl) (by kernel_rfl) (by kernel_rfl) (fun _ _ _ h => h) (Or.inr ⟨by kernel_rfl, rfl⟩) (by assumption) ?_
                try simp only [Act.put, List.setIfInBounds_toArray, List.set_cons_zero, List.set_cons_succ]
                refine wpAnyH_take (i := 23) (v := undef) rfl (by kernel_rfl) (by kernel_rfl) (by kernel_rfl) (fun _ _ _ h => h) (Or.inr ⟨by kernel_rfl, rfl⟩) (by assumption) ?_
                try simp only [Act.put, List.setIfInBounds_toArray, List.set_cons_zero, List.set_cons_succ]
                refine wpAnyH_take (i := 24) (v := undef) rfl (by kernel_rfl) (by kernel_rfl) (by kernel_rfl) (fun _ _ _ h => h) (Or.inr ⟨by kernel_rfl, rfl⟩) (by assumption) ?_
                try simp only [Act.put, List.setIfInBounds_toArray, List.set_cons_zero, List.set_cons_succ]
                refine wpAnyH_take (i := 25) (v := undef) rfl (by kernel_rfl) (by kernel_rfl) (by kernel_rfl) (fun _ _ _ h => h) (Or.inr ⟨by kernel_rfl, rfl⟩) (by assumption) ?_
                try simp only [Act.put, List.setIfInBounds_toArray, List.set_cons_zero, List.set_cons_succ]
                refine wpAnyH_take (i := 26) (v := undef) rfl (by kernel_rfl) (by kernel_rfl) (by kernel_rfl) (fun _ _ _ h => h) (Or.inr ⟨by kernel_rfl, rfl⟩) (by assumption) ?_
                try simp only [Act.put, List.setIfInBounds_toArray, List.set_cons_zero, List.set_cons_succ]
                refine wpAnyH_take (i := 27) (v := undef) rfl (by kernel_rfl) (by kernel_rfl) (by kernel_rfl) (fun _ _ _ h => h) (Or.inr ⟨by kernel_rfl, rfl⟩) (by assumption) ?_
                try simp only [Act.put, List.setIfInBounds_toArray, List.set_cons_zero, List.set_cons_succ]
                refine wpAnyH_take (i := 28) (v := undef) rfl (by kernel_rfl) (by kernel_rfl) (by kernel_rfl) (fun _ _ _ h => h) (Or.inr ⟨by kernel_rfl, rfl⟩) (by assumption) ?_
                try simp only [Act.put, List.setIfInBounds_toArray, List.set_cons_zero, List.set_cons_succ]
                refine wpAnyH_take (i := 29) (v := undef) rfl (by kernel_rfl) (by kernel_rfl) (by kernel_rfl) (fun _ _ _ h => h) (Or.inr ⟨by kernel_rfl, rfl⟩) (by assumption) ?_
                try simp only [Act.put, List.setIfInBounds_toArray, List.set_cons_zero, List.set_cons_succ]
                refine wpAnyH_take (i := 30) (v := undef) rfl (by kernel_rfl) (by kernel_rfl) (by kernel_rfl) (fun _ _ _ h => h) (Or.inr ⟨by kernel_rfl, rfl⟩) (by assumption) ?_
                try simp only [Act.put, List.setIfInBounds_toArray, List.set_cons_zero, List.set_cons_succ]
                refine wpAnyH_take (i := 31) (v := undef) rfl (by kernel_rfl) (by kernel_rfl) (by kernel_rfl) (fun _ _ _ h => h) (Or.inr ⟨by kernel_rfl, rfl⟩) (by assumption) ?_
                try simp only [Act.put, List.setIfInBounds_toArray, List.set_cons_zero, List.set_cons_succ]
                refine wpAnyH_take (i := 32) (v := undef) rfl (by kernel_rfl) (by kernel_rfl) (by kernel_rfl) (fun _ _ _ h => h) (Or.inr ⟨by kernel_rfl, rfl⟩) (by assumption) ?_
                try simp only [Act.put, List.setIfInBounds_toArray, List.set_cons_zero, List.set_cons_succ]
                refine wpAnyH_take (i := 33) (v := undef) rfl (by kernel_rfl) (by kernel_rfl) (by kernel_rfl) (fun _ _ _ h => h) (Or.inr ⟨by kernel_rfl, rfl⟩) (by assumption) ?_
                try simp only [Act.put, List.setIfInBounds_toArray, List.set_cons_zero, List.set_cons_succ]
                refine wpAnyH_take (i := 34) (v := undef) rfl (by kernel_rfl) (by kernel_rfl) (by kernel_rfl) (fun _ _ _ h => h) (Or.inr ⟨by kernel_rfl, rfl⟩) (by assumption) ?_
                try simp only [Act.put, List.setIfInBounds_toArray, List.set_cons_zero, List.set_cons_succ]
                refine wpAnyH_take (i := 35) (v := (.bool false)) rfl (by kernel_rfl) (by kernel_rfl) (by kernel_rfl) (fun _ _ _ h => h) (Or.inl ⟨by kernel_rfl, fun W hS => by obtain ⟨h0, h1⟩ := hS; go_simp⟩) (by assumption) ?_
                try simp only [Act.put, List.setIfInBounds_toArray, List.set_cons_zero, List.set_cons_succ]
                refine wpAnyH_take (i := 36) (v := (.bool false)) rfl (by kernel_rfl) (by kernel_rfl) (by kernel_rfl) (fun _ _ _ h => h) (Or.inl ⟨by kernel_rfl, fun W hS => by obtain ⟨h0, h1⟩ := hS; go_simp⟩) (by assumption) ?_
                try simp only [Act.put, List.setIfInBounds_toArray, List.set_cons_zero, List.set_cons_succ]
                refine wpAnyH_done (by kernel_rfl) ?_ _
                have S7 := Lib.hid (Still.trans SK.out S5.out)
                clear FF SE SA S5 hHeld
                go_simp
                go_wp2_with fail
                go_roundw
                case rel => exact ⟨i + 1, by go_num, by have := HLT.out; omega, S7.out⟩
                case measure => simp [intOf]; have := HLT.out; omega
              · by_cases hc2 : i = k
                · obtain rfl : i = k := hc2
                  have dB : ¬ (i : Int) < (i : Int) := by omega
                  clear hc1
                  go_wp2_with fail
                  go_quiet (fail)
                  go_wp2_with fail
                  go_roundw
                  case rel => exact ⟨i + 1, by go_num, by have := HLT.out; omega, still_drewN SK.out _⟩
                  case measure => simp [intOf]; have := HLT.out; omega
                · obtain ⟨t, K, D, A2, nD, d2, z2, ef⟩ := EF6.out i hlt
                  have KL := Lib.hid ef.key
                  obtain ⟨gf, rfl⟩ := GB.out (by have := HNB2.out; omega)
                  obtain ⟨ic, hic⟩ : ∃ ic, i = k + ic := ⟨i - k, by omega⟩
                  obtain ⟨ib, hib⟩ : ∃ ib, ic = ib + 1 := ⟨ic - 1, by omega⟩
                  have hat : (G.drop (k + 1))[ib]? = some ⟨t, K, D⟩ := by
                    rw [List.getElem?_drop, show k + 1 + ib = i by omega]
                    exact ef.at_
                  have hF := fosF_at (G.drop (k + 1)) 8 ib ⟨t, K, D⟩ hat
                  obtain ⟨A1, nD1, d1, k1, k2, k3, k4⟩ := atF OBB.out HBB.out hF (by have := HNB2.out; omega)
                  have VK := Lib.hid SK.out
                  simp only at k1 k2 k3 k4
                  obtain rfl : nD = nD1 := by rw [k3, ef.nD]
                  have FF := Lib.hid (fun W (s : Still wr W) => (show W.rangeAt gf (ib * 36) (entL t K (.slice A1 nD d1)) ∧ W.rangeAt gg (i * 34) (entL t K (.slice A2 nD d2)) by
                    refine ⟨fun jj u hj => ?_, ef.rng W (Still.trans S6K.out s)⟩
                    have h := k4.ent jj u hj
                    exact ((Still.trans VK.out s).cell (World.block_lt_of_cell? _ _ h)).trans h))
                  have SE := Lib.hid (fun W (s : Still wr W) => sameE_yes t K D A1 A2 nD d1 d2 W _ _ KL.out ((Reads.of_own k2).still (Nat.le_refl _) (Still.trans VK.out s)) ((Reads.of_own ef.dat).still (Nat.le_refl _) (Still.trans S2K.out s)) (Still.trans VK.out s).size (Still.trans S2K.out s).size (by have := ef.n20; omega))
                  have dC : ¬ (i : Int) < (k : Int) := by omega
                  have dC2 : (k : Int) < (i : Int) := by omega
                  have w24 : (i : Int) - (k : Int) = (ic : Int) := by omega
                  have w25 : (ic : Int) - 1 = (ib : Int) := by omega
                  have dC5 : IntKind.i64.wrap (ic : Int) = (ic : Int) := by rw [IntKind.wrap_i64]; omega
                  have dC6 : IntKind.i64.wrap (ib : Int) = (ib : Int) := by rw [IntKind.wrap_i64]; omega
                  have dC3 : (ib : Int) < (NB : Int) := by have := HNB2.out; omega
                  have dC4 : ic ≤ 12 := by omega
                  clear hlt hc1 hc2 k1 k2 k3 k4 ef hF VK hat hic hib
                  go_upto_region 21 with fail
                  refine wp_region_held_drew (S := fun W => W.rangeAt gf (ib * 36) (entL t K (.slice A1 nD d1)) ∧ W.rangeAt gg (i * 34) (entL t K (.slice A2 nD d2))) (by kernel_rfl) (FF.out _ ((Still.refl _).drew)) (fun hHeld => ?_)
                  obtain ⟨wa, hwa⟩ : ∃ wa, wa = wr.drew := ⟨_, rfl⟩
                  have SA := Lib.hid (show Still wr wa by rw [hwa]; exact (Still.refl _).drew)
                  try rw [← hwa] at hHeld
                  rw [← hwa]
                  clear hwa
                  try simp only [Act.put, List.setIfInBounds_toArray, List.set_cons_zero, List.set_cons_succ]
                  refine wpAnyH_take (i := 0) (v := .int .i64 (i : Int)) rfl (by kernel_rfl) (by kernel_rfl) (by kernel_rfl) (fun _ _ _ h => h) (Or.inl ⟨by kernel_rfl, fun W hS => by obtain ⟨h0, h1⟩ := hS; go_simp⟩) (by assumption) ?_
                  try simp only [Act.put, List.setIfInBounds_toArray, List.set_cons_zero, List.set_cons_succ]
                  refine wpAnyH_take (i := 1) (v := .int .i64 (k : Int)) rfl (by kernel_rfl) (by kernel_rfl) (by kernel_rfl) (fun _ _ _ h => h) (Or.inl ⟨by kernel_rfl, fun W hS => by obtain ⟨h0, h1⟩ := hS; go_simp⟩) (by assumption) ?_
                  try simp only [Act.put, List.setIfInBounds_toArray, List.set_cons_zero, List.set_cons_succ]
                  refine wpAnyH_take (i := 2) (v := (.bool false)) rfl (by kernel_rfl) (by kernel_rfl) (by kernel_rfl) (fun _ _ _ h => h) (Or.inl ⟨by kernel_rfl, fun W hS => by obtain ⟨h0, h1⟩ := hS; go_simp⟩) (by assumption) ?_
                  try simp only [Act.put, List.setIfInBounds_toArray, List.set_cons_zero, List.set_cons_succ]
                  refine wpAnyH_take (i := 3) (v := (.bool false)) rfl (by kernel_rfl) (by kernel_rfl) (by kernel_rfl) (fun _ _ _ h => h) (Or.inl ⟨by kernel_rfl, fun W hS => by obtain ⟨h0, h1⟩ := hS; go_simp⟩) (by assumption) ?_
                  try simp only [Act.put, List.setIfInBounds_toArray, List.set_cons_zero, List.set_cons_succ]
                  refine wpAnyH_take (i := 4) (v := undef) rfl (by kernel_rfl) (by kernel_rfl) (by kernel_rfl) (fun _ _ _ h => h) (Or.inr ⟨by kernel_rfl, rfl⟩) (by assumption) ?_
                  try simp only [Act.put, List.setIfInBounds_toArray, List.set_cons_zero, List.set_cons_succ]
                  refine wpAnyH_take (i := 5) (v := undef) rfl (by kernel_rfl) (by kernel_rfl) (by kernel_rfl) (fun _ _ _ h => h) (Or.inr ⟨by kernel_rfl, rfl⟩) (by assumption) ?_
                  try simp only [Act.put, List.setIfInBounds_toArray, List.set_cons_zero, List.set_cons_succ]
                  refine wpAnyH_take (i := 6) (v := undef) rfl (by kernel_rfl) (by kernel_rfl) (by kernel_rfl) (fun _ _ _ h => h) (Or.inr ⟨by kernel_rfl, rfl⟩) (by assumption) ?_
                  try simp only [Act.put, List.setIfInBounds_toArray, List.set_cons_zero, List.set_cons_succ]
                  refine wpAnyH_take (i := 7) (v := undef) rfl (by kernel_rfl) (by kernel_rfl) (by kernel_rfl) (fun _ _ _ h => h) (Or.inr ⟨by kernel_rfl, rfl⟩) (by assumption) ?_
                  try simp only [Act.put, List.setIfInBounds_toArray, List.set_cons_zero, List.set_cons_succ]
                  refine wpAnyH_take (i := 8) (v := undef) rfl (by kernel_rfl) (by kernel_rfl) (by kernel_rfl) (fun _ _ _ h => h) (Or.inr ⟨by kernel_rfl, rfl⟩) (by assumption) ?_
                  try simp only [Act.put, List.setIfInBounds_toArray, List.set_cons_zero, List.set_cons_succ]
                  refine wpAnyH_take (i := 9) (v := undef) rfl (by kernel_rfl) (by kernel_rfl) (by kernel_rfl) (fun _ _ _ h => h) (Or.inr ⟨by kernel_rfl, rfl⟩) (by assumption) ?_
                  try simp only [Act.put, List.setIfInBounds_toArray, List.set_cons_zero, List.set_cons_succ]
                  refine wpAnyH_take (i := 10) (v := undef) rfl (by kernel_rfl) (by kernel_rfl) (by kernel_rfl) (fun _ _ _ h => h) (Or.inr ⟨by kernel_rfl, rfl⟩) (by assumption) ?_
                  try simp only [Act.put, List.setIfInBounds_toArray, List.set_cons_zero, List.set_cons_succ]
                  refine wpAnyH_take (i := 11) (v := undef) rfl (by kernel_rfl) (by kernel_rfl) (by kernel_rfl) (fun _ _ _ h => h) (Or.inr ⟨by kernel_rfl, rfl⟩) (by assumption) ?_
                  try simp only [Act.put, List.setIfInBounds_toArray, List.set_cons_zero, List.set_cons_succ]
                  refine wpAnyH_take (i := 12) (v := undef) rfl (by kernel_rfl) (by kernel_rfl) (by kernel_rfl) (fun _ _ _ h => h) (Or.inr ⟨by kernel_rfl, rfl⟩) (by assumption) ?_
                  try simp only [Act.put, List.setIfInBounds_toArray, List.set_cons_zero, List.set_cons_succ]
                  refine wpAnyH_take (i := 13) (v := undef) rfl (by kernel_rfl) (by kernel_rfl) (by kernel_rfl) (fun _ _ _ h => h) (Or.inr ⟨by kernel_rfl, rfl⟩) (by assumption) ?_
                  try simp only [Act.put, List.setIfInBounds_toArray, List.set_cons_zero, List.set_cons_succ]
                  refine wpAnyH_take (i := 14) (v := undef) rfl (by kernel_rfl) (by kernel_rfl) (by kernel_rfl) (fun _ _ _ h => h) (Or.inr ⟨by kernel_rfl, rfl⟩) (by assumption) ?_
                  try simp only [Act.put, List.setIfInBounds_toArray, List.set_cons_zero, List.set_cons_succ]
                  refine wpAnyH_take (i := 15) (v := (.bool false)) rfl (by kernel_rfl) (by kernel_rfl) (by kernel_rfl) (fun _ _ _ h => h) (Or.inl ⟨by kernel_rfl, fun W hS => by obtain ⟨h0, h1⟩ := hS; go_simp⟩) (by assumption) ?_
                  try simp only [Act.put, List.setIfInBounds_toArray, List.set_cons_zero, List.set_cons_succ]
                  refine wpAnyH_take (i := 16) (v := (.bool false)) rfl (by kernel_rfl) (by kernel_rfl) (by kernel_rfl) (fun _ _ _ h => h) (Or.inl ⟨by kernel_rfl, fun W hS => by obtain ⟨h0, h1⟩ := hS; go_simp⟩) (by assumption) ?_
                  try simp only [Act.put, List.setIfInBounds_toArray, List.set_cons_zero, List.set_cons_succ]
                  refine wpAnyH_take (i := 17) (v := .int .i64 (i : Int)) rfl (by kernel_rfl) (by kernel_rfl) (by kernel_rfl) (fun _ _ _ h => h) (Or.inl ⟨by kernel_rfl, fun W hS => by obtain ⟨h0, h1⟩ := hS; go_simp⟩) (by assumption) ?_
                  try simp only [Act.put, List.setIfInBounds_toArray, List.set_cons_zero, List.set_cons_succ]
                  refine wpAnyH_take (i := 18) (v := .int .i64 (k : Int)) rfl (by kernel_rfl) (by kernel_rfl) (by kernel_rfl) (fun _ _ _ h => h) (Or.inl ⟨by kernel_rfl, fun W hS => by obtain ⟨h0, h1⟩ := hS; go_simp⟩) (by assumption) ?_
                  try simp only [Act.put, List.setIfInBounds_toArray, List.set_cons_zero, List.set_cons_succ]
                  refine wpAnyH_take (i := 19) (v := (.bool true)) rfl (by kernel_rfl) (by kernel_rfl) (by kernel_rfl) (fun _ _ _ h => h) (Or.inl ⟨by kernel_rfl, fun W hS => by obtain ⟨h0, h1⟩ := hS; go_simp⟩) (by assumption) ?_
                  try simp only [Act.put, List.setIfInBounds_toArray, List.set_cons_zero, List.set_cons_succ]
                  refine wpAnyH_take (i := 20) (v := (.bool true)) rfl (by kernel_rfl) (by kernel_rfl) (by kernel_rfl) (fun _ _ _ h => h) (Or.inl ⟨by kernel_rfl, fun W hS => by obtain ⟨h0, h1⟩ := hS; go_simp⟩) (by assumption) ?_
                  try simp only [Act.put, List.setIfInBounds_toArray, List.set_cons_zero, List.set_cons_succ]
                  refine wpAnyH_take (i := 21) (v := .slice (some ⟨gf, 0, none⟩) NB cB) rfl (by kernel_rfl) (by kernel_rfl) (by kernel_rfl) (fun _ _ _ h => h) (Or.inl ⟨by kernel_rfl, fun W hS => by obtain ⟨h0, h1⟩ := hS; go_simp⟩) (by assumption) ?_
                  try simp only [Act.put, List.setIfInBounds_toArray, List.set_cons_zero, List.set_cons_succ]
                  refine wpAnyH_take (i := 22) (v := .int .i64 (i : Int)) rfl (by kernel_rfl) (by kernel_rfl) (by kernel_rfl) (fun _ _ _ h => h) (Or.inl ⟨by kernel_rfl, fun W hS => by obtain ⟨h0, h1⟩ := hS; go_simp⟩) (by assumption) ?_
                  try simp only [Act.put, List.setIfInBounds_toArray, List.set_cons_zero, List.set_cons_succ]
                  refine wpAnyH_take (i := 23) (v := .int .i64 (k : Int)) rfl (by kernel_rfl) (by kernel_rfl) (by kernel_rfl) (fun _ _ _ h => h) (Or.inl ⟨by kernel_rfl, fun W hS => by obtain ⟨h0, h1⟩ := hS; go_simp⟩) (by assumption) ?_
                  try simp only [Act.put, List.setIfInBounds_toArray, List.set_cons_zero, List.set_cons_succ]
                  refine wpAnyH_take (i := 24) (v := .int .i64 (ic : Int)) rfl (by kernel_rfl) (by kernel_rfl) (by kernel_rfl) (fun _ _ _ h => h) (Or.inl ⟨by kernel_rfl, fun W hS => by obtain ⟨h0, h1⟩ := hS; go_simp⟩) (by assumption) ?_
                  try simp only [Act.put, List.setIfInBounds_toArray, List.set_cons_zero, List.set_cons_succ]
                  refine wpAnyH_take (i := 25) (v := .int .i64 (ib : Int)) rfl (by kernel_rfl) (by kernel_rfl) (by kernel_rfl) (fun _ _ _ h => h) (Or.inl ⟨by kernel_rfl, fun W hS => by obtain ⟨h0, h1⟩ := hS; go_simp⟩) (by assumption) ?_
                  try simp only [Act.put, List.setIfInBounds_toArray, List.set_cons_zero, List.set_cons_succ]
                  refine wpAnyH_take (i := 26) (v := .pointer (some ⟨gf, ib * 36, none⟩)) rfl (by kernel_rfl) (by kernel_rfl) (by kernel_rfl) (fun _ _ _ h => h) (Or.inl ⟨by kernel_rfl, fun W hS => by obtain ⟨h0, h1⟩ := hS; go_simp⟩) (by assumption) ?_
                  try simp only [Act.put, List.setIfInBounds_toArray, List.set_cons_zero, List.set_cons_succ]
                  refine wpAnyH_take (i := 27) (v := .pointer (some ⟨gf, ib * 36, none⟩)) rfl (by kernel_rfl) (by kernel_rfl) (by kernel_rfl) (fun _ _ _ h => h) (Or.inl ⟨by kernel_rfl, fun W hS => by obtain ⟨h0, h1⟩ := hS; go_simp⟩) (by assumption) ?_
                  try simp only [Act.put, List.setIfInBounds_toArray, List.set_cons_zero, List.set_cons_succ]
                  refine wpAnyH_take (i := 28) (oi := ⟨some 142, .load 26 (.tmp 141), _, _, _, _⟩) (v := .agg (entV t K (.slice A1 nD d1))) rfl (by kernel_rfl) (by kernel_rfl) (by kernel_rfl) (fun _ _ _ h => h) ?hyC28 (by assumption) ?_
                  case hyC28 =>
                    refine yieldsIf_load_mid ?hw 26 (.tmp 141) ?ho gf (ib * 36) ?hx (entL t K (.slice A1 nD d1)) _ (fun W h => h.1) HU.out rfl (by rw [sizeEnt]; exact congrArg some (by have h := entV_size t K ((.slice A1 nD d1)) KL.out; unfold entV at h; simpa using h.symm))
                    case hw => kernel_rfl
                    case ho => rfl
                    case hx => kernel_rfl
                  try simp only [Act.put, List.setIfInBounds_toArray, List.set_cons_zero, List.set_cons_succ]
                  refine wpAnyH_take (i := 29) (v := .slice (some ⟨gg, 0, none⟩) NG cg) rfl (by kernel_rfl) (by kernel_rfl) (by kernel_rfl) (fun _ _ _ h => h) (Or.inl ⟨by kernel_rfl, fun W hS => by obtain ⟨h0, h1⟩ := hS; go_simp⟩) (by assumption) ?_
                  try simp only [Act.put, List.setIfInBounds_toArray, List.set_cons_zero, List.set_cons_succ]
                  refine wpAnyH_take (i := 30) (v := .int .i64 (i : Int)) rfl (by kernel_rfl) (by kernel_rfl) (by kernel_rfl) (fun _ _ _ h => h) (Or.inl ⟨by kernel_rfl, fun W hS => by obtain ⟨h0, h1⟩ := hS; go_simp⟩) (by assumption) ?_
                  try simp only [Act.put, List.setIfInBounds_toArray, List.set_cons_zero, List.set_cons_succ]
                  refine wpAnyH_take (i := 31) (v := .pointer (some ⟨gg, i * 34, none⟩)) rfl (by kernel_rfl) (by kernel_rfl) (by kernel_rfl) (fun _ _ _ h => h) (Or.inl ⟨by kernel_rfl, fun W hS => by obtain ⟨h0, h1⟩ := hS; go_simp⟩) (by assumption) ?_
                  try simp only [Act.put, List.setIfInBounds_toArray, List.set_cons_zero, List.set_cons_succ]
                  refine wpAnyH_take (i := 32) (oi := ⟨some 146, .load 26 (.tmp 145), _, _, _, _⟩) (v := .agg (entV t K (.slice A2 nD d2))) rfl (by kernel_rfl) (by kernel_rfl) (by kernel_rfl) (fun _ _ _ h => h) ?hyC32 (by assumption) ?_
                  case hyC32 =>
                    refine yieldsIf_load_mid ?hw 26 (.tmp 145) ?ho gg (i * 34) ?hx (entL t K (.slice A2 nD d2)) _ (fun W h => h.2) HU.out rfl (by rw [sizeEnt]; exact congrArg some (by have h := entV_size t K ((.slice A2 nD d2)) KL.out; unfold entV at h; simpa using h.symm))
                    case hw => kernel_rfl
                    case ho => rfl
                    case hx => kernel_rfl
                  try simp only [Act.put, List.setIfInBounds_toArray, List.set_cons_zero, List.set_cons_succ]
                  refine wpAnyH_ready (rs := [33]) (by kernel_rfl) (by simp) ?_
                  refine AllReadyH.cons (o := ⟨some 147, .call { callee := .value (.func 16), args := #[.tmp 142, .tmp 146], argTypes := #[26, 26] }, _, _, _, _⟩) rfl (fun K' hK' => ?_) AllReadyH.nil
                  have HK' := Lib.hid hK'
                  clear hK'
                  go_simp
                  go_wp2_with (go_at_call 16; refine (SE.out _ SA.out).mono ?_; rintro e w5 ⟨rfl, s5⟩; have S5 := Lib.hid (SA.out.trans s5))
                  refine HK'.out.out _ _ (FF.out _ S5.out) (fun hHeld => ?_)
                  clear HK' K'
                  try simp only [Act.put, List.setIfInBounds_toArray, List.set_cons_zero, List.set_cons_succ]
                  refine wpAnyH_take (i := 34) (v := (.bool false)) rfl (by kernel_rfl) (by kernel_rfl) (by kernel_rfl) (fun _ _ _ h => h) (Or.inl ⟨by kernel_rfl, fun W hS => by obtain ⟨h0, h1⟩ := hS; go_simp⟩) (by assumption) ?_
                  try simp only [Act.put, List.setIfInBounds_toArray, List.set_cons_zero, List.set_cons_succ]
                  refine wpAnyH_take (i := 35) (v := (.bool false)) rfl (by kernel_rfl) (by kernel_rfl) (by kernel_rfl) (fun _ _ _ h => h) (Or.inl ⟨by kernel_rfl, fun W hS => by obtain ⟨h0, h1⟩ := hS; go_simp⟩) (by assumption) ?_
                  try simp only [Act.put, List.setIfInBounds_toArray, List.set_cons_zero, List.set_cons_succ]
                  refine wpAnyH_take (i := 36) (v := (.bool false)) rfl (by kernel_rfl) (by kernel_rfl) (by kernel_rfl) (fun _ _ _ h => h) (Or.inl ⟨by kernel_rfl, fun W hS => by obtain ⟨h0, h1⟩ := hS; go_simp⟩) (by assumption) ?_
                  try simp only [Act.put, List.setIfInBounds_toArray, List.set_cons_zero, List.set_cons_succ]
                  refine wpAnyH_done (by kernel_rfl) ?_ _
                  have S7 := Lib.hid (Still.trans SK.out S5.out)
                  clear FF SE SA S5 hHeld
                  go_simp
                  go_wp2_with fail
                  go_roundw
                  case rel => exact ⟨i + 1, by go_num, by have := HLT.out; omega, S7.out⟩
                  case measure => simp [intOf]; have := HLT.out; omega
            · obtain rfl : i = NG := by omega
              have S8 := Lib.hid (Still.trans S27.out (Still.trans S7C.out hst.out))
              clear hst
              go_wp2_with fail
              refine (LV.out _ (TW.out _ S8.out)).mono ?_
              rintro e w10 ⟨rfl, s10⟩
              have S10 := Lib.hid (Still.trans S2.out (Still.trans S8.out s10))
              clear s10
              go_wp2_with fail
              go_ret
              exact ⟨rfl, S10.out⟩
end Go.Proofs.YtnhkabohccbglaaDoor
