/- Contracts and facts, several texts in one. It proves no statement. -/
import Derived.Test.YtfneloobfidckaaGreatDoorSf25
import Derived.Test.YtfneloobfidckaaGreatDoorSf24
import Derived.Test.YtfneloobfidckaaGreatDoorSf21
import Derived.Deep.RegionHeld3

/- frame.Encode of an entry: its bytes, or why none. It proves no statement. -/




namespace Go.Proofs.YtfneloobfidckaaGreatDoor
open Go.RowKit
set_option linter.unusedVariables false
set_option linter.unusedSimpArgs false

theorem own_rebase0 {w : World} {B B' : Nat} {e : TypeId} {z n : Nat} {v : Value} {xs : List Value} (h : w.ownsRow B e z v n xs) (hb : B' ≤ B) : w.ownsRow B' e z v n xs := by
  refine ⟨h.1, ?_⟩
  rcases h.2 with q | ⟨g, cap, cur, hv, hlo, r⟩
  · exact .inl q
  · exact .inr ⟨g, cap, cur, hv, by omega, r⟩
/-- The key's bytes that an entry has. -/
def keyE (t : Int) (K : List UInt8) : List UInt8 := if t = 2 then [] else K
/-- What stands behind the sum. -/
def bodE (t : Int) (K D : List UInt8) : List UInt8 := leBytes (szE t K D.length) 4 ++ ([UInt8.ofNat t.toNat] ++ (keyE t K ++ D))
/-- An entry's bytes. -/
def bytE (t : Int) (K D : List UInt8) : List UInt8 := leBytes (crcSum (bodE t K D)) 4 ++ bodE t K D
/-- Encoding: the error, and the bytes. -/
def encE (t : Int) (K D : List UInt8) : Int × List UInt8 := if ckE t K D.length ≠ 0 then (ckE t K D.length, []) else (0, bytE t K D)
theorem ckE_zero {t : Int} {K : List UInt8} {n : Nat} (h : ckE t K n = 0) : (t = 0 ∧ n ≤ 16384) ∨ (t = 1 ∧ n = 0) ∨ (t = 2 ∧ n = 0 ∧ K = List.replicate 32 0) := by
  unfold ckE at h
  by_cases h0 : t = 0
  · rw [if_pos h0] at h
    by_cases q : 16384 < n
    · rw [if_pos q] at h; exact absurd h (by decide)
    · exact .inl ⟨h0, by omega⟩
  rw [if_neg h0] at h
  by_cases h1 : t = 1
  · rw [if_pos h1] at h
    by_cases q : n = 0
    · exact .inr (.inl ⟨h1, q⟩)
    · rw [if_neg q] at h; exact absurd h (by decide)
  rw [if_neg h1] at h
  by_cases h2 : t = 2
  · rw [if_pos h2] at h
    by_cases q : n = 0 ∧ K = List.replicate 32 0
    · exact .inr (.inr ⟨h2, q.1, q.2⟩)
    · rw [if_neg q] at h; exact absurd h (by decide)
  rw [if_neg h2] at h
  exact absurd h (by decide)
theorem szE_len {t : Int} {K D : List UInt8} (hK : K.length = 32) (h : ckE t K D.length = 0) : (bytE t K D).length = szE t K D.length ∧ (bodE t K D).length + 4 = szE t K D.length ∧ szE t K D.length ≤ 16425 ∧ 9 ≤ szE t K D.length := by
  have hs : szE t K D.length = if t = 2 then 9 else 41 + D.length := by unfold szE; rw [if_neg (by rw [h]; decide)]
  have hb : (bodE t K D).length + 4 = szE t K D.length := by
    unfold bodE
    simp only [List.length_append, leBytes_length, List.length_singleton]
    rw [hs]
    unfold keyE
    rcases ckE_zero h with ⟨rfl, q⟩ | ⟨rfl, q⟩ | ⟨rfl, q, _⟩
    · rw [if_neg (by decide), if_neg (by decide)]; omega
    · rw [if_neg (by decide), if_neg (by decide)]; omega
    · rw [if_pos rfl, if_pos rfl]; simp; omega
  refine ⟨by unfold bytE; rw [List.length_append, leBytes_length]; omega, hb, ?_⟩
  rw [hs]
  rcases ckE_zero h with ⟨rfl, q⟩ | ⟨rfl, q⟩ | ⟨rfl, q, _⟩
  · rw [if_neg (by decide)]; omega
  · rw [if_neg (by decide)]; omega
  · rw [if_pos rfl]; omega

set_option maxRecDepth 100000 in
set_option maxHeartbeats 3200000 in
theorem encode_any (t : Int) (K D : List UInt8) (A : Option Addr) (n c : Nat) (w : World) (B : Nat) (hK : K.length = 32) (hr : Reads w B A n D) (hB : B ≤ w.heap.size) (hA : A = none → c = 0) (hn : n ≤ 1048576) (T : Tabs w) :
    Calls Tryz.prog 81 #[.agg (entV t K (.slice A n c))] w fun e w' => (∃ v, e = .returned (.tuple #[v, .int .i64 (encE t K D).1]) ∧ w'.ownsRow w.heap.size 5 1 v (encE t K D).2.length (bytesV (encE t K D).2)) ∧ Still w w' := by
  have hlen := hr.1
  obtain ⟨g, hg⟩ : ∃ g, g = w.heap.size := ⟨_, rfl⟩
  obtain ⟨wA, hwA⟩ : ∃ wA, wA = w.alloc (.cells (entV t K (.slice A n c)) 44) := ⟨_, rfl⟩
  have SA := Lib.hid (show Still w wA by rw [hwA]; exact (Still.refl w).alloc (Nat.le_refl _) _)
  have EB := Lib.hid (show EntB wA g t K (.slice A n c) by rw [hwA, hg]; exact EntB.new _ _ _ _)
  have HK := Lib.hid hK
  have HWA := Lib.hid hwA
  have HG := Lib.hid hg
  have d1 : (n : Int) ≤ 1048576 := by omega
  have CK := Lib.hid (check_any t K A n c wA hK hn)
  have SZ := Lib.hid (fun W => size_any t K A n c W hK hn)
  obtain ⟨ent, hent⟩ : ∃ ent, ent = entV t K (.slice A n c) := ⟨_, rfl⟩
  have ESZ := Lib.hid (show ent.size = 34 by rw [hent]; exact entV_size _ _ _ hK)
  have EBE := Lib.hid (fun (W : World) (h : EntB W g t K (.slice A n c)) => show Blk W g 44 ent by rw [hent]; exact h)
  rw [← hent] at HWA CK ⊢
  simp only [← hent] at SZ
  obtain ⟨fs, hu⟩ := underEnt
  have HU := Lib.hid hu
  obtain ⟨E, hE⟩ : ∃ E, E = encE t K D := ⟨_, rfl⟩
  have HE := Lib.hid (show E = if ckE t K n ≠ 0 then (ckE t K n, []) else (0, bytE t K D) by rw [hE, ← hlen]; rfl)
  rw [← hE]
  have HZ := Lib.hid (show ckE t K n = 0 → (bytE t K D).length = szE t K n ∧ (bodE t K D).length + 4 = szE t K n ∧ szE t K n ≤ 16425 ∧ 9 ≤ szE t K n from fun h => by rw [← hlen] at h ⊢; exact szE_len hK h)
  have HB := Lib.hid (show bodE t K D = leBytes (szE t K n) 4 ++ ([UInt8.ofNat t.toNat] ++ (keyE t K ++ D)) by rw [← hlen]; rfl)
  have HC := Lib.hid (fun (h : ckE t K n = 0) => ckE_zero h)
  obtain ⟨ck, hck⟩ : ∃ ck, ck = ckE t K n := ⟨_, rfl⟩
  rw [← hck] at CK HE HZ HC
  have RD := Lib.hid (fun (W : World) (s : Still w W) => hr.still hB s)
  have RB := Lib.hid hB
  have TT := Lib.hid (fun (W : World) (s : Still w W) => T.still s)
  have HAA := Lib.hid hA
  have HN := Lib.hid hn
  have HLN := Lib.hid hlen
  have CK' := CK
  have SZ' := SZ
  clear hwA hg hK hn hent hu hck hE hr hB T hA hlen CK SZ
  go_enter Tryz.func81, Tryz.ntmps81
  go_upto_region 1 with (guard_target =~ wpList _ _ _ (Oper.mk _ (Op.box _ _) _ _ _ _ :: _) _ _; go_must (refine wpList_box_val rfl 44 (.tmp 0) rfl (some 1) rfl ent rfl ?_))
  rw [← HWA.out, ← HG.out]
  clear HWA
  go_wp2_with (guard_target =~ wpList _ _ _ (Oper.mk (some 8) _ _ _ _ _ :: _) _ _; go_must (refine wpList_load_row rfl 44 (.tmp 1) rfl g rfl _ _ _ _ (EBE.out _ EB.out) HU.out rfl (by rw [sizeEnt, ESZ.out]) ?_))
  refine CK'.out.mono ?_
  rintro e w1 ⟨rfl, s1⟩
  have S1 := Lib.hid (SA.out.trans s1)
  have EB1 := Lib.hid (EB.out.still s1)
  clear s1 CK' EB SA
  by_cases h0 : ck = 0
  · subst h0
    have HE2 := Lib.hid (show E = (0, bytE t K D) by rw [HE.out, if_neg (by decide)])
    obtain ⟨z1, z2, z3, z4⟩ := HZ.out rfl
    have hcz := HC.out rfl
    obtain ⟨sz, hsz⟩ : ∃ sz, sz = szE t K n := ⟨_, rfl⟩
    rw [← hsz] at z1 z2 z3 z4 HB
    simp only [← hsz] at SZ'
    have Z1 := Lib.hid z1
    have Z2 := Lib.hid z2
    have Z3 := Lib.hid z3
    have Z4 := Lib.hid z4
    clear z1 z2 z3 z4 hsz HZ HE HC
    obtain ⟨kt, hkt⟩ : ∃ kt : Nat, kt = if t = 2 then 0 else 32 := ⟨_, rfl⟩
    have k0 : w1.cell? ⟨g, 0, none⟩ = some (.int .i64 t) := EB1.out.tag
    have k33 : w1.cell? ⟨g, 33, none⟩ = some (.slice A n c) := EB1.out.data HK.out
    have HCZ := Lib.hid hcz
    clear hcz hkt kt
    go_upto_if 17 with fail
    go_cut [5] (fun s wx => ∃ (Ak : Option Addr) (ck : Nat), s = .slice Ak (keyE t K).length ck ∧ wx = w1 ∧ Hid (Reads w1 (g + 1) Ak (keyE t K).length (keyE t K) ∧ (Ak = none → ck = 0)))
    case first =>
      by_cases h2 : t = 2
      · have HK2 := Lib.hid (show keyE t K = [] by unfold keyE; rw [if_pos h2])
        have b2 : (t == 2) = true := by simpa using h2
        clear h2
        go_wp2_with fail
        go_meet
        exact ⟨none, 0, by rw [HK2.out]; rfl, rfl, Lib.hid (by rw [HK2.out]; exact ⟨Reads.nil0, fun _ => rfl⟩)⟩
      · have HK2 := Lib.hid (show keyE t K = K by unfold keyE; rw [if_neg h2])
        have b2 : (t == 2) = false := by simpa using h2
        clear h2
        go_wp2_with fail
        go_meet
        refine ⟨some ⟨g, 1, none⟩, 32, by rw [HK2.out, HK.out], rfl, Lib.hid (by
          rw [HK2.out, HK.out]
          refine ⟨⟨HK.out, fun _ => ⟨g, 1, rfl, by omega, fun i hi => ?_⟩⟩, fun e => by cases e⟩
          exact EB1.out.key i _ (bytesV_get _ _ (by rw [HK.out]; exact hi)))⟩
    case rest =>
      obtain ⟨Ak, ckk, hs5, hww, hkk⟩ := hcut
      subst hs5
      rw [hww]
      clear hww
      have KR := Lib.hid hkk.out
      clear hkk
      have SZ := Lib.hid (SZ'.out w1)
      clear SZ'
      go_wp2_with (guard_target =~ wpList _ _ _ (Oper.mk (some 18) _ _ _ _ _ :: _) _ _; go_must (refine wpList_load_row rfl 44 (.tmp 1) rfl g rfl _ _ _ _ (EBE.out _ EB1.out) HU.out rfl (by rw [sizeEnt, ESZ.out]) ?_))
      refine SZ.out.mono ?_
      rintro e w2 ⟨rfl, s2⟩
      have d2 : (sz : Int) ≤ 16425 := by have := Z3.out; omega
      have d3 : (0 : Int) ≤ (sz : Int) := by omega
      have PT := Lib.hid (put_yes sz 4 w2 (by have := Z3.out; omega) (by omega) (by omega))
      have S2 := Lib.hid (S1.out.trans s2)
      have S12 := Lib.hid s2
      clear s2 SZ
      go_wp2_with fail
      refine PT.out.mono ?_
      rintro e w3 ⟨rfl, own3, s3⟩
      have S3 := Lib.hid (Still.trans (show Still w w2 from S2.out) s3)
      have S13 := Lib.hid (Still.trans S12.out s3)
      have O3 := Lib.hid own3
      clear own3 s3 PT
      have k0 : w3.cell? ⟨g, 0, none⟩ = some (.int .i64 t) := (EB1.out.still S13.out).tag
      have k33 : w3.cell? ⟨g, 33, none⟩ = some (.slice A n c) := (EB1.out.still S13.out).data HK.out
      obtain ⟨tb, htb⟩ : ∃ tb : Nat, (tb : Int) = t ∧ tb ≤ 2 := by
        rcases HCZ.out with ⟨h, _⟩ | ⟨h, _⟩ | ⟨h, _⟩
        · exact ⟨0, by omega, by omega⟩
        · exact ⟨1, by omega, by omega⟩
        · exact ⟨2, by omega, by omega⟩
      have d4 : t ≤ 2 := by omega
      have d5 : 0 ≤ t := by omega
      have d6 : IntKind.u8.wrap t = t := by unfold IntKind.wrap; simp [IntKind.bits, IntKind.signed]; omega
      have HTB := Lib.hid htb
      clear htb
      obtain ⟨w4, hw4⟩ : ∃ w4, w4 = w3.alloc (.cells #[.int .u8 t] 5) := ⟨_, rfl⟩
      obtain ⟨w5, hw5⟩ : ∃ w5, w5 = w4.alloc (.cells #[.slice (some ⟨w2.heap.size, 0, none⟩) 4 4, .slice (some ⟨w3.heap.size, 0, none⟩) 1 1, .slice Ak (keyE t K).length ckk, .slice A n c] 42) := ⟨_, rfl⟩
      have S34 := Lib.hid (show Still w3 w4 by rw [hw4]; exact (Still.refl _).alloc (Nat.le_refl _) _)
      have S45 := Lib.hid (show Still w4 w5 by rw [hw5]; exact (Still.refl _).alloc (Nat.le_refl _) _)
      have k33w : w4.cell? ⟨g, 33, none⟩ = some (.slice A n c) := (((EB1.out.still S13.out).still S34.out)).data HK.out
      rw [hw4] at k33w
      have HW4 := Lib.hid hw4
      have HW5 := Lib.hid hw5
      have BP := Lib.hid (show Blk w5 w4.heap.size 42 #[.slice (some ⟨w2.heap.size, 0, none⟩) 4 4, .slice (some ⟨w3.heap.size, 0, none⟩) 1 1, .slice Ak (keyE t K).length ckk, .slice A n c] by rw [hw5]; exact Blk.new _ _ _)
      have BT := Lib.hid (show Blk w4 w3.heap.size 5 #[.int .u8 t] by rw [hw4]; exact Blk.new _ _ _)
      obtain ⟨ls, hls⟩ : ∃ ls, ls = [leBytes sz 4, [UInt8.ofNat t.toNat], keyE t K, D] := ⟨_, rfl⟩
      have PIN : PartsIn w5 w5.heap.size w4.heap.size ls := by
        refine ⟨BP.out.lt, fun q hq => ?_⟩
        rw [hls] at hq ⊢
        have s35 := Still.trans S34.out S45.out
        have g1 := (EB1.out.still S13.out)
        have hgl : g < w3.heap.size := Blk.lt g1
        match q, hq with
        | 0, _ => exact ⟨_, _, _, BP.out.cell 0, ((Reads.of_own O3.out).still (Nat.le_refl _) s35).more s35.size, fun e => by cases e⟩
        | 1, _ =>
          refine ⟨_, _, _, BP.out.cell 1, ⟨rfl, fun _ => ⟨w3.heap.size, 0, rfl, Nat.lt_of_lt_of_le BT.out.lt S45.out.size, fun r hr => ?_⟩⟩, fun e => by cases e⟩
          obtain rfl : r = 0 := by omega
          have h := ((BT.out.still S45.out).cell 0)
          rw [Nat.zero_add, h]
          have ht := HTB.out
          simp
          omega
        | 2, _ => exact ⟨_, _, _, BP.out.cell 2, ((KR.out.1.still (by have := Blk.lt EB1.out; omega) (Still.trans S13.out s35))).more (by have := s35.size; omega), KR.out.2⟩
        | 3, _ => exact ⟨_, _, _, BP.out.cell 3, (RD.out w5 (Still.trans (show Still w w3 from S3.out) s35)).more (Nat.le_trans RB.out (Still.trans (show Still w w3 from S3.out) s35).size), HAA.out⟩
        | r + 4, h => exact absurd h (by simp)
      have hfl : ls.flatten = bodE t K D := by rw [hls, HB.out]; simp
      have hll : ls.length = 4 := by rw [hls]; rfl
      have CAT0 := concat_any w4.heap.size 4 ls w5 w5.heap.size PIN (Nat.le_refl _) (by omega) (by rw [hfl]; have := Z2.out; have := Z4.out; omega) (by rw [hfl]; have := Z2.out; have := Z3.out; omega)
      rw [hll, hfl, show w4.heap.size = w3.heap.size + 1 by rw [hw4]; simp] at CAT0
      have CAT := Lib.hid CAT0
      clear CAT0 PIN hfl hll hls hw4 hw5 BP BT
      go_wp2_with fail
      rw [← HW4.out, ← HW5.out]
      refine CAT.out.mono ?_
      rintro e w6 ⟨⟨v6, rfl, own6⟩, s6⟩
      obtain ⟨A6, c6, rfl, f1, f2, f3⟩ := own_form own6
      have S6 := Lib.hid (Still.trans (Still.trans (show Still w w3 from S3.out) (Still.trans S34.out S45.out)) s6)
      have R6 := Lib.hid (Reads.of_own own6)
      have F3 := Lib.hid f3
      obtain ⟨L, hL⟩ : ∃ L, L = (bodE t K D).length := ⟨_, rfl⟩
      rw [← hL] at R6 F3 Z2 ⊢
      have ZL := Lib.hid (show L + 4 = sz from Z2.out)
      have CR := Lib.hid (crcsum_any A6 L c6 (bodE t K D) w6 _ (TT.out w6 S6.out) R6.out (Nat.le_refl _) (by have := ZL.out; have := Z3.out; omega))
      have HL := Lib.hid hL
      clear own6 s6 f1 f2 f3 CAT HW4 HW5 hL k33w
      go_wp2_with fail
      refine CR.out.mono ?_
      rintro e w7 ⟨rfl, s7⟩
      have S7 := Lib.hid (Still.trans S6.out s7)
      have R7 := Lib.hid ((R6.out.still (Nat.le_refl _) s7).more s7.size)
      obtain ⟨cs, hcs⟩ : ∃ cs, cs = crcSum (bodE t K D) := ⟨_, rfl⟩
      have hcl : cs < 4294967296 := by rw [hcs]; exact crcAdd_lt 0 _ (by decide)
      have BY := Lib.hid (show bytE t K D = leBytes cs 4 ++ bodE t K D by rw [hcs]; rfl)
      rw [← hcs]
      have PT := Lib.hid (put_yes cs 4 w7 (by omega) (by omega) (by omega))
      have c1 : (0 : Int) ≤ (cs : Int) := by omega
      have c2 : (cs : Int) < 4294967296 := by omega
      clear s7 CR hcs hcl R6
      go_wp2_with fail
      refine PT.out.mono ?_
      rintro e w8 ⟨rfl, own8, s8⟩
      have S8 := Lib.hid (Still.trans S7.out s8)
      have R8 := Lib.hid ((R7.out.still (Nat.le_refl _) s8).more s8.size)
      have O8 := Lib.hid own8
      have Z8 := Lib.hid (show w7.heap.size ≤ w8.heap.size ∧ w.heap.size ≤ w7.heap.size from ⟨s8.size, S7.out.size⟩)
      clear own8 s8 PT R7
      go_wp2_with (at_builtin; go_must (refine wpList_adds_at w8 rfl (.tmp 35) (.tmp 36) rfl w7.heap.size (.slice (some ⟨w7.heap.size, 0, none⟩) 4 4) 4 (leBytes cs 4) rfl O8.out A6 L c6 _ (bodE t K D) rfl R8.out (fun e => (F3.out e).2) (by have := ZL.out; have := Z3.out; omega) Z8.out.1 ?_))
      intro v9 w9 own9 gr9 loc9
      have S9 := Lib.hid (show Still w w9 from S8.out.grown gr9 S8.out.size (fun k hk => by have h := Option.some.inj hk; have := Z8.out; simp only at h; omega))
      have O9 := Lib.hid (show w9.ownsRow w.heap.size 5 1 v9 (bytE t K D).length (bytesV (bytE t K D)) by
        rw [BY.out, List.length_append, leBytes_length, ← HL.out]
        exact own_rebase0 own9 Z8.out.2)
      clear own9 gr9 loc9
      go_wp2_with fail
      go_ret2
      rw [HE2.out]
      exact ⟨⟨_, rfl, O9.out⟩, S9.out⟩
  · have b0 : (ck == 0) = false := by simpa using h0
    have b1 : (ck != 0) = true := by simpa using h0
    have HE2 := Lib.hid (show E = (ck, []) by rw [HE.out, if_pos h0])
    clear h0 HE HZ HC
    go_wp2_with fail
    go_ret2
    rw [HE2.out]
    exact ⟨⟨_, rfl, World.ownsRow_nil _ _ _ _⟩, S1.out⟩
end Go.Proofs.YtfneloobfidckaaGreatDoor

/- Contract: an entry put behind the others, by what lay answers. It proves no statement. -/



namespace Go.Proofs.YtfneloobfidckaaGreatDoor
open Go.RowKit Go.Maps Go.WideMaps Go.Sort
set_option linter.unusedVariables false
set_option linter.unusedSimpArgs false

/-- What lay leaves where it answers OK. -/
def LaidOK (S : Lg) (n : Nat) : Prop := ∃ (m : Nat) (p : Nat × Nat), S.segs.length = m + 1 ∧ S.segs[m]? = some p ∧ m + 1 ≤ 1048577 ∧ n ≤ p.2 ∧ p.2 ≤ 4611686018427387904
/-- The place of the last entry of n bytes. -/
def placeL (S : Lg) (n : Nat) : Nat × Nat × Nat := match S.segs.getLast? with | some p => (p.1, p.2 - n, n) | none => (0, 0, 0)
def appendR (E : Int × List UInt8) (M : Me) (S : Lg) (R : Int × Me × Lg) : (Nat × Nat × Nat) × Int × Me × Lg :=
  if E.1 ≠ 0 then ((0, 0, 0), E.1, M, S) else if R.1 ≠ 0 then ((0, 0, 0), R.1, R.2.1, R.2.2) else (placeL R.2.2 E.2.length, 0, R.2.1, R.2.2)
def plV (p : Nat × Nat × Nat) : Value := .agg #[.int .i64 (p.1 : Int), .int .i64 (p.2.1 : Int), .int .i64 (p.2.2 : Int)]
theorem placeL_at {S : Lg} {m n : Nat} {p : Nat × Nat} (hm : S.segs.length = m + 1) (hp : S.segs[m]? = some p) : placeL S n = (p.1, p.2 - n, n) := by
  unfold placeL
  rw [List.getLast?_eq_getElem?, hm, show m + 1 - 1 = m by omega, hp]
theorem llast_w {w : World} {base g gl : Nat} {lo : LOwn} {S : Lg} {sv : Value} (h : LogI w base lo g gl S sv) {m : Nat} (hm : S.segs.length = m + 1) (hok : m + 1 ≤ 1048577) : Calls Tryz.prog 83 #[.pointer (some ⟨gl, 0, none⟩)] w fun e w' => e = .returned (.int .i64 (m : Int)) ∧ w' = w := by
  obtain ⟨A, c, rfl, _, _, _⟩ := h.form
  have c2 := h.cells.2.2.1
  rw [hm] at c2
  have e1 : ((m + 1 : Nat) : Int) - 1 = (m : Int) := by omega
  have e2 : wrap64 (m : Int) = (m : Int) := by unfold wrap64; omega
  clear h hm hok
  go_enter Tryz.func83, Tryz.ntmps83
  go_wp2_with fail
  go_ret
  exact ⟨by simp [e2], rfl⟩
theorem sizePl : (Tryz.prog.info? 39).map (·.size) = some 3 := by kernel_rfl
theorem results_cellP {fn : Func} {p u : Tmp} {P : Program} {ty : TypeId} (h : fn.results = #[.cell p ty, .tmp u]) (tmps : Array Value) (w : World) (g : Nat) (t : TypeId) (cs : Array Value) (fr : Nat × Nat) (d : TypeDesc)
    (hp : tmps.getD p undef = .pointer (some ⟨g, 0, none⟩)) (hg : w.heap[g]? = some (.cells cs t fr))
    (hu : P.underlying ty = some d) (hd : (match d with | .struct _ | .array _ _ => true | _ => false) = true) (hi : (P.info? ty).map (·.size) = some cs.size) :
    (results fn tmps).run P w = .ok (.tuple #[.agg cs, tmps.getD u undef]) w := by
  rw [results_cell_tmp h, hp]
  simp [asAddr, run_loadVar_row w g t ty cs fr d hg hu hd hi, Result.andThen]
theorem chg_setRow (w : World) (g : Nat) (cs : Array Value) : Chg w (w.setRow g cs) (fun b => b = g) :=
  ⟨rfl, rfl, rfl, by simp [World.setRow], fun k _ hn => setRow_other w g k cs hn⟩
theorem zeroPl : (Tryz.prog.info? 39).map (fun i => (i.zero, i.size)) = some (some (.agg #[.int .i64 0, .int .i64 0, .int .i64 0]), 3) := by kernel_rfl
theorem sizeEnt0 : (Tryz.prog.info? 44).map (·.size) = some 34 := by kernel_rfl
theorem LLeft.after {w W W' : World} {base g gl : Nat} {own : Own} {lo : LOwn} {M' : Me} {S' : Lg} (h : LLeft w W base g gl own lo M' S') (s : Still W W') : LLeft w W' base g gl own lo M' S' := by
  obtain ⟨c, own', lo', ho, lm⟩ := h
  exact ⟨c.trans (Chg.of_still s (fun _ => False)) (fun _ _ h => h.elim), own', lo', ho, lm.still s⟩
theorem LLeft.setRow {w w3 W : World} {base g gl x : Nat} {own : Own} {lo : LOwn} {M' : Me} {S' : Lg} (s : Still w w3) (h : LLeft w3 W base g gl own lo M' S') (h1 : w.heap.size ≤ x) (h2 : x < w3.heap.size) (h3 : own x = none ∧ lo x = none) (cs : Array Value) : LLeft w (W.setRow x cs) base g gl own lo M' S' := by
  obtain ⟨c, own', lo', ho, lm⟩ := h
  refine ⟨((Chg.of_still s _).trans c (fun _ _ h => h)).trans (chg_setRow W x cs) (fun b hb e => by have e : b = x := e; omega), own', lo', fun b hb => ho b (Nat.lt_of_lt_of_le hb s.size), lm.keep (chg_setRow W x cs) (fun b hb => ?_)⟩
  have hb : b = x := hb
  subst hb
  rw [(ho b h2).1, (ho b h2).2]
  exact h3
set_option maxRecDepth 100000 in
set_option maxHeartbeats 6400000 in
theorem lappend_by {w : World} {base g gl k : Nat} {own : Own} {lo : LOwn} {M : Me} {S : Lg} {t : Int} {K D : List UInt8} {A : Option Addr} {n c B : Nat} (R : Nat → Int × Me × Lg) (h : LM w base g gl own lo M S) (T : SgT w)
    (hK : K.length = 32) (hr : Reads w B A n D) (hB : B ≤ w.heap.size) (hA : A = none → c = 0) (hn : n ≤ 1048576)
    (hlay : (encE t K D).1 = 0 → ∀ W A2 m2 c2, Still w W → RowP W (fun b => w.heap.size ≤ b) A2 m2 c2 (encE t K D).2 → Calls Tryz.prog 82 #[.pointer (some ⟨gl, 0, none⟩), .slice A2 m2 c2] W fun e w' => ∃ gf, M.fs gf = none ∧ e = .returned (.int .i64 (R gf).1) ∧ LLeft W w' base g gl own lo (R gf).2.1 (R gf).2.2)
    (hR : ∀ gf, (encE t K D).1 = 0 → (R gf).1 = 0 → LaidOK (R gf).2.2 (encE t K D).2.length) :
    Calls Tryz.prog 20 #[.pointer (some ⟨gl, 0, none⟩), .agg (entV t K (.slice A n c))] w fun e w' => ∃ gf, M.fs gf = none ∧ e = .returned (.tuple #[plV (appendR (encE t K D) M S (R gf)).1, .int .i64 (appendR (encE t K D) M S (R gf)).2.1]) ∧ LLeft w w' base g gl own lo (appendR (encE t K D) M S (R gf)).2.2.1 (appendR (encE t K D) M S (R gf)).2.2.2 := by
  obtain ⟨ent, hent⟩ : ∃ ent, ent = entV t K (.slice A n c) := ⟨_, rfl⟩
  rw [← hent]
  have hes : ent.size = 34 := by rw [hent]; exact entV_size t K _ hK
  obtain ⟨wA, hwA⟩ : ∃ wA, wA = w.alloc (.cells ent 44) := ⟨_, rfl⟩
  obtain ⟨wB, hwB⟩ : ∃ wB, wB = wA.alloc (.cells #[.int .i64 0, .int .i64 0, .int .i64 0] 39) := ⟨_, rfl⟩
  have SA : Still w wA := by rw [hwA]; exact (Still.refl w).alloc (Nat.le_refl _) _
  have hsA : wA.heap.size = w.heap.size + 1 := by rw [hwA]; simp
  have SB : Still wA wB := by rw [hwB]; exact (Still.refl wA).alloc (Nat.le_refl _) _
  have hsB : wB.heap.size = w.heap.size + 2 := by rw [hwB]; simp [hsA]
  have BE : Blk wB w.heap.size 44 ent := by
    have : Blk wA w.heap.size 44 ent := by rw [hwA]; exact Blk.new _ _ _
    exact this.still SB
  have BP : Blk wB (w.heap.size + 1) 39 #[.int .i64 0, .int .i64 0, .int .i64 0] := by rw [hwB, ← hsA]; exact Blk.new _ _ _
  have SAB := Still.trans SA SB
  have LMB := h.still SAB
  obtain ⟨sv, hl⟩ := LMB.log
  have WK := Lib.hid (lworks_any hl)
  have EN := Lib.hid (encode_any t K D A n c wB B hK (hr.still hB SAB) (Nat.le_trans hB SAB.size) hA hn (T.still SAB).tabs)
  rw [← hent] at EN
  obtain ⟨bb, hbb⟩ : ∃ bb, bb = (encE t K D).2 := ⟨_, rfl⟩
  obtain ⟨e0, he0⟩ : ∃ e0, e0 = (encE t K D).1 := ⟨_, rfl⟩
  have EP : encE t K D = (e0, bb) := by rw [he0, hbb]
  rw [EP] at EN ⊢ hlay hR
  dsimp only at EN hlay hR
  have HLAY := Lib.hid hlay
  have HR := Lib.hid hR
  have HAB := Lib.hid SAB
  have HBP := Lib.hid BP
  have HBE := Lib.hid BE
  have HSA := Lib.hid hsA
  have HSB := Lib.hid hsB
  have HWA := Lib.hid hwA
  have HWB := Lib.hid hwB
  have HLM := Lib.hid LMB
  have HES := Lib.hid hes
  have HFR := Lib.hid h.med.fresh
  have HLW := Lib.hid h
  have UE : Tryz.prog.underlying 44 = some _ := Tryz.underlying44
  clear hlay hR h T hK hr hB hA hn hwA hwB SA SB hsA hsB BE BP SAB LMB hl hbb he0 EP hes hent
  go_enter Tryz.func20, Tryz.ntmps20
  go_upto_region 1 with (first
    | (guard_target =~ wpList _ _ _ (Oper.mk (some 3) _ _ _ _ _ :: _) _ _; go_must (refine wpList_box_val rfl 44 (.tmp 1) rfl (some 3) rfl ent rfl ?_); rw [← HWA.out])
    | (guard_target =~ wpList _ _ _ (Oper.mk (some 4) _ _ _ _ _ :: _) _ _; go_must (refine wpList_alloc_arr rfl 39 rfl (some 4) rfl #[.int .i64 0, .int .i64 0, .int .i64 0] 3 zeroPl ?_); rw [← HWB.out, HSA.out]))
  have UP := Lib.hid (show Tryz.prog.underlying 39 = some _ from Tryz.underlying39)
  have X1 := Lib.hid (show w.heap.size + 1 < wB.heap.size by rw [HSB.out]; omega)
  have X3 := Lib.hid (show own (w.heap.size + 1) = none ∧ lo (w.heap.size + 1) = none from by
    obtain ⟨sv, l⟩ := HLW.out.log
    refine ⟨?_, ?_⟩
    · cases hq : own (w.heap.size + 1) with
      | none => rfl
      | some q => have := (HLW.out.med.dom _ (by rw [hq]; simp)).2; omega
    · cases hq : lo (w.heap.size + 1) with
      | none => rfl
      | some q => have := (l.dom _ (by rw [hq]; simp)).2; omega)
  by_cases z0 : e0 = 0
  · subst z0
    replace HLAY := Lib.hid (fun W A2 m2 c2 => HLAY.out rfl W A2 m2 c2)
    replace HR := Lib.hid (fun gf => HR.out gf rfl)
    go_upto_region 6 with (first
      | (guard_target =~ wpList _ _ _ (Oper.mk (some 14) _ _ _ _ _ :: _) _ _; go_must (refine load_rowG (by kernel_rfl) 44 (.tmp 3) rfl w.heap.size rfl 44 ent (0, 0) _ HBE.out Tryz.underlying44 rfl (by rw [sizeEnt0, HES.out]) ?_))
      | (go_at_call 80; refine WK.out.mono ?_; rintro e w2 ⟨rfl, rfl⟩)
      | (go_at_call 81; refine EN.out.mono ?_; rintro e w3 ⟨⟨v3, rfl, o3⟩, s3⟩; obtain ⟨A3, c3, rfl, f1, f2, f3⟩ := own_form o3; have O3 := Lib.hid o3; have S3 := Lib.hid s3; clear o3 s3 f3)
      | (go_at_call 82; refine (HLAY.out w3 A3 bb.length c3 (Still.trans HAB.out S3.out) ((RowP.of_own O3.out).mono (fun b hb _ => Nat.le_trans HAB.out.size hb.1))).mono ?_; rintro e w4 ⟨gf, hgf, rfl, hl4⟩; have GF := Lib.hid hgf; have L4 := Lib.hid hl4; clear hgf hl4))
    obtain ⟨e1, he1⟩ : ∃ e1, e1 = (R gf).1 := ⟨_, rfl⟩
    obtain ⟨M4, hM4⟩ : ∃ M4, M4 = (R gf).2.1 := ⟨_, rfl⟩
    obtain ⟨S4, hS4⟩ : ∃ S4, S4 = (R gf).2.2 := ⟨_, rfl⟩
    have HRG := Lib.hid (HR.out gf)
    have EA := Lib.hid (show appendR (0, bb) M S (R gf) = if e1 ≠ 0 then ((0, 0, 0), e1, M4, S4) else (placeL S4 bb.length, 0, M4, S4) from by
      unfold appendR
      rw [if_neg (by simp), ← he1, ← hM4, ← hS4])
    rw [← hM4, ← hS4] at L4
    rw [← he1, ← hS4] at HRG
    rw [← he1]
    clear he1 hM4 hS4 HLAY HR
    have BP4 := Lib.hid (show Blk w4 (w.heap.size + 1) 39 #[.int .i64 0, .int .i64 0, .int .i64 0] from by
      obtain ⟨c4, _⟩ := L4.out
      refine c4.blk (HBP.out.still S3.out) (fun hs => ?_)
      rcases hs with hs | hs
      · exact hs X3.out.1
      · exact hs X3.out.2)
    have FIN := Lib.hid (fun cs => LLeft.setRow (x := w.heap.size + 1) (Still.trans HAB.out S3.out) L4.out (by omega) (Nat.lt_of_lt_of_le X1.out S3.out.size) X3.out cs)
    by_cases z1 : e1 = 0
    · subst z1
      obtain ⟨m, p, hm, hp, hmm, hle, hbig⟩ := HRG.out rfl
      have EB := Lib.hid (show appendR (0, bb) M S (R gf) = ((p.1, p.2 - bb.length, bb.length), 0, M4, S4) by rw [EA.out, if_neg (by simp), placeL_at hm hp])
      obtain ⟨c4, own4, lo4, ho4, lm4⟩ := L4.out
      obtain ⟨sv4, l4⟩ := lm4.log
      have LAST := Lib.hid (fun W (s : Still w4 W) => llast_w (l4.keep (Chg.of_still s (fun _ => False)) (fun _ h => h.elim)) hm hmm)
      obtain ⟨A4, c5, hsv, q1, q2, hcl⟩ := l4.form
      have k2 := l4.cells.2.2.1
      obtain ⟨bq, hA, hlo, d1, d2⟩ := hcl m p hp
      subst hA
      rw [hsv, hm] at k2
      rw [hm] at q1
      have hbq : bq < w4.heap.size := (l4.dom bq (by rw [hlo]; simp)).2
      have hgl : gl < w4.heap.size := l4.blk.lt
      have KC := Lib.hid (fun W (s : Still w4 W) => show W.cell? ⟨gl, 2, none⟩ = some (.slice (some ⟨bq, 0, none⟩) (m + 1) c5) ∧ W.cell? ⟨bq, m * 2, none⟩ = some (.int .i64 (p.1 : Int)) ∧ W.cell? ⟨bq, m * 2 + 1, none⟩ = some (.int .i64 (p.2 : Int)) from ⟨(s.cell (p := ⟨gl, 2, none⟩) hgl).trans k2, (s.cell (p := ⟨bq, m * 2, none⟩) hbq).trans d1, (s.cell (p := ⟨bq, m * 2 + 1, none⟩) hbq).trans d2⟩)
      obtain ⟨pa, hpa⟩ : ∃ pa, pa = p.1 := ⟨_, rfl⟩
      obtain ⟨pb, hpb⟩ : ∃ pb, pb = p.2 := ⟨_, rfl⟩
      obtain ⟨bl, hbl⟩ : ∃ bl, bl = bb.length := ⟨_, rfl⟩
      rw [← hpa, ← hpb] at KC
      rw [← hpa, ← hpb, ← hbl] at EB
      rw [← hpb] at hbig
      rw [← hbl, ← hpb] at hle
      rw [← hbl] at f1
      obtain ⟨ml, hml⟩ : ∃ ml, ml = m + 1 := ⟨_, rfl⟩
      rw [← hml] at KC q1
      have z3 : (0 : Int) ≤ (m : Int) := by omega
      have z4 : (m : Int) < (ml : Int) := by omega
      clear hml
      have HLE := Lib.hid (And.intro hle hbig)
      have HBL := Lib.hid hbl
      clear c4 ho4 lm4 l4 hsv hcl k2 d1 d2 hm hp hmm hlo hbq hgl hpa hpb hle hbig EA HRG hbl q1 q2
      go_wp2_with fail
      go_region_held3 (fun W => W.cell? ⟨gl, 2, none⟩ = some (.slice (some ⟨bq, 0, none⟩) ml c5) ∧ W.cell? ⟨bq, m * 2, none⟩ = some (.int .i64 (pa : Int)) ∧ W.cell? ⟨bq, m * 2 + 1, none⟩ = some (.int .i64 (pb : Int))) (first | exact KC.out _ (Still.refl _).drew | exact KC.out _ (((Still.refl _).drew).alloc (Nat.le_refl _) _) | exact KC.out _ (below_setRow (((Still.refl _).drew).alloc (Nat.le_refl _) _) (by simp) _)) ((go_at_call 83; with_reducible refine (LAST.out _ (by first | exact (Still.refl _).drew | exact ((Still.refl _).alloc (Nat.le_refl _) _).drew)).mono ?_; rintro e w6 ⟨rfl, rfl⟩))
      all_goals
        obtain ⟨pd, hpd⟩ : ∃ pd, pd = pb - bl := ⟨_, rfl⟩
        have EB2 := Lib.hid (show appendR (0, bb) M S (R gf) = ((pa, pd, bl), 0, M4, S4) by rw [EB.out, hpd])
        have S5 := Lib.hid (show Still w4 (w4.alloc (.cells #[.int .i64 (pa : Int), .int .i64 (pb : Int)] 160)).drew from ((Still.refl _).alloc (Nat.le_refl _) _).drew)
        have BP5 := Lib.hid (BP4.out.still S5.out)
        have FN5 := Lib.hid (fun cs => LLeft.setRow (x := w.heap.size + 1) (Still.trans HAB.out S3.out) (L4.out.after S5.out) (by omega) (Nat.lt_of_lt_of_le X1.out S3.out.size) X3.out cs)
        have v1 : (pb : Int) - (bl : Int) = (pd : Int) := by have := HLE.out; omega
        have v2 : wrap64 (pd : Int) = (pd : Int) := by have := HLE.out; unfold wrap64; omega
        have BN : Blk (w4.alloc (.cells #[.int .i64 (pa : Int), .int .i64 (pb : Int)] 160)).drew w4.heap.size 160 #[.int .i64 (pa : Int), .int .i64 (pb : Int)] := Blk.new w4 _ _
        have n0 := BN.cell 0
        have n1 := BN.cell 1
        rw [HBL.out.symm]
        clear BN hpd EB FIN KC LAST
        go_wp2_with (first
          | (guard_target =~ wpList _ _ _ (Oper.mk none (Op.store _ _ _) _ _ _ _ :: _) _ _; go_must (refine wpList_store_rowTo rfl 39 (.tmp 4) (.tmp 44) rfl rfl (w.heap.size + 1) #[.int .i64 (pa : Int), .int .i64 (pd : Int), .int .i64 (bl : Int)] rfl rfl 39 _ BP5.out (sizePl.trans rfl) rfl (by simp [Value.oneCell']) ?_)))
        refine bodyPost_ret (results_cellP rfl _ _ (w.heap.size + 1) 39 _ (0, 0) _ rfl (setRow_heap _ _ _ _ _ _ BP5.out) UP.out rfl (sizePl.trans rfl)) rfl ?_
        exact ⟨gf, GF.out, by rw [EB2.out]; rfl, by rw [EB2.out]; exact FN5.out _⟩
    · have b1 : (e1 != 0) = true := by simpa using z1
      have EB := Lib.hid (show appendR (0, bb) M S (R gf) = ((0, 0, 0), e1, M4, S4) by rw [EA.out, if_pos z1])
      clear z1
      go_wp2_with (first
        | (guard_target =~ wpList _ _ _ (Oper.mk none (Op.store _ _ _) _ _ _ _ :: _) _ _; go_must (refine wpList_store_rowTo rfl 39 (.tmp 4) (.tmp 25) rfl rfl (w.heap.size + 1) #[.int .i64 0, .int .i64 0, .int .i64 0] rfl rfl 39 _ (BP4.out) (sizePl.trans rfl) rfl (by simp [Value.oneCell']) ?_)))
      refine bodyPost_ret (results_cellP rfl _ _ (w.heap.size + 1) 39 _ (0, 0) _ rfl (setRow_heap w4 _ _ _ _ _ BP4.out) UP.out rfl (sizePl.trans rfl)) rfl ?_
      exact ⟨gf, GF.out, by rw [EB.out]; rfl, by rw [EB.out]; exact FIN.out _⟩
  · have b1 : (e0 == 0) = false := by simpa using z0
    have b2 : (e0 != 0) = true := by simpa using z0
    have EB := Lib.hid (fun r => show appendR (e0, bb) M S r = ((0, 0, 0), e0, M, S) by unfold appendR; rw [if_pos z0])
    clear z0
    go_wp2_with (first
      | (guard_target =~ wpList _ _ _ (Oper.mk (some 14) _ _ _ _ _ :: _) _ _; go_must (refine load_rowG (by kernel_rfl) 44 (.tmp 3) rfl w.heap.size rfl 44 ent (0, 0) _ HBE.out Tryz.underlying44 rfl (by rw [sizeEnt0, HES.out]) ?_))
      | (go_at_call 80; refine WK.out.mono ?_; rintro e w2 ⟨rfl, rfl⟩)
      | (go_at_call 81; refine EN.out.mono ?_; rintro e w3 ⟨⟨v3, rfl, o3⟩, s3⟩; obtain ⟨A3, c3, rfl, f1, f2, f3⟩ := own_form o3; have O3 := Lib.hid o3; have S3 := Lib.hid s3; clear o3 s3 f3)
      | (guard_target =~ wpList _ _ _ (Oper.mk none (Op.store _ _ _) _ _ _ _ :: _) _ _; go_must (refine wpList_store_rowTo rfl 39 (.tmp 4) (.tmp 25) rfl rfl (w.heap.size + 1) #[.int .i64 0, .int .i64 0, .int .i64 0] rfl rfl 39 _ (HBP.out.still S3.out) (sizePl.trans rfl) rfl (by simp [Value.oneCell']) ?_)))
    obtain ⟨gf, hgf⟩ := (⟨_, HFR.out⟩ : ∃ gf, M.fs gf = none)
    refine bodyPost_ret (results_cellP rfl _ _ (w.heap.size + 1) 39 _ (0, 0) _ rfl (setRow_heap w3 _ _ _ _ _ (HBP.out.still S3.out)) UP.out rfl (sizePl.trans rfl)) rfl ?_
    exact ⟨gf, hgf, by rw [EB.out]; rfl, by rw [EB.out]; exact LLeft.still HLW.out (below_setRow (Still.trans HAB.out S3.out) (by omega) _)⟩
end Go.Proofs.YtfneloobfidckaaGreatDoor
