/- Contracts and facts, several texts in one. It proves no statement. -/
import Derived.Test.YtljacdbdjacbkaaGreatMpGzf
import Derived.Test.YtljacdbdjacbkaaGreatMpGzg
import Derived.Deep.RegionHeld3
import Derived.Test.YtljacdbdjacbkaaGreatMpGl
import Derived.Test.YtljacdbdjacbkaaGreatMpGb

/- Contract: the law's own alike: the medium and the document's disk show the same. It proves no statement. -/






namespace Go.Proofs.YtljacdbdjacbkaaGreat
open Go.RowKit Go.Maps Go.WideMaps Go.Sort
set_option linter.unusedVariables false
set_option linter.unusedSimpArgs false

theorem room_M {w : World} {base g : Nat} {own : Own} {M : Me} (h : MedI w base own g M) :
    Calls Tryz.prog 44 #[.pointer (some ⟨g, 0, none⟩)] w fun e w' => e = .returned (.int .i64 M.room) ∧ w = w' := by
  obtain ⟨bn, bf, wv, ns, nn, nf, d1, d2, _⟩ := h.dir
  have c0 : w.cell? ⟨g, 0, none⟩ = some (.int .i64 M.room) := Blk.cell d1 0
  obtain ⟨r, hr⟩ : ∃ r, r = M.room := ⟨_, rfl⟩
  rw [← hr] at c0 ⊢
  clear hr d1 d2 h
  go_enter Tryz.func44, Tryz.ntmps44
  go_wp2_with fail
  go_ret
  exact ⟨rfl, rfl⟩
theorem own_formV2 {w : World} {base : Nat} {e : TypeId} {z n : Nat} {v : Value} {xs : List Value} (h : w.ownsRow base e z v n xs) : ∃ (A : Option Addr) (c : Nat), v = .slice A n c ∧ n ≤ c ∧ c ≤ 9223372036854775807 ∧ (A = none → n = 0 ∧ c = 0) := by
  rcases h.2 with ⟨h1, h0⟩ | ⟨q, cap, cur, h1, h2, h3, h4, h5, _⟩
  · exact ⟨none, 0, by rw [h1, h0], by omega, by omega, fun _ => ⟨h0, rfl⟩⟩
  · exact ⟨_, _, h1, h4, by unfold maxLen at h5; omega, fun e => by cases e⟩
theorem namesV_map (φ : Nat → Nat) (N : NT) : namesV (mapN φ N) = namesV N := by
  unfold namesV mapN
  congr 1
  rw [List.map_map]
  rfl
theorem Sim.namesV {φ : Nat → Nat} {M : Me} {D : Dk} (h : Sim φ M D) : namesV M.names = namesV (listD D) ∧ M.names.length = (listD D).length := by
  unfold Me.names listD
  rw [h.off]
  split
  · exact ⟨rfl, rfl⟩
  · rw [h.now]
    exact ⟨namesV_map φ _, mapN_length _⟩
/-- What both sides tell of the k-th name. -/
theorem Sim.nth {φ : Nat → Nat} {M : Me} {D : Dk} (h : Sim φ M D) (hok : M.ok) {k : Nat} {p : List UInt8 × Nat} (hp : (listD D)[k]? = some p) :
    ∃ F, D.files[p.2]? = some F ∧ M.bytes (nmS p) = (F.now, 0) ∧ allD D p.1 = (F.now, 0) := by
  have ho : D.off = false := by
    cases hd : D.off
    · rfl
    · unfold listD at hp
      rw [if_pos hd] at hp
      simp at hp
  have hl : listD D = D.now := by unfold listD; rw [if_neg (by rw [ho]; decide)]
  rw [hl] at hp
  have hm := List.mem_of_getElem? hp
  have hmM : (p.1, φ p.2) ∈ M.now := by
    rw [h.now]
    exact List.mem_map.2 ⟨p, hm, rfl⟩
  have h1 := nFind_of_mem hok.rn hmM
  have h2 := h.find p.1
  rw [h1] at h2
  cases hf : nFind D.now p.1 with
  | none => rw [hf] at h2; cases h2
  | some f =>
    rw [hf] at h2
    have h3 : φ p.2 = φ f := Option.some.inj h2
    have hlt := h.nowx p hm
    have hlf := h.nowx _ (nFind_mem hf)
    have e := h.inj _ _ hlt hlf h3
    subst e
    obtain ⟨F, G, a, b, c, d⟩ := h.file hf
    refine ⟨F, a, ?_, ?_⟩
    · have hfi : M.find (nmS p) = .inr (φ p.2, G) := by
        unfold Me.find
        rw [if_neg (by rw [h.off, ho]; decide), show (nmS p).data.toList = p.1 from rfl, h1]
        simp only [b]
      unfold Me.bytes
      rw [hfi]
      show (G.now, (0 : Int)) = (F.now, 0)
      rw [c.now]
    · unfold allD
      rw [if_neg (by rw [ho]; decide), hf]
      simp only [a]
      rfl
set_option maxRecDepth 100000 in
set_option maxHeartbeats 6400000 in
theorem alike_D {w : World} {base g base2 dk k : Nat} {own : Own} {dow : DOwn} {M : Me} {D : Dk} {φ : Nat → Nat} (h : MedI w base own g M) (hg : M.good k) (hd : DiskI w base2 dow dk D) (hs : Sim φ M D) (hnm : ∀ p ∈ D.now, p.1.length ≤ 30) (hk : k ≤ 700000) :
    Calls Tryz.prog 10 #[.pointer (some ⟨g, 0, none⟩), .pointer (some ⟨dk, 0, none⟩)] w fun e w' => e = .returned (.bool true) ∧ Still w w' := by
  have hok := hg.ok
  have hcnt : M.cnt ≤ 900000 := by have := hg.cnt; omega
  have hgd := hs.good hg (fun gf F hF => (h.files gf F hF).2.1)
  have hv := hs.namesV
  have hu := hs.used
  have LSD := Lib.hid (list_D hd hgd (by omega))
  obtain ⟨L, hL⟩ : ∃ L, L = listD D := ⟨_, rfl⟩
  obtain ⟨n, hn⟩ : ∃ n, n = L.length := ⟨_, rfl⟩
  rw [← hL] at hv LSD
  have LSM := Lib.hid (fun W (s : Still w W) => list_M (h.still s) hok (by omega))
  rw [hv.1, hv.2] at LSM
  rw [← hn] at LSM LSD
  have PW := Lib.hid (fun W (s : Still w W) => power_M (h.still s))
  have RM := Lib.hid (fun W (s : Still w W) => room_M (h.still s))
  have US := Lib.hid (fun W (s : Still w W) => used_M (h.still s) hok (by omega))
  have AM := Lib.hid (fun W (s : Still w W) (x : ByteArray) (hx : x.size ≤ maxLen) => all_M x (h.still s) hok hx)
  have SM := Lib.hid (fun W (s : Still w W) (x : ByteArray) (hx : x.size ≤ maxLen) => size_M x (h.still s) hok hx)
  have AD := Lib.hid (fun W (s : Still w W) (x : ByteArray) => all_D (hd.still s) hgd x)
  have NTH := Lib.hid (fun k p (hp : L[k]? = some p) => hs.nth hok (k := k) (p := p) (by rw [← hL]; exact hp))
  have NML := Lib.hid (show ∀ p ∈ L, p.1.length ≤ 30 from by
    intro p hp
    rw [hL] at hp
    unfold listD at hp
    split at hp
    · cases hp
    · exact hnm p hp)
  have MST := Lib.hid (fun f F (hF : D.files[f]? = some F) => hgd.most hF)
  have UE := Lib.hid (show (if M.off = true then 0 else M.used) = usedD D L from by
    rw [hs.off, hL]
    unfold listD
    split
    · rfl
    · exact hu)
  have USTEP := Lib.hid (fun i p F (hp : L[i]? = some p) (hF : D.files[p.2]? = some F) => usedD_take D L i p F hp hF)
  have ULE := Lib.hid (fun i => usedD_le D (L.take i) 33554432 (fun p hp F hF => hgd.most hF))
  have LN : L.length ≤ 700000 := by
    have h1 : M.names.length ≤ M.now.length := by unfold Me.names; split <;> simp
    have h2 := now_length hok
    have h3 := hg.cnt
    rw [← hv.2]
    omega
  obtain ⟨fv, fcs, A, n1, c, A2, n2, c2, wv, hc⟩ := id hd
  have KC := Lib.hid (fun W (s : Still w W) => show W.cell? ⟨dk, 0, none⟩ = some (.int .i64 M.room) ∧ W.cell? ⟨dk, 7, none⟩ = some (.bool M.off) from by
    obtain ⟨q0, _, _, _, _, _, _, q7⟩ := (hc.still s).cells
    rw [hs.room, hs.off]
    exact ⟨q0, q7⟩)
  have LEN := Lib.hid (show L.length = n ∧ n ≤ 700000 from ⟨hn.symm, by omega⟩)
  obtain ⟨rm, hrm⟩ : ∃ rm, rm = M.room := ⟨_, rfl⟩
  obtain ⟨off, hoff⟩ : ∃ off, off = M.off := ⟨_, rfl⟩
  rw [← hrm] at KC RM
  rw [← hoff] at KC PW
  have qb : ((!off) == off) = false := by cases off <;> rfl
  have ln2 : (n : Int) ≤ 700000 := by have := LEN.out; omega
  clear h hg hd hs hnm hok hcnt hgd hv hu hL hn hc hrm hoff LN
  go_enter Tryz.func10, Tryz.ntmps10
  go_upto_region 2 with (go_at_call 40; refine LSD.out.mono ?_; rintro e w1 ⟨⟨Al, cl, rfl, ol⟩, s1⟩; have S1 := Lib.hid s1; have OL := Lib.hid (NamesR.of_own ol); clear ol s1)
  have NS := Lib.hid (fun Ax cx {W : World} (z : Still w w1.drew) (t : Still w1.drew W) (o : NamesR W Ax n L) => names_same Ax Al n cx cl L W o (OL.out.still ((Still.refl _).drew.trans t)) (by have := LEN.out; omega))
  go_region_held3 (fun W => W.cell? ⟨dk, 0, none⟩ = some (.int .i64 rm) ∧ W.cell? ⟨dk, 7, none⟩ = some (.bool off)) (first | exact KC.out _ S1.out.drew | exact KC.out _ S2.out | exact KC.out _ S3.out) (first
    | (go_at_call 42; with_reducible refine (LSM.out _ S1.out.drew).mono ?_; rintro e w2 ⟨⟨v2, rfl, o2⟩, s2⟩; obtain ⟨Am, cm, rfl, _, _, _⟩ := own_formB o2; have O2 := Lib.hid (NamesR.of_own o2); have T2 := Lib.hid s2; have S2 := Lib.hid (Still.trans S1.out.drew s2); clear o2 s2)
    | (go_at_call 41; with_reducible refine (NS.out _ _ S1.out.drew T2.out O2.out).mono ?_; rintro e w3 ⟨rfl, q3, h3⟩; have S3 := Lib.hid (show Still w w3 from h3 ▸ still_drewN S2.out q3); have HT3 := Lib.hid (show Still w2 w3 from h3 ▸ still_drewN (Still.refl _) q3); clear h3)
    | (go_at_call 43; with_reducible refine (PW.out _ S3.out).mono ?_; rintro e w4 ⟨rfl, rfl⟩)
    | (go_at_call 44; with_reducible refine (RM.out _ S3.out).mono ?_; rintro e w4 ⟨rfl, rfl⟩))
  have I0 := Lib.hid (show Still w w3 ∧ NamesR w3 Al n L from ⟨S3.out, OL.out.still ((Still.refl _).drew.trans (Still.trans T2.out HT3.out))⟩)
  clear NS O2 T2 HT3
  go_wp2_with fail
  go_loopw [6, 7] (fun uv iv wr => ∃ k u : Nat, uv = .int .i64 u ∧ iv = .int .i64 k ∧ k ≤ n ∧ Hid (u = usedD D (L.take k) ∧ Still w wr ∧ NamesR wr Al n L)) (fun _ iv _ => n - (intOf iv).toNat)
  case atStart => exact ⟨0, 0, rfl, rfl, Nat.zero_le _, rfl, I0.out.1, I0.out.2⟩
  case round =>
    clear I0
    obtain ⟨k, u, rfl, rfl, hk, hh⟩ := hrel
    obtain ⟨hu, sr, hr⟩ := hh.out
    by_cases hlt : k < n
    · obtain ⟨p, hp⟩ : ∃ p, L[k]? = some p := ⟨_, List.getElem?_eq_getElem (by have := LEN.out; omega)⟩
      obtain ⟨gs, o, rfl, hgs, hcs⟩ := hr.2 (by omega)
      have d1 := hcs k p hp
      obtain ⟨F, f1, f2, f3⟩ := NTH.out k p hp
      have hml := MST.out _ F f1
      have hsz : (nmS p).size ≤ maxLen := by
        have e : (nmS p).size = p.1.length := by simp [nmS, ByteArray.size]
        have := NML.out p (List.mem_of_getElem? hp)
        rw [e]
        unfold maxLen
        omega
      have hus := USTEP.out k p F hp f1
      have hul := ULE.out (k + 1)
      rw [← hu] at hus
      have hb1 : u + F.now.length ≤ 700000 * 33554432 := by
        rw [← hus]
        refine Nat.le_trans hul (Nat.mul_le_mul_right _ ?_)
        rw [List.length_take]
        have := LEN.out
        omega
      have HUS := Lib.hid hus
      have HAM := Lib.hid (fun W (s : Still wr W) => AM.out W (Still.trans sr s) (nmS p) hsz)
      have HSM := Lib.hid (fun W (s : Still wr W) => SM.out W (Still.trans sr s) (nmS p) hsz)
      have HAD := Lib.hid (fun W (s : Still wr W) => AD.out W (Still.trans sr s) (nmS p))
      rw [f2] at HAM HSM
      rw [show (nmS p).data.toList = p.1 from rfl, f3] at HAD
      dsimp only at HAM HSM HAD
      obtain ⟨l, hl⟩ : ∃ l, l = F.now := ⟨_, rfl⟩
      rw [← hl] at HAM HSM HAD hml hb1 HUS
      obtain ⟨m, hm⟩ : ∃ m, m = l.length := ⟨_, rfl⟩
      rw [← hm] at HAM HSM HAD hml hb1 HUS
      rw [show (⟨p.1.toArray⟩ : ByteArray) = nmS p from rfl] at d1
      obtain ⟨X, hX⟩ : ∃ X, X = nmS p := ⟨_, rfl⟩
      rw [← hX] at d1 HAM HSM HAD
      have D1 := Lib.hid (fun W (s : Still wr W) => show W.cell? ⟨gs, o + k, none⟩ = some (.string X) from (s.cell (p := ⟨gs, o + k, none⟩) hgs).trans d1)
      have SR := Lib.hid sr
      have HR := Lib.hid hr
      have HM := Lib.hid hm
      have q1 : (0 : Int) ≤ (k : Int) := by omega
      have q2 : (k : Int) < (n : Int) := by omega
      have q3 : (u : Int) + (m : Int) ≤ 9223372036854775807 := by omega
      have q4 : ¬ ((u : Int) + (m : Int) < -9223372036854775808) := by omega
      have HLT := Lib.hid hlt
      clear hh hu sr hr hcs hp f1 f2 f3 hsz hus hul hl hX hlt hm
      go_wp2_with fail
      refine (HAM.out _ (Still.refl _)).mono ?_
      rintro e w4 ⟨⟨v4, rfl, o4⟩, s4⟩
      obtain ⟨A4, c4, rfl, _, _, _⟩ := own_formV2 o4
      have d2 := D1.out _ s4
      have S4 := Lib.hid s4
      have R4 := Lib.hid (Reads.of_own o4)
      clear s4 o4
      go_wp2_with fail
      refine (HSM.out _ S4.out).mono ?_
      rintro e w5 ⟨rfl, rfl⟩
      go_wp2_with fail
      refine (HAD.out _ S4.out).mono ?_
      rintro e w6 ⟨⟨A6, c6, rfl, o6⟩, s6⟩
      have S6 := Lib.hid s6
      have R6 := Lib.hid (Reads.of_own o6)
      clear s6 o6
      have HC := Lib.hid (same_quiet A4 A6 m m c4 c6 l l w6 _ _ (R4.out.still (Nat.le_refl _) S6.out) R6.out (by omega) (by omega))
      rw [decide_eq_true rfl] at HC
      go_wp2_with fail
      refine HC.out.mono ?_
      rintro e w8 ⟨rfl, nq, h8⟩
      have SQ := Lib.hid (show Still wr w8 from h8 ▸ still_drewN (Still.trans S4.out S6.out) nq)
      clear h8
      go_wp2_with fail
      go_roundw
      case rel => exact ⟨k + 1, u + m, by go_num, by go_num, by have := HLT.out; omega, HUS.out.symm, Still.trans SR.out SQ.out, HR.out.still SQ.out⟩
      case measure => simp [intOf]; have := HLT.out; omega
    · obtain rfl : k = n := by omega
      have eL : L.take k = L := List.take_of_length_le (by have := LEN.out; omega)
      rw [eL] at hu
      have HUF := Lib.hid (US.out wr sr)
      rw [UE.out, ← hu] at HUF
      have SR := Lib.hid sr
      clear hh hu sr hr hlt
      go_wp2_with fail
      refine HUF.out.mono ?_
      rintro e w7 ⟨rfl, s7⟩
      have S7 := Lib.hid (Still.trans SR.out s7)
      clear s7
      go_wp2_with fail
      go_ret
      exact ⟨rfl, S7.out⟩
end Go.Proofs.YtljacdbdjacbkaaGreat

/- The medium and the document's disk in one world, from call to call. It proves no statement. -/


namespace Go.Proofs.YtljacdbdjacbkaaGreat
open Go.RowKit Go.Maps Go.WideMaps Go.Sort
set_option linter.unusedVariables false
set_option linter.unusedSimpArgs false

theorem Me.Nms.name {M : Me} (h : M.Nms) (x : ByteArray × ByteArray × Int) (hx : shortX x) : (opName M x).2.Nms := by
  unfold opName
  split
  · exact ⟨h.now, h.fast, h.wait⟩
  · exact h.link x _ hx
theorem Me.Nms.step {M : Me} (h : M.Nms) (x : Call) (gf : Nat) (o : Option Nat) : (stepM M x gf o).2.Nms := by
  unfold stepM
  by_cases e0 : x.k = 0
  · rw [if_pos e0]
    unfold opCreate
    split
    · exact h
    split
    · exact h
    rename_i hnm
    split
    · exact h
    split
    · exact h
    split
    · exact ⟨h.now, h.fast, h.wait⟩
    exact h.link _ _ (fun _ => nmOK_len hnm)
  rw [if_neg e0]
  by_cases e1 : x.k = 1
  · rw [if_pos e1]
    unfold opAppend
    split
    · exact h
    · split
      · exact h
      · split
        · exact ⟨h.now, h.fast, h.wait⟩
        · exact ⟨h.now, h.fast, h.wait⟩
  rw [if_neg e1]
  by_cases e2 : x.k = 2
  · rw [if_pos e2]
    unfold opTruncate
    split
    · exact h
    · split
      · exact h
      · split
        · exact ⟨h.now, h.fast, h.wait⟩
        · exact ⟨h.now, h.fast, h.wait⟩
  rw [if_neg e2]
  by_cases e3 : x.k = 3
  · rw [if_pos e3]
    unfold opRename
    split
    · exact h
    · split
      · exact h
      · rename_i hnm
        exact h.name _ (fun _ => nmOK_len hnm)
  rw [if_neg e3]
  by_cases e4 : x.k = 4
  · rw [if_pos e4]
    unfold opRemove
    split
    · exact h
    · exact h.name _ (fun h0 => absurd (show (0 : Int) ≤ -1 from h0) (by decide))
  rw [if_neg e4]
  by_cases e5 : x.k = 5
  · rw [if_pos e5]
    unfold opSync
    split
    · exact h
    · split
      · exact ⟨h.now, h.fast, h.wait⟩
      · exact ⟨h.now, h.fast, h.wait⟩
  rw [if_neg e5]
  by_cases e6 : x.k = 6
  · rw [if_pos e6]
    unfold opSyncDir
    split
    · exact h
    split
    · exact ⟨h.now, h.fast, h.wait⟩
    · exact ⟨h.now, h.now, fun x hx => by cases hx⟩
  rw [if_neg e6]
  by_cases e7 : x.k = 7
  · rw [if_pos e7]
    unfold opArm
    split
    · exact h
    · split
      · exact h
      · exact ⟨h.now, h.fast, h.wait⟩
  rw [if_neg e7]
  by_cases e8 : x.k = 8
  · rw [if_pos e8]
    exact h.crash _
  rw [if_neg e8]
  by_cases e9 : x.k = 9
  · rw [if_pos e9]
    unfold opSetRoom
    split
    · exact h
    · split
      · exact h
      · exact ⟨h.now, h.fast, h.wait⟩
  rw [if_neg e9]
  by_cases e10 : x.k = 10
  · rw [if_pos e10]
    unfold Me.rotted
    split
    · exact h
    · split
      · exact h
      · split
        · exact h
        · exact ⟨h.now, h.fast, h.wait⟩
  rw [if_neg e10]
  exact h
theorem file_len {F : Fi} (h : F.ok) : F.now.length ≤ 16777216 := by
  have h1 := (h.2.front F.wait.length).len
  rw [List.take_length, ← h.1] at h1
  exact h1
/-- How many bytes a call answers. -/
theorem stepM_len {M : Me} (hfo : ∀ gf F, M.fs gf = some F → F.ok) (x : Call) (gf : Nat) (o : Option Nat) : (stepM M x gf o).1.1.length ≤ 16777216 := by
  have hr : (opRead M x.s x.nn x.mm).1.length ≤ 16777216 := by
    unfold opRead
    cases hf : M.find x.s with
    | inl E => exact Nat.zero_le _
    | inr q =>
      obtain ⟨gf, F⟩ := q
      have h1 := file_len (hfo gf F (Me.find_fs hf).1)
      dsimp only
      split
      · exact Nat.zero_le _
      · split
        · exact Nat.zero_le _
        · show ((F.now.drop _).take _).length ≤ _
          rw [List.length_take, List.length_drop]
          omega
  unfold stepM
  by_cases e0 : x.k = 0
  · rw [if_pos e0]; exact Nat.zero_le _
  rw [if_neg e0]
  by_cases e1 : x.k = 1
  · rw [if_pos e1]; exact Nat.zero_le _
  rw [if_neg e1]
  by_cases e2 : x.k = 2
  · rw [if_pos e2]; exact Nat.zero_le _
  rw [if_neg e2]
  by_cases e3 : x.k = 3
  · rw [if_pos e3]; exact Nat.zero_le _
  rw [if_neg e3]
  by_cases e4 : x.k = 4
  · rw [if_pos e4]; exact Nat.zero_le _
  rw [if_neg e4]
  by_cases e5 : x.k = 5
  · rw [if_pos e5]; exact Nat.zero_le _
  rw [if_neg e5]
  by_cases e6 : x.k = 6
  · rw [if_pos e6]; exact Nat.zero_le _
  rw [if_neg e6]
  by_cases e7 : x.k = 7
  · rw [if_pos e7]; exact Nat.zero_le _
  rw [if_neg e7]
  by_cases e8 : x.k = 8
  · rw [if_pos e8]; exact Nat.zero_le _
  rw [if_neg e8]
  by_cases e9 : x.k = 9
  · rw [if_pos e9]; exact Nat.zero_le _
  rw [if_neg e9]
  by_cases e10 : x.k = 10
  · rw [if_pos e10]; exact Nat.zero_le _
  rw [if_neg e10]
  exact hr
/-- What holds between calls. -/
def MP (w5 wr : World) (base base2 g dk : Nat) (own0 : Own) (dow0 : DOwn) (i : Nat) : Prop :=
  ∃ (own : Own) (dow : DOwn) (M : Me) (D : Dk) (φ : Nat → Nat), MedI wr base own g M ∧ DiskI wr base2 dow dk D ∧ M.good i ∧ M.Fr ∧ M.Nms ∧ Sim φ M D ∧ (∀ b, b < w5.heap.size → own b = own0 b) ∧ (∀ b, b < w5.heap.size → dow b = dow0 b) ∧ (∀ b, own b ≠ none → dow b = none) ∧ Chg w5 wr (fun b => own0 b ≠ none ∨ dow0 b ≠ none)
theorem DiskI.dom {w : World} {base dk : Nat} {own : DOwn} {D : Dk} (h : DiskI w base own dk D) : ∀ b, own b ≠ none → base ≤ b ∧ b < w.heap.size := by
  obtain ⟨fv, fcs, A, n, c, A2, n2, c2, wv, h⟩ := h
  exact h.dom
theorem Sim.short {φ : Nat → Nat} {M : Me} {D : Dk} (h : Sim φ M D) (hn : M.Nms) : ∀ p ∈ D.now, p.1.length ≤ 30 := by
  intro p hp
  have h1 : (p.1, φ p.2) ∈ M.now := by
    rw [h.now]
    exact List.mem_map.2 ⟨p, hp, rfl⟩
  have : (p.1, φ p.2).1.length ≤ 24 := hn.now (p.1, φ p.2) h1
  dsimp only at this
  omega
/-- Behind a call on both sides. -/
theorem MP.next {w5 wr w7 w8 : World} {base base2 g dk i : Nat} {own0 own : Own} {dow0 dow : DOwn} {M M' : Me} {D D' : Dk} {φ : Nat → Nat}
    (med : MedI wr base own g M) (dsk : DiskI wr base2 dow dk D) (ag : ∀ b, b < w5.heap.size → own b = own0 b) (dg : ∀ b, b < w5.heap.size → dow b = dow0 b) (ap : ∀ b, own b ≠ none → dow b = none) (cg : Chg w5 wr (fun b => own0 b ≠ none ∨ dow0 b ≠ none))
    (hl : Left wr w7 base g own M') (hd : DLeft w7 w8 base2 dk dow D') (hg : M'.good (i + 1)) (hfr : M'.Fr) (hnm : M'.Nms) (hs : Sim φ M' D') : MP w5 w8 base base2 g dk own0 dow0 (i + 1) := by
  obtain ⟨c1, own', ho, m1⟩ := hl
  obtain ⟨c2, dow', hdo, d2⟩ := hd
  have hdd := dsk.dom
  have e1 : ∀ b, dow b ≠ none → own' b = none := by
    intro b hb
    have hlt := (hdd b hb).2
    rw [ho b hlt]
    cases hq : own b with
    | none => rfl
    | some q => exact absurd (ap b (by rw [hq]; simp)) hb
  refine ⟨own', dow', M', D', φ, m1.keep c2 e1, d2, hg, hfr, hnm, hs, fun b hb => ?_, fun b hb => ?_, fun b hb => ?_, ?_⟩
  · rw [ho b (Nat.lt_of_lt_of_le hb cg.size)]
    exact ag b hb
  · rw [hdo b (Nat.lt_of_lt_of_le hb (Nat.le_trans cg.size c1.size))]
    exact dg b hb
  · have hlt := (m1.dom b hb).2
    rw [hdo b hlt]
    cases hq : dow b with
    | none => rfl
    | some q => exact absurd (e1 b (by rw [hq]; simp)) hb
  · refine (cg.trans c1 (fun b hb h => ?_)).trans c2 (fun b hb h => ?_)
    · rw [ag b hb] at h
      exact .inl h
    · rw [dg b hb] at h
      exact .inr h
theorem MP.still {w5 wr w' : World} {base base2 g dk i : Nat} {own0 : Own} {dow0 : DOwn} (h : MP w5 wr base base2 g dk own0 dow0 i) (s : Still wr w') : MP w5 w' base base2 g dk own0 dow0 i := by
  obtain ⟨own, dow, M, D, φ, a, b, c, d, e, f, g1, g2, g3, g4⟩ := h
  exact ⟨own, dow, M, D, φ, a.still s, b.still s, c, d, e, f, g1, g2, g3, g4.trans (Chg.of_still s (fun _ => False)) (fun _ _ h => h.elim)⟩
/-- What both sides tell of whether a name is there. -/
theorem Sim.there {φ : Nat → Nat} {M : Me} {D : Dk} (h : Sim φ M D) (s : ByteArray) : ∃ (E f : Int), (M.bytes s).2 = E ∧ dFind D.now s.data.toList = f ∧ ((D.off = true ∧ E = 12) ∨ (D.off = false ∧ E = 9 ∧ f = -1) ∨ (D.off = false ∧ E = 0 ∧ 0 ≤ f)) := by
  refine ⟨_, _, rfl, rfl, ?_⟩
  unfold Me.bytes
  rcases h.look s with ⟨a, e⟩ | ⟨a, e, c⟩ | ⟨f, F, G, a, e, c, d, g, hf, q⟩
  · rw [e]; exact .inl ⟨a, rfl⟩
  · rw [c]; exact .inr (.inl ⟨a, rfl, dFind_no e⟩)
  · rw [q]; exact .inr (.inr ⟨a, rfl, by rw [dFind_at e]; omega⟩)
end Go.Proofs.YtljacdbdjacbkaaGreat

/- Numbers that came in, as rows that read. It proves no statement. -/


namespace Go.Proofs.YtljacdbdjacbkaaGreat
open Go.RowKit Go.Maps Go.WideMaps
set_option linter.unusedVariables false
set_option linter.unusedSimpArgs false

theorem readsI_of_row {w : World} {a : Option Addr} {len cap : Nat} {zs : List Int} (h : RowIn .i64 w a len cap zs) : ∃ ys, ReadsI w (fun b => b < w.heap.size) a len ys ∧ len ≤ cap ∧ cap ≤ 9223372036854775807 ∧ (a = none → len = 0 ∧ cap = 0) := by
  rcases h with ⟨rfl, rfl, rfl, rfl⟩ | ⟨x, rfl, hl, hm, hz, hc, hw⟩
  · exact ⟨[], ⟨rfl, fun h => absurd h (by omega)⟩, by omega, by omega, fun _ => ⟨rfl, rfl⟩⟩
  · refine ⟨zs.take len, ⟨by simp; omega, fun hn => ?_⟩, hl, by unfold maxLen at hm; omega, fun e => by cases e⟩
    obtain ⟨b, o, sp⟩ := x
    have h0 := hc 0 (by omega)
    have hsp : sp = none := by simpa [Addr.add] using World.cell?_spot h0
    subst hsp
    have hbl : b < w.heap.size := by simpa [Addr.add] using World.block_lt_of_cell? w _ h0
    refine ⟨b, o, rfl, hbl, hbl, fun i hi => ?_⟩
    have hi' := hc i (by omega)
    rw [Addr.add_lit] at hi'
    rw [hi']
    simp [List.getD, hi, show i < zs.length by omega]
theorem ReadsI.front {w : World} {B : Nat → Prop} {n k : Nat} {A : Option Addr} {zs : List Int} (h : ReadsI w B A n zs) (hk : k ≤ n) : ReadsI w B A k (zs.take k) := by
  refine ⟨by rw [List.length_take, h.1]; omega, fun hk0 => ?_⟩
  obtain ⟨b, o, e, hb, hbl, hc⟩ := h.2 (by omega)
  refine ⟨b, o, e, hb, hbl, fun i hi => ?_⟩
  rw [hc i (by omega)]
  have hz := h.1
  simp [List.getD, List.getElem?_take, hi]
end Go.Proofs.YtljacdbdjacbkaaGreat
