/- Contracts and facts, several texts in one. It proves no statement. -/
import Derived.Test.YtfneloobfidckaaGreatDoorSf40
import Derived.Test.YtfneloobfidckaaGreatDoorSf26

/- The program's Scan: which entries a segment has. It proves no statement. -/



namespace Go.Proofs.YtfneloobfidckaaGreatDoor
open Go.RowKit
set_option linter.unusedVariables false
set_option linter.unusedSimpArgs false

/-- An entry found. -/
structure Fo where
  t : Int
  K : List UInt8
  D : List UInt8
  at_ : Nat
  n : Nat
/-- A row of entries found: each with a row of its own for its data. -/
def HasF (W : World) (B : Nat) : List Fo → List Value → Prop
  | [], xs => xs = []
  | f :: F, xs => ∃ v ys, xs = foL f.t f.K v f.at_ f.n ++ ys ∧ f.K.length = 32 ∧ W.ownsRow B 5 1 v f.D.length (bytesV f.D) ∧ HasF W B F ys
theorem HasF.keep {W W' : World} {B : Nat} (hk : ∀ v n l, W.ownsRow B 5 1 v n (bytesV l) → W'.ownsRow B 5 1 v n (bytesV l)) : ∀ (F : List Fo) (xs : List Value), HasF W B F xs → HasF W' B F xs
  | [], _, h => h
  | f :: F, xs, ⟨v, ys, h1, h2, h3, h4⟩ => ⟨v, ys, h1, h2, hk _ _ _ h3, HasF.keep hk F ys h4⟩
theorem HasF.snoc {W : World} {B : Nat} (f : Fo) (v : Value) (hK : f.K.length = 32) (ho : W.ownsRow B 5 1 v f.D.length (bytesV f.D)) : ∀ (F : List Fo) (xs : List Value), HasF W B F xs → HasF W B (F ++ [f]) (xs ++ foL f.t f.K v f.at_ f.n)
  | [], xs, h => by
    have h0 : xs = [] := h
    subst h0
    exact ⟨v, [], by simp, hK, ho, rfl⟩
  | g :: F, xs, ⟨u, ys, h1, h2, h3, h4⟩ => ⟨u, ys ++ foL f.t f.K v f.at_ f.n, by rw [h1, List.append_assoc], h2, h3, HasF.snoc f v hK ho F ys h4⟩
/-- Rows of different kinds lie in different blocks. -/
theorem own_apartF {W W' : World} {B B' n n' z z' : Nat} {e e' : TypeId} {v v' : Value} {xs xs' : List Value} (h : W.ownsRow B e z v n xs) (h' : W.ownsRow B' e' z' v' n' xs') (ne : e ≠ e') (gr : W.grownBy W' v'.ownBlock) : W'.ownsRow B e z v n xs := by
  refine h.kept (row := v'.ownBlock) gr ?_
  rcases h.2 with ⟨rfl, _⟩ | ⟨g, cap, cur, rfl, _, hg, _⟩
  · exact .inl rfl
  · refine .inr (fun q => ?_)
    rcases h'.2 with ⟨rfl, _⟩ | ⟨g', cap', cur', rfl, _, hg', _⟩
    · cases q
    · have q' : g = g' := by simpa [Value.ownBlock] using q
      subst q'
      rw [hg] at hg'
      simp only [Option.some.injEq, Obj.cells.injEq] at hg'
      exact ne hg'.2.1
/-- What is found from a place on. -/
def fo (l : List UInt8) (a : Nat) : Fo := ⟨rdT (l.drop a), rdK (l.drop a), rdD (l.drop a), a, rdN (l.drop a)⟩
def scF (l : List UInt8) : Nat → Nat → List Fo × Nat × Int
  | 0, a => ([], a, 0)
  | k + 1, a => if a < l.length then (if rdE (l.drop a) = 0 then (fo l a :: (scF l k (a + rdN (l.drop a))).1, (scF l k (a + rdN (l.drop a))).2) else ([], a, rdE (l.drop a))) else ([], a, 0)
theorem scF_end (l : List UInt8) (k a : Nat) (h : ¬ a < l.length) : scF l k a = ([], a, 0) := by
  cases k with
  | zero => rfl
  | succ k => unfold scF; rw [if_neg h]
theorem scF_bad (l : List UInt8) (k a : Nat) (h : a < l.length) (hk : l.length - a ≤ k) (he : rdE (l.drop a) ≠ 0) : scF l k a = ([], a, rdE (l.drop a)) := by
  cases k with
  | zero => omega
  | succ k => unfold scF; rw [if_pos h, if_neg he]
theorem scF_ok (l : List UInt8) (k a : Nat) (h : a < l.length) (he : rdE (l.drop a) = 0) : scF l (k + 1) a = (fo l a :: (scF l k (a + rdN (l.drop a))).1, (scF l k (a + rdN (l.drop a))).2) := by
  rw [scF, if_pos h, if_pos he]
def magic : List UInt8 := [72, 79, 65, 82, 68, 83, 69, 71]
/-- Scan's answer. -/
def scanR (l : List UInt8) : List Fo × Nat × Int := if 8 ≤ l.length ∧ l.take 8 = magic then scF l l.length 8 else ([], 0, 4)
theorem rdN_fit {l : List UInt8} (h : rdE l = 0) : 9 ≤ rdN l ∧ rdN l ≤ l.length := by
  have h1 := toE_ok (rdE_told h)
  unfold rdN
  rw [if_pos h]
  omega

/-- What stands while Scan walks. -/
structure ScMid (w W : World) (l : List UInt8) (lv : Value) (a : Nat) : Prop where
  ex : ∃ (F : List Fo) (xs : List Value) (k : Nat), W.ownsRow w.heap.size 83 36 lv F.length xs ∧ HasF W w.heap.size F xs ∧ F.length ≤ a ∧ l.length - a ≤ k ∧ scF l l.length 8 = (F ++ (scF l k a).1, (scF l k a).2)
  still : Still w W

set_option maxRecDepth 100000 in
set_option maxHeartbeats 6400000 in
theorem scan_any (A : Option Addr) (n c : Nat) (l : List UInt8) (w : World) (B : Nat) (hr : Reads w B A n l) (hB : B ≤ w.heap.size) (hn : n ≤ 1048576) (hc : n ≤ c) (hcm : c ≤ 9223372036854775807) (T : Tabs w) :
    Calls Tryz.prog 42 #[.slice A n c] w fun e w' => (∃ lv xs, e = .returned (.tuple #[lv, .int .i64 ((scanR l).2.1 : Nat), .int .i64 (scanR l).2.2]) ∧ w'.ownsRow w.heap.size 83 36 lv (scanR l).1.length xs ∧ HasF w' w.heap.size (scanR l).1 xs) ∧ Still w w' := by
  have hlen := hr.1
  have kc := fun (w : World) (C : Array Value) (n c : Nat) => Lib.run_convert_bytes_const (P := Tryz.prog) w 42 5 C n c Tryz.underlying42 Tryz.underlying5
  have TT := Lib.hid (fun W (s : Still w W) => T.still s)
  have RR := Lib.hid (fun W (s : Still w W) => hr.still hB s)
  have FC := Lib.hid (show n ≤ 1048576 ∧ n ≤ c ∧ c ≤ 9223372036854775807 ∧ B ≤ w.heap.size ∧ l.length = n from ⟨hn, hc, hcm, hB, hlen⟩)
  have PF := Lib.hid (fun W (s : Still w W) A' c' B' (h' : Reads W B' A' 8 magic) => prefix_any A A' n c c' l magic W B B' (RR.out W s) h' hc hcm)
  clear hr T hlen
  go_enter Tryz.func42, Tryz.ntmps42
  go_wp2_with fail
  refine (PF.out _ ((Below.refl _ _).alloc (Nat.le_refl _) _) _ _ _ (const_reads w magic (8, 9))).mono ?_
  rintro e w1 ⟨rfl, hw1⟩
  have S1 := Lib.hid (show Still w w1 by rw [← hw1]; exact (Below.refl _ _).alloc (Nat.le_refl _) _)
  clear hw1 PF kc
  by_cases hm : 8 ≤ n ∧ l.take 8 = magic
  · have hs0 : scanR l = scF l l.length 8 := by unfold scanR; rw [if_pos (by rw [FC.out.2.2.2.2]; exact hm)]
    have HS := Lib.hid hs0
    rw [show decide (8 ≤ n ∧ l.take 8 = magic) = true by simpa using hm]
    have N8 := Lib.hid hm.1
    have dc : n ≤ c := hc
    clear hs0 hm hc hcm
    obtain ⟨fs, hu⟩ := underEnt
    have HU := Lib.hid hu
    clear hu
    go_wp2_with fail
    go_loopw [5, 6] (fun lx iv wr => ∃ (a : Nat) (lv : Value), lv = lx ∧ iv = .int .i64 a ∧ 8 ≤ a ∧ a ≤ n ∧ Hid (ScMid w wr l lv a)) (fun _ iv _ => n - (intOf iv).toNat)
    case atStart => exact ⟨8, _, rfl, rfl, Nat.le_refl _, N8.out, { ex := ⟨[], [], l.length, World.ownsRow_nil _ _ _ _, rfl, by simp, by omega, by simp⟩, still := S1.out }⟩
    case round =>
      obtain ⟨a, lv, hlv, rfl, ha8, han, hin⟩ := hrel
      subst hlv
      by_cases hlt : a < n
      · have d1 : (a : Int) < (n : Int) := by omega
        have d2 : (a : Int) ≤ (n : Int) := by omega
        have d3 : (a : Int) ≤ (c : Int) := by omega
        have d4 : (n : Int) ≤ (c : Int) := by omega
        obtain ⟨b, o, rfl, hb, _⟩ := (RR.out wr hin.out.still).at_ (by omega)
        have rd : Reads wr B (some ⟨b, o + a, none⟩) (n - a) (l.drop a) := by have h := (RR.out wr hin.out.still).dropk (k := a) (by omega); simpa [Addr.add_lit] using h
        have RD := Lib.hid (read_any (some ⟨b, o + a, none⟩) (n - a) (c - a) (l.drop a) wr B rd (Nat.le_trans FC.out.2.2.2.1 hin.out.still.size) (by omega) (by omega) (by have := FC.out; omega) (TT.out wr hin.out.still))
        have LL := Lib.hid (show (l.drop a).length = n - a from rd.1)
        clear rd hb
        go_wp2_with fail
        refine RD.out.mono ?_
        rintro e w2 ⟨⟨v2, rfl, own2⟩, s2⟩
        have KL := Lib.hid (rdK_len (l.drop a))
        have FIT := Lib.hid (fun (h : rdE (l.drop a) = 0) => rdN_fit h)
        have FO := Lib.hid (show fo l a = ⟨rdT (l.drop a), rdK (l.drop a), rdD (l.drop a), a, rdN (l.drop a)⟩ from rfl)
        obtain ⟨F, xs, k, oF, hF, hFa, hka, hsc⟩ := hin.out.ex
        have BAD := Lib.hid (fun (h : rdE (l.drop a) ≠ 0) => (show scF l l.length 8 = (F, a, rdE (l.drop a)) by rw [hsc, scF_bad l k a (by have := FC.out; omega) hka h]; simp))
        have OK := Lib.hid (fun (h : rdE (l.drop a) = 0) => (show ∃ k', l.length - (a + rdN (l.drop a)) ≤ k' ∧ scF l l.length 8 = ((F ++ [fo l a]) ++ (scF l k' (a + rdN (l.drop a))).1, (scF l k' (a + rdN (l.drop a))).2) by
          obtain ⟨k', rfl⟩ : ∃ k', k = k' + 1 := ⟨k - 1, by have := FC.out; omega⟩
          refine ⟨k', by have := rdN_fit h; omega, ?_⟩
          rw [hsc, scF_ok l k' a (by have := FC.out; omega) h]
          simp))
        generalize rdT (l.drop a) = t at *
        generalize rdK (l.drop a) = K at *
        generalize rdD (l.drop a) = D at *
        generalize rdN (l.drop a) = N at *
        generalize rdE (l.drop a) = E at *
        have KL' : Hid (K.length = 32) := KL
        have V2 := Lib.hid (show v2.oneCell' = true by rcases own2.2 with ⟨h, _⟩ | ⟨_, _, _, h, _⟩ <;> (rw [h]; rfl))
        have VF2 := Lib.hid (show ∃ A n c, v2 = Value.slice A n c by obtain ⟨A, c, h, _⟩ := own_form own2; exact ⟨_, _, _, h⟩)
        obtain ⟨gx, hgx⟩ : ∃ gx, gx = w2.heap.size := ⟨_, rfl⟩
        obtain ⟨w3, hw3⟩ : ∃ w3, w3 = (w2.alloc (.cells #[.int .i64 0, .int .u8 0, .int .u8 0, .int .u8 0, .int .u8 0, .int .u8 0, .int .u8 0, .int .u8 0, .int .u8 0, .int .u8 0, .int .u8 0, .int .u8 0, .int .u8 0, .int .u8 0, .int .u8 0, .int .u8 0, .int .u8 0, .int .u8 0, .int .u8 0, .int .u8 0, .int .u8 0, .int .u8 0, .int .u8 0, .int .u8 0, .int .u8 0, .int .u8 0, .int .u8 0, .int .u8 0, .int .u8 0, .int .u8 0, .int .u8 0, .int .u8 0, .int .u8 0, .slice none 0 0] 44)).setRow w2.heap.size (entV t K v2) := ⟨_, rfl⟩
        have s23 : Still w2 w3 := by rw [hw3]; exact below_setRow ((Still.refl w2).alloc (Nat.le_refl _) _) (Nat.le_refl _) _
        have B3 := Lib.hid (show Blk w3 gx 44 (entV t K v2) by rw [hw3, hgx]; exact setRow_heap _ _ _ _ _ _ (heap_alloc_new w2 _))
        have SR3 := Lib.hid (show Still wr w3 from Still.trans s2 s23)
        have SW3 := Lib.hid (show Still w w3 from Still.trans hin.out.still (Still.trans s2 s23))
        have O3 := Lib.hid (show w3.ownsRow w.heap.size 5 1 v2 D.length (bytesV D) from own_rebase0 (own_still own2 s23) hin.out.still.size)
        have OF3 := Lib.hid (show w3.ownsRow w.heap.size 83 36 lv F.length xs from oF.kept (row := none) (grown_still0 SR3.out) (by cases lv.ownBlock <;> simp))
        have HF3 := Lib.hid (show HasF w3 w.heap.size F xs from HasF.keep (fun v n l h => own_still h SR3.out) F xs hF)
        have FA := Lib.hid hFa
        have HW3 := Lib.hid hw3
        have HGX := Lib.hid hgx
        have HAN := Lib.hid hlt
        have HA8 := Lib.hid ha8
        clear RD own2 s2 s23 hw3 hgx oF hF hFa hka hsc KL hin d2 d3 d4 dc han ha8
        go_upto_region 7 with (guard_target =~ wpList _ _ _ (Oper.mk none (Op.store _ _ _) _ _ _ _ :: _) _ _; go_must (refine wpList_store_rowTo rfl 44 (.tmp 7) (.tmp 24) rfl rfl w2.heap.size (entV t K v2) (by kernel_rfl) (by kernel_rfl) 44 _ (heap_alloc_new w2 _) (by rw [sizeEnt, entV_size _ _ _ KL'.out]) (by rw [entV_size _ _ _ KL'.out]; rfl) (entV_one _ _ _ V2.out) ?_))
        rw [← HW3.out, ← HGX.out]
        clear HW3
        by_cases hE : E = 0
        · obtain ⟨k', hk', hsc'⟩ := OK.out hE
          have hfit := FIT.out hE
          rw [LL.out] at hfit
          subst hE
          have i1 : IntKind.i64.wrap ((a : Int) + (N : Int)) = ((a + N : Nat) : Int) := by rw [IntKind.wrap_i64]; have := FC.out; omega
          obtain ⟨w4, hw4⟩ : ∃ w4, w4 = w3.alloc (.cells (foV t K v2 (a : Int) (N : Int)) 83) := ⟨_, rfl⟩
          obtain ⟨gy, hgy⟩ : ∃ gy, gy = w3.heap.size := ⟨_, rfl⟩
          have S34 := Lib.hid (show Still w3 w4 by rw [hw4]; exact (Still.refl w3).alloc (Nat.le_refl _) _)
          have B4 := Lib.hid (show Blk w4 gy 83 (foV t K v2 (a : Int) (N : Int)) by rw [hw4, hgy]; exact Blk.new _ _ _)
          have OF4 := Lib.hid (show w4.ownsRow w.heap.size 83 36 lv F.length xs from OF3.out.kept (row := none) (grown_still0 S34.out) (by cases lv.ownBlock <;> simp))
          have HW4 := Lib.hid hw4
          have HGY := Lib.hid hgy
          have SC' := Lib.hid (And.intro hk' hsc')
          have HFIT := Lib.hid hfit
          have SW4 := Lib.hid (show Still w w4 from Still.trans SW3.out S34.out)
          clear hw4 hgy hk' hsc' hfit BAD OK FIT
          go_wp2_with (first
            | (guard_target =~ wpList _ _ _ (Oper.mk (some 33) _ _ _ _ _ :: _) _ _; go_must (refine wpList_load_row rfl 44 (.tmp 7) rfl gx rfl _ _ _ _ B3.out HU.out rfl (by rw [sizeEnt, entV_size _ _ _ KL'.out]) ?_))
            | (guard_target =~ wpList _ _ _ (Oper.mk (some 36) _ _ _ _ _ :: _) _ _; go_must (refine wpList_buildF w3 rfl (.tmp 33) (.tmp 34) (.tmp 35) rfl t K KL'.out v2 VF2.out (a : Int) (N : Int) rfl rfl rfl ?_))
            | (guard_target =~ wpList _ _ _ (Oper.mk (some 37) _ _ _ _ _ :: _) _ _; go_must (refine wpList_boxF w3 rfl (.tmp 36) rfl t K KL'.out v2 VF2.out (a : Int) (N : Int) rfl ?_; rw [← HW4.out, ← HGY.out]))
            | (guard_target =~ wpList _ _ _ (Oper.mk (some 38) _ _ _ _ _ :: _) _ _; go_must (refine wpList_pushF w4 rfl (.tmp 32) (.tmp 37) rfl w.heap.size lv F.length xs rfl OF4.out gy (foL t K v2 (a : Int) (N : Int)) rfl (fun q u hq => (B4.out.cell q).trans (by unfold foV; rw [List.getElem?_toArray]; exact hq)) (foL_len _ _ _ _ _ KL'.out) (foL_one _ _ _ _ _ V2.out) (by have := FA.out; have := HAN.out; have := FC.out; omega) SW4.out.size ?_)))
          intro v5 w5 own5 gr5 loc5
          have MID := Lib.hid (show ScMid w w5 l v5 (a + N) from
            { ex := ⟨F ++ [fo l a], xs ++ foL t K v2 (a : Int) (N : Int), k', by simpa using own5, by
                have k5 : ∀ v n l, w3.ownsRow w.heap.size 5 1 v n (bytesV l) → w5.ownsRow w.heap.size 5 1 v n (bytesV l) := fun v n l h => own_apartF (own_still h S34.out) OF4.out (by decide) gr5
                rw [FO.out]
                exact HasF.snoc ⟨t, K, D, a, N⟩ v2 KL'.out (k5 _ _ _ O3.out) F xs (HasF.keep k5 F xs HF3.out), by
                have := FA.out; have := HFIT.out; simp; omega, SC'.out.1, SC'.out.2⟩
              still := SW4.out.grown gr5 SW4.out.size (fun k hk => (OF4.out.lt k hk).1) })
          clear own5 gr5 loc5 B3 B4 OF3 OF4 HF3 O3 HW4 S34 SW4 SC' FA
          go_wp2_with fail
          go_roundw
          case rel => exact ⟨a + N, _, rfl, by go_num, by have := HA8.out; omega, by have := HFIT.out; have := HAN.out; omega, MID.out⟩
          case measure => simp [intOf]; have := HFIT.out; have := HAN.out; omega
        · have b0 : (E == 0) = false := by simpa using hE
          have b1 : (E != 0) = true := by simpa using hE
          have hbad := BAD.out hE
          have FIN := Lib.hid (show (scanR l).1 = F ∧ (scanR l).2.1 = a ∧ (scanR l).2.2 = E by rw [HS.out, hbad]; exact ⟨rfl, rfl, rfl⟩)
          clear hbad hE BAD OK FIT B3
          go_wp2_with fail
          go_ret3
          obtain ⟨e1, e2, e3⟩ := FIN.out
          rw [e1, e2, e3]
          exact ⟨⟨lv, xs, rfl, OF3.out, HF3.out⟩, SW3.out⟩
      · obtain rfl : a = n := by omega
        obtain ⟨F, xs, k, oF, hF, hFa, hka, hsc⟩ := hin.out.ex
        have FIN := Lib.hid (show (scanR l).1 = F ∧ (scanR l).2.1 = a ∧ (scanR l).2.2 = 0 by
          rw [HS.out, hsc, scF_end l k a (by have := FC.out; omega)]
          exact ⟨by simp, rfl, rfl⟩)
        have OF := Lib.hid oF
        have HF := Lib.hid hF
        have SW := Lib.hid hin.out.still
        clear oF hF hFa hka hsc hin
        go_wp2_with fail
        go_ret3
        obtain ⟨e1, e2, e3⟩ := FIN.out
        rw [e1, e2, e3]
        exact ⟨⟨lv, xs, rfl, OF.out, HF.out⟩, SW.out⟩
  · have hs0 : scanR l = ([], 0, 4) := by unfold scanR; rw [if_neg (by rw [FC.out.2.2.2.2]; exact hm)]
    rw [show decide (8 ≤ n ∧ l.take 8 = magic) = false by simpa using hm]
    have HS := Lib.hid hs0
    clear hm hs0
    go_wp2_with fail
    go_ret3
    rw [HS.out]
    exact ⟨⟨.slice none 0 0, [], rfl, World.ownsRow_nil _ _ _ _, rfl⟩, S1.out⟩
end Go.Proofs.YtfneloobfidckaaGreatDoor

/- What is encoded is read as it was, whatever stands behind; a front of it is too short: on lists of bytes. It proves no statement. -/


namespace Go.Proofs.YtfneloobfidckaaGreatDoor
open Go.RowKit
set_option linter.unusedVariables false
set_option linter.unusedSimpArgs false

theorem leNum_le (x n : Nat) : leNum (leBytes x n) = x % 2 ^ (8 * n) := by
  induction n with
  | zero => simp [leBytes, leNum, Nat.mod_one]
  | succ n ih =>
    rw [leBytes_succ, leNum_snoc, ih, leBytes_length]
    simp only [UInt8.toNat_ofNat']
    rw [show 8 * (n + 1) = 8 * n + 8 by omega, Nat.pow_add, Nat.mod_mul, Nat.mul_comm (x / 2 ^ (8 * n) % 2 ^ 8)]
section
variable {t : Int} {K D R : List UInt8}
theorem bytE_tag (t : Int) (K D R : List UInt8) (ht : 0 ≤ t ∧ t ≤ 2) : tagE (bytE t K D ++ R) = t.toNat := by
  unfold tagE bytE bodE
  have h : ((leBytes (crcSum (leBytes (szE t K D.length) 4 ++ ([UInt8.ofNat t.toNat] ++ (keyE t K ++ D)))) 4 ++ (leBytes (szE t K D.length) 4 ++ ([UInt8.ofNat t.toNat] ++ (keyE t K ++ D)))) ++ R).getD 8 0 = UInt8.ofNat t.toNat := by
    generalize crcSum _ = q
    generalize szE t K D.length = z
    rw [List.getD_eq_getElem?_getD, List.append_assoc, List.getElem?_append_right (by rw [leBytes_length]; omega), leBytes_length, List.append_assoc, List.getElem?_append_right (by rw [leBytes_length]; omega), leBytes_length]
    rfl
  rw [h]
  simp
  omega
theorem bytE_size (hK : K.length = 32) (h : ckE t K D.length = 0) : sizE (bytE t K D ++ R) = szE t K D.length := by
  have hz := szE_len hK h
  unfold sizE
  have e : ((bytE t K D ++ R).drop 4).take 4 = leBytes (szE t K D.length) 4 := by
    unfold bytE
    rw [List.append_assoc, List.drop_left' (leBytes_length _ _)]
    unfold bodE
    rw [List.append_assoc, List.take_left' (leBytes_length _ _)]
  rw [e, leNum_le]
  omega
theorem tag_range (h : ckE t K D.length = 0) : 0 ≤ t ∧ t ≤ 2 := by
  rcases ckE_zero h with h | h | h <;> omega
theorem fit_yes (hK : K.length = 32) (h : ckE t K D.length = 0) : fitE t.toNat (szE t K D.length) = true := by
  have hs : szE t K D.length = if t = 2 then 9 else 41 + D.length := by unfold szE; rw [if_neg (by rw [h]; decide)]
  rw [hs]
  unfold fitE
  rcases ckE_zero h with ⟨rfl, h2⟩ | ⟨rfl, h2⟩ | ⟨rfl, h2, _⟩
  · rw [if_neg (by decide : ¬ (0 : Int) = 2), if_pos (by rfl)]
    simp
    omega
  · rw [if_neg (by decide : ¬ (1 : Int) = 2), if_neg (by decide), if_pos (by rfl), h2]
    rfl
  · rw [if_pos rfl, if_neg (by decide), if_neg (by decide), if_pos (by rfl)]
    rfl
theorem told_back (hK : K.length = 32) (h : ckE t K D.length = 0) : (toE (bytE t K D ++ R)).2 = 0 := by
  have hz := szE_len hK h
  unfold toE
  rw [bytE_size hK h, bytE_tag _ _ _ _ (tag_range h), fit_yes hK h, List.length_append, hz.1, if_neg (by omega), if_neg (by simp), if_neg (by omega)]
theorem rd_back (hK : K.length = 32) (h : ckE t K D.length = 0) :
    rdE (bytE t K D ++ R) = 0 ∧ rdT (bytE t K D ++ R) = t ∧ rdK (bytE t K D ++ R) = K ∧ rdD (bytE t K D ++ R) = D ∧ rdN (bytE t K D ++ R) = (bytE t K D).length := by
  have hz := szE_len hK h
  have ht := tag_range h
  have e1 : (bytE t K D ++ R).take (szE t K D.length) = bytE t K D := List.take_left' hz.1
  have e2 : (bytE t K D).drop 4 = bodE t K D := by unfold bytE; exact List.drop_left' (leBytes_length _ _)
  have e3 : (bytE t K D ++ R).take 4 = leBytes (crcSum (bodE t K D)) 4 := by unfold bytE; rw [List.append_assoc, List.take_left' (leBytes_length _ _)]
  have hE : rdE (bytE t K D ++ R) = 0 := by
    unfold rdE
    rw [if_neg (by rw [told_back hK h]; decide), bytE_size hK h, e1, e2, e3, leNum_le, if_pos]
    have : crcSum (bodE t K D) < 2 ^ 32 := crcAdd_lt 0 _ (by decide)
    omega
  have kd : (keyR t.toNat (bytE t K D) = K) ∧ datR t.toNat (bytE t K D) = D := by
    unfold keyR datR
    by_cases h2 : t = 2
    · rcases ckE_zero h with h' | h' | ⟨_, h3, h4⟩
      · omega
      · omega
      · rw [if_pos (by rw [h2]; rfl), if_pos (by rw [h2]; rfl)]
        exact ⟨h4.symm, (List.eq_nil_of_length_eq_zero h3).symm⟩
    · rw [if_neg (by omega), if_neg (by omega)]
      have e9 : (bytE t K D).drop 9 = K ++ D := by
        have : bytE t K D = (leBytes (crcSum (bodE t K D)) 4 ++ (leBytes (szE t K D.length) 4 ++ [UInt8.ofNat t.toNat])) ++ (K ++ D) := by
          unfold bytE
          conv => lhs; rhs; unfold bodE
          unfold keyE
          rw [if_neg h2]
          simp [List.append_assoc]
        rw [this]
        exact List.drop_left' (by simp [leBytes_length])
      refine ⟨by rw [e9]; exact List.take_left' hK, ?_⟩
      have : (bytE t K D).drop 41 = ((bytE t K D).drop 9).drop 32 := by rw [List.drop_drop]
      rw [this, e9]
      exact List.drop_left' hK
  refine ⟨hE, ?_, ?_, ?_, ?_⟩
  · unfold rdT
    rw [if_pos hE, bytE_tag _ _ _ _ ht]
    omega
  · unfold rdK
    rw [if_pos hE, bytE_tag _ _ _ _ ht, bytE_size hK h, e1]
    exact kd.1
  · unfold rdD
    rw [if_pos hE, bytE_tag _ _ _ _ ht, bytE_size hK h, e1]
    exact kd.2
  · unfold rdN
    rw [if_pos hE, bytE_size hK h, hz.1]
/-- All but the last byte of an entry: too short. -/
theorem rd_front (hK : K.length = 32) (h : ckE t K D.length = 0) : rdE ((bytE t K D).take ((bytE t K D).length - 1)) = 3 ∧ rdN ((bytE t K D).take ((bytE t K D).length - 1)) = 0 := by
  have hz := szE_len hK h
  obtain ⟨l, hl⟩ : ∃ l, l = (bytE t K D).take ((bytE t K D).length - 1) := ⟨_, rfl⟩
  have hlen : l.length = szE t K D.length - 1 := by rw [hl, List.length_take, hz.1]; omega
  have hE : rdE l = 3 := by
    have ht : (toE l).2 = 3 := by
      unfold toE
      by_cases h9 : l.length < 9
      · rw [if_pos h9]
      · rw [if_neg h9]
        have a1 : sizE l = szE t K D.length := by
          have h0 := bytE_size (R := []) hK h
          rw [List.append_nil] at h0
          rw [← h0]
          unfold sizE
          rw [hl, List.drop_take, List.take_take, Nat.min_eq_left (by omega)]
        have a2 : tagE l = t.toNat := by
          have h0 := bytE_tag t K D [] (tag_range h)
          rw [List.append_nil] at h0
          rw [← h0]
          unfold tagE
          rw [hl]
          simp only [List.getD, List.getElem?_take]
          rw [if_pos (by omega)]
        rw [a1, a2, fit_yes hK h, if_neg (by simp), if_pos (by omega)]
    unfold rdE
    rw [if_pos (by rw [ht]; decide), ht]
  rw [← hl]
  refine ⟨hE, ?_⟩
  unfold rdN
  rw [if_neg (by rw [hE]; decide)]
end
end Go.Proofs.YtfneloobfidckaaGreatDoor

/- The mathematics of FrameWhole: entries that are put one behind the other are found just so. It proves no statement. -/


namespace Go.Proofs.YtfneloobfidckaaGreatDoor
open Go.RowKit
set_option linter.unusedVariables false
set_option linter.unusedSimpArgs false

/-- An entry, as a value. -/
structure Ee where
  t : Int
  K : List UInt8
  D : List UInt8
/-- It can be written. -/
def okE (x : Ee) : Prop := x.K.length = 32 ∧ ckE x.t x.K x.D.length = 0
/-- The bytes of several, one behind the other. -/
def segB : List Ee → List UInt8
  | [] => []
  | x :: xs => bytE x.t x.K x.D ++ segB xs
/-- Where each is found. -/
def fosF (a : Nat) : List Ee → List Fo
  | [] => []
  | x :: xs => ⟨x.t, x.K, x.D, a, (bytE x.t x.K x.D).length⟩ :: fosF (a + (bytE x.t x.K x.D).length) xs
theorem fosF_len : ∀ (xs : List Ee) (a : Nat), (fosF a xs).length = xs.length
  | [], _ => rfl
  | x :: xs, a => by simp only [fosF, List.length_cons, fosF_len xs]
/-- The place of the i-th. -/
def atE (xs : List Ee) (i : Nat) : Nat := 8 + (segB (xs.take i)).length
theorem segB_app : ∀ (xs ys : List Ee), segB (xs ++ ys) = segB xs ++ segB ys
  | [], _ => rfl
  | x :: xs, ys => by
    show bytE x.t x.K x.D ++ segB (xs ++ ys) = (bytE x.t x.K x.D ++ segB xs) ++ segB ys
    rw [segB_app xs ys, List.append_assoc]
theorem fosF_at : ∀ (xs : List Ee) (a i : Nat) (x : Ee), xs[i]? = some x → (fosF a xs)[i]? = some ⟨x.t, x.K, x.D, a + (segB (xs.take i)).length, (bytE x.t x.K x.D).length⟩
  | [], _, i, x, h => by simp at h
  | y :: ys, a, 0, x, h => by
    simp only [List.getElem?_cons_zero, Option.some.injEq] at h
    subst h
    rfl
  | y :: ys, a, i + 1, x, h => by
    have h1 := fosF_at ys (a + (bytE y.t y.K y.D).length) i x (by simpa using h)
    show (fosF (a + (bytE y.t y.K y.D).length) ys)[i]? = _
    rw [h1]
    have e : (segB ((y :: ys).take (i + 1))).length = (bytE y.t y.K y.D).length + (segB (ys.take i)).length := by
      show (bytE y.t y.K y.D ++ segB (ys.take i)).length = _
      rw [List.length_append]
    rw [e, Nat.add_assoc]
theorem okE_len {x : Ee} (h : okE x) : 9 ≤ (bytE x.t x.K x.D).length ∧ (bytE x.t x.K x.D).length ≤ 16425 := by
  have hz := szE_len h.1 h.2
  omega
theorem scF_whole : ∀ (xs : List Ee) (pre : List UInt8) (k : Nat), (∀ x ∈ xs, okE x) → (segB xs).length ≤ k → scF (pre ++ segB xs) k pre.length = (fosF pre.length xs, pre.length + (segB xs).length, 0)
  | [], pre, k, _, _ => by
    rw [scF_end _ _ _ (by simp [segB])]
    simp [segB, fosF]
  | x :: xs, pre, k, hok, hk => by
    have hx := hok x (by simp)
    have h9 := okE_len hx
    have hl : (segB (x :: xs)).length = (bytE x.t x.K x.D).length + (segB xs).length := by
      show (bytE x.t x.K x.D ++ segB xs).length = _
      rw [List.length_append]
    obtain ⟨k', rfl⟩ : ∃ k', k = k' + 1 := ⟨k - 1, by omega⟩
    have hd : (pre ++ segB (x :: xs)).drop pre.length = bytE x.t x.K x.D ++ segB xs := by
      rw [List.drop_left]; rfl
    obtain ⟨r1, r2, r3, r4, r5⟩ := rd_back (R := segB xs) hx.1 hx.2
    have e := scF_ok (pre ++ segB (x :: xs)) k' pre.length (by rw [List.length_append]; omega) (by rw [hd]; exact r1)
    rw [e]
    unfold fo
    rw [hd, r2, r3, r4, r5]
    have ih := scF_whole xs (pre ++ bytE x.t x.K x.D) k' (fun y hy => hok y (by simp [hy])) (by omega)
    have hp : pre ++ segB (x :: xs) = (pre ++ bytE x.t x.K x.D) ++ segB xs := by
      show pre ++ (bytE x.t x.K x.D ++ segB xs) = _
      rw [List.append_assoc]
    rw [hp, show pre.length + (bytE x.t x.K x.D).length = (pre ++ bytE x.t x.K x.D).length by rw [List.length_append], ih, hl, List.length_append]
    simp only [fosF, Nat.add_assoc]
theorem scan_whole (xs : List Ee) (hok : ∀ x ∈ xs, okE x) : scanR (magic ++ segB xs) = (fosF 8 xs, 8 + (segB xs).length, 0) := by
  unfold scanR
  rw [if_pos ⟨by rw [List.length_append]; show 8 ≤ 8 + _; omega, List.take_left' (by rfl)⟩]
  exact scF_whole xs magic _ hok (by rw [List.length_append]; omega)
end Go.Proofs.YtfneloobfidckaaGreatDoor
