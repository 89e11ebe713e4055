/- The document's own Salvage: what stands anywhere in any bytes, as a function on bytes. It proves no statement. -/
import Derived.Test.YtnhkabohccbglaaDoorFrRScan
namespace Go.Proofs.YtnhkabohccbglaaDoor
open Go.RowKit
set_option linter.unusedVariables false
set_option linter.unusedSimpArgs false

/-- Wherever one stands, from a on. -/
def svF (l : List UInt8) : Nat → Nat → List Fo
  | 0, _ => []
  | k + 1, a => if a < l.length then (if rdE (l.drop a) = 0 then fo l a :: svF l k (a + rdN (l.drop a)) else svF l k (a + 1)) else []
/-- What Salvage answers. -/
def salR (l : List UInt8) : List Fo := svF l l.length 0
theorem svF_end (l : List UInt8) (k a : Nat) (h : l.length ≤ a) : svF l k a = [] := by
  cases k with
  | zero => rfl
  | succ k => rw [svF, if_neg (by omega)]
/-- What stands while Salvage walks. -/
structure SvMid (w W : World) (l : List UInt8) (lv : Value) (a : Nat) : Prop where
  ex : ∃ (F : List Fo) (xs : List Value) (k : Nat), W.ownsRow w.heap.size 55 36 lv F.length xs ∧ HasF W w.heap.size F xs ∧ F.length ≤ a ∧ l.length - a ≤ k ∧ salR l = F ++ svF l k a
  still : Still w W

set_option maxRecDepth 100000 in
set_option maxHeartbeats 6400000 in
theorem rsalvage_any (A : Option Addr) (n c : Nat) (l : List UInt8) (w : World) (B : Nat) (hr : Reads w B A n l) (hB : B ≤ w.heap.size) (hn : n ≤ 1048576) (hc : n ≤ c) (hcm : c ≤ 9223372036854775807) :
    Calls Tryd.prog 26 #[.slice A n c] w fun e w' => (∃ lv xs, e = .returned lv ∧ w'.ownsRow w.heap.size 55 36 lv (salR l).length xs ∧ HasF w' w.heap.size (salR l) xs) ∧ Still w w' := by
  have hlen := hr.1
  have RR := Lib.hid (fun W (s : Still w W) => hr.still hB s)
  have FC := Lib.hid (show n ≤ 1048576 ∧ n ≤ c ∧ c ≤ 9223372036854775807 ∧ B ≤ w.heap.size ∧ l.length = n from ⟨hn, hc, hcm, hB, hlen⟩)
  have M0 := Lib.hid (show SvMid w w l (.slice none 0 0) 0 from { ex := ⟨[], [], l.length, World.ownsRow_nil _ _ _ _, rfl, by simp, by omega, by simp [salR]⟩, still := Still.refl w })
  clear hr hlen hcm
  obtain ⟨fs, hu⟩ := underEnt
  have HU := Lib.hid hu
  clear hu
  go_enter Tryd.func26, Tryd.ntmps26
  go_wp2_with fail
  go_loopw [3, 4] (fun lx iv wr => ∃ (a : Nat) (lv : Value), lv = lx ∧ iv = .int .i64 a ∧ a ≤ n ∧ Hid (SvMid w wr l lv a)) (fun _ iv _ => n - (intOf iv).toNat)
  case atStart => exact ⟨0, _, rfl, rfl, Nat.zero_le _, M0.out⟩
  case round =>
    obtain ⟨a, lv, hlv, rfl, han, hin⟩ := hrel
    subst hlv
    by_cases hlt : a < n
    · have d1 : (a : Int) < (n : Int) := by omega
      have d2 : (a : Int) ≤ (n : Int) := by omega
      have d3 : (a : Int) ≤ (c : Int) := by omega
      have d4 : (n : Int) ≤ (c : Int) := by omega
      obtain ⟨b, o, rfl, hb, _⟩ := (RR.out wr hin.out.still).at_ (by omega)
      have rd : Reads wr B (some ⟨b, o + a, none⟩) (n - a) (l.drop a) := by have h := (RR.out wr hin.out.still).dropk (k := a) (by omega); simpa [Addr.add_lit] using h
      have RD := Lib.hid (rread_any (some ⟨b, o + a, none⟩) (n - a) (c - a) (l.drop a) wr B rd (Nat.le_trans FC.out.2.2.2.1 hin.out.still.size) (by omega) (by omega) (by have := FC.out; omega))
      have LL := Lib.hid (show (l.drop a).length = n - a from rd.1)
      clear rd hb
      go_wp2_with fail
      refine RD.out.mono ?_
      rintro e w2 ⟨⟨v2, rfl, own2⟩, s2⟩
      have KL := Lib.hid (rdK_len (l.drop a))
      have FIT := Lib.hid (fun (h : rdE (l.drop a) = 0) => rdN_fit h)
      have FO := Lib.hid (show fo l a = ⟨rdT (l.drop a), rdK (l.drop a), rdD (l.drop a), a, rdN (l.drop a)⟩ from rfl)
      obtain ⟨F, xs, k, oF, hF, hFa, hka, hsc⟩ := hin.out.ex
      have BAD := Lib.hid (fun (h : rdE (l.drop a) ≠ 0) => (show ∃ k', l.length - (a + 1) ≤ k' ∧ salR l = F ++ svF l k' (a + 1) by
        obtain ⟨k', rfl⟩ : ∃ k', k = k' + 1 := ⟨k - 1, by have := FC.out; omega⟩
        refine ⟨k', by omega, ?_⟩
        rw [hsc, svF, if_pos (by have := FC.out; omega), if_neg h]))
      have OK := Lib.hid (fun (h : rdE (l.drop a) = 0) => (show ∃ k', l.length - (a + rdN (l.drop a)) ≤ k' ∧ salR l = (F ++ [fo l a]) ++ svF l k' (a + rdN (l.drop a)) by
        obtain ⟨k', rfl⟩ : ∃ k', k = k' + 1 := ⟨k - 1, by have := FC.out; omega⟩
        refine ⟨k', by have := rdN_fit h; omega, ?_⟩
        rw [hsc, svF, if_pos (by have := FC.out; omega), if_pos h]
        simp))
      generalize rdT (l.drop a) = t at *
      generalize rdK (l.drop a) = K at *
      generalize rdD (l.drop a) = D at *
      generalize rdN (l.drop a) = N at *
      generalize rdE (l.drop a) = E at *
      have KL' : Hid (K.length = 32) := KL
      have V2 := Lib.hid (show v2.oneCell' = true by rcases own2.2 with ⟨h, _⟩ | ⟨_, _, _, h, _⟩ <;> (rw [h]; rfl))
      have VF2 := Lib.hid (show ∃ A n c, v2 = Value.slice A n c by obtain ⟨A, c, h, _⟩ := own_form own2; exact ⟨_, _, _, h⟩)
      obtain ⟨gx, hgx⟩ : ∃ gx, gx = w2.heap.size := ⟨_, rfl⟩
      obtain ⟨w3, hw3⟩ : ∃ w3, w3 = (w2.alloc (.cells #[.int .i64 0, .int .u8 0, .int .u8 0, .int .u8 0, .int .u8 0, .int .u8 0, .int .u8 0, .int .u8 0, .int .u8 0, .int .u8 0, .int .u8 0, .int .u8 0, .int .u8 0, .int .u8 0, .int .u8 0, .int .u8 0, .int .u8 0, .int .u8 0, .int .u8 0, .int .u8 0, .int .u8 0, .int .u8 0, .int .u8 0, .int .u8 0, .int .u8 0, .int .u8 0, .int .u8 0, .int .u8 0, .int .u8 0, .int .u8 0, .int .u8 0, .int .u8 0, .int .u8 0, .slice none 0 0] 26)).setRow w2.heap.size (entV t K v2) := ⟨_, rfl⟩
      have s23 : Still w2 w3 := by rw [hw3]; exact below_setRow ((Still.refl w2).alloc (Nat.le_refl _) _) (Nat.le_refl _) _
      have B3 := Lib.hid (show Blk w3 gx 26 (entV t K v2) by rw [hw3, hgx]; exact setRow_heap _ _ _ _ _ _ (heap_alloc_new w2 _))
      have SR3 := Lib.hid (show Still wr w3 from Still.trans s2 s23)
      have SW3 := Lib.hid (show Still w w3 from Still.trans hin.out.still (Still.trans s2 s23))
      have O3 := Lib.hid (show w3.ownsRow w.heap.size 5 1 v2 D.length (bytesV D) from own_rebase0 (own_still own2 s23) hin.out.still.size)
      have OF3 := Lib.hid (show w3.ownsRow w.heap.size 55 36 lv F.length xs from oF.kept (row := none) (grown_still0 SR3.out) (by cases lv.ownBlock <;> simp))
      have HF3 := Lib.hid (show HasF w3 w.heap.size F xs from HasF.keep (fun v n l h => own_still h SR3.out) F xs hF)
      have FA := Lib.hid hFa
      have HW3 := Lib.hid hw3
      have HGX := Lib.hid hgx
      have HAN := Lib.hid hlt
      clear RD own2 s2 s23 hw3 hgx oF hF hFa hka hsc KL hin d2 d3 d4 han
      go_upto_region 5 with (guard_target =~ wpList _ _ _ (Oper.mk none (Op.store _ _ _) _ _ _ _ :: _) _ _; go_must (refine wpList_store_rowTo rfl 26 (.tmp 5) (.tmp 17) rfl rfl w2.heap.size (entV t K v2) (by kernel_rfl) (by kernel_rfl) 26 _ (heap_alloc_new w2 _) (by rw [sizeEnt, entV_size _ _ _ KL'.out]) (by rw [entV_size _ _ _ KL'.out]; rfl) (entV_one _ _ _ V2.out) ?_))
      rw [← HW3.out, ← HGX.out]
      clear HW3
      by_cases hE : E = 0
      · obtain ⟨k', hk', hsc'⟩ := OK.out hE
        have hfit := FIT.out hE
        rw [LL.out] at hfit
        subst hE
        have i1 : IntKind.i64.wrap ((a : Int) + (N : Int)) = ((a + N : Nat) : Int) := by rw [IntKind.wrap_i64]; have := FC.out; omega
        obtain ⟨w4, hw4⟩ : ∃ w4, w4 = w3.alloc (.cells (foV t K v2 (a : Int) (N : Int)) 55) := ⟨_, rfl⟩
        obtain ⟨gy, hgy⟩ : ∃ gy, gy = w3.heap.size := ⟨_, rfl⟩
        have S34 := Lib.hid (show Still w3 w4 by rw [hw4]; exact (Still.refl w3).alloc (Nat.le_refl _) _)
        have B4 := Lib.hid (show Blk w4 gy 55 (foV t K v2 (a : Int) (N : Int)) by rw [hw4, hgy]; exact Blk.new _ _ _)
        have OF4 := Lib.hid (show w4.ownsRow w.heap.size 55 36 lv F.length xs from OF3.out.kept (row := none) (grown_still0 S34.out) (by cases lv.ownBlock <;> simp))
        have HW4 := Lib.hid hw4
        have HGY := Lib.hid hgy
        have SC' := Lib.hid (And.intro hk' hsc')
        have HFIT := Lib.hid hfit
        have SW4 := Lib.hid (show Still w w4 from Still.trans SW3.out S34.out)
        clear hw4 hgy hk' hsc' hfit BAD OK FIT
        go_wp2_with (first
          | (guard_target =~ wpList _ _ _ (Oper.mk (some 23) _ _ _ _ _ :: _) _ _; go_must (refine wpList_load_row rfl 26 (.tmp 5) rfl gx rfl _ _ _ _ B3.out HU.out rfl (by rw [sizeEnt, entV_size _ _ _ KL'.out]) ?_))
          | (guard_target =~ wpList _ _ _ (Oper.mk (some 26) _ _ _ _ _ :: _) _ _; go_must (refine wpList_buildF w3 rfl (.tmp 23) (.tmp 24) (.tmp 25) rfl t K KL'.out v2 VF2.out (a : Int) (N : Int) rfl rfl rfl ?_))
          | (guard_target =~ wpList _ _ _ (Oper.mk (some 27) _ _ _ _ _ :: _) _ _; go_must (refine wpList_boxF w3 rfl (.tmp 26) rfl t K KL'.out v2 VF2.out (a : Int) (N : Int) rfl ?_; rw [← HW4.out, ← HGY.out]))
          | (guard_target =~ wpList _ _ _ (Oper.mk (some 28) _ _ _ _ _ :: _) _ _; go_must (refine wpList_pushF w4 rfl (.tmp 22) (.tmp 27) rfl w.heap.size lv F.length xs rfl OF4.out gy (foL t K v2 (a : Int) (N : Int)) rfl (fun q u hq => (B4.out.cell q).trans (by unfold foV; rw [List.getElem?_toArray]; exact hq)) (foL_len _ _ _ _ _ KL'.out) (foL_one _ _ _ _ _ V2.out) (by have := FA.out; have := HAN.out; have := FC.out; omega) SW4.out.size ?_)))
        intro v5 w5 own5 gr5 loc5
        have MID := Lib.hid (show SvMid w w5 l v5 (a + N) from
          { ex := ⟨F ++ [fo l a], xs ++ foL t K v2 (a : Int) (N : Int), k', by simpa using own5, by
              have k5 : ∀ v n l, w3.ownsRow w.heap.size 5 1 v n (bytesV l) → w5.ownsRow w.heap.size 5 1 v n (bytesV l) := fun v n l h => own_apart (own_still h S34.out) OF4.out (by decide) gr5
              rw [FO.out]
              exact HasF.snoc ⟨t, K, D, a, N⟩ v2 KL'.out (k5 _ _ _ O3.out) F xs (HasF.keep k5 F xs HF3.out), by
              have := FA.out; have := HFIT.out; simp; omega, SC'.out.1, SC'.out.2⟩
            still := SW4.out.grown gr5 SW4.out.size (fun k hk => (OF4.out.lt k hk).1) })
        clear own5 gr5 loc5 B3 B4 OF3 OF4 HF3 O3 HW4 S34 SW4 SC' FA
        go_wp2_with fail
        go_roundw
        case rel => exact ⟨a + N, _, rfl, by go_num, by have := HFIT.out; have := HAN.out; omega, MID.out⟩
        case measure => simp [intOf]; have := HFIT.out; have := HAN.out; omega
      · have b0 : (E == 0) = false := by simpa using hE
        have b1 : (E != 0) = true := by simpa using hE
        obtain ⟨k', hk', hbad⟩ := BAD.out hE
        have MID := Lib.hid (show SvMid w w3 l lv (a + 1) from { ex := ⟨F, xs, k', OF3.out, HF3.out, by have := FA.out; omega, hk', hbad⟩, still := SW3.out })
        clear hbad hE hk' BAD OK FIT B3
        go_wp2_with fail
        go_roundw
        case rel => exact ⟨a + 1, _, rfl, by go_num, by have := HAN.out; omega, MID.out⟩
        case measure => simp [intOf]; have := HAN.out; omega
    · obtain rfl : a = n := by omega
      obtain ⟨F, xs, k, oF, hF, hFa, hka, hsc⟩ := hin.out.ex
      have FIN := Lib.hid (show salR l = F by rw [hsc, svF_end l k a (by have := FC.out; omega)]; simp)
      have OF := Lib.hid oF
      have HF := Lib.hid hF
      have SW := Lib.hid hin.out.still
      clear oF hF hFa hka hsc hin
      go_wp2_with fail
      go_ret
      rw [FIN.out]
      exact ⟨⟨lv, xs, rfl, OF.out, HF.out⟩, SW.out⟩
end Go.Proofs.YtnhkabohccbglaaDoor
