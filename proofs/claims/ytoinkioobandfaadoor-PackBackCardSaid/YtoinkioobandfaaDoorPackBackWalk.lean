/- The walk of PackBack: it returns true, and nothing that was there turns. -/
import Derived.Test.YtoinkioobandfaaDoorPackGf
import Derived.Test.YtoinkioobandfaaDoorPackGd
namespace Go.Proofs.YtoinkioobandfaaDoor
open Go.RowKit
set_option linter.unusedVariables false
set_option linter.unusedSimpArgs false

/-- A load of a whole row, where the operation's guard holds. -/
theorem load_rowG {P : Program} {ops : Array Oper} {rest : List Oper} {o : Oper} {a : Act} {w : World} {Q : Exit → Act → World → Prop} (hw : Region.wanted o (yielded ops a.tmps) = true) (ty : TypeId) (x : Operand) (ho : o.op = .load ty x)
    (g : Nat) (hx : a.eval x = .pointer (some ⟨g, 0, none⟩)) (t : TypeId) (cs : Array Value) (fr : Nat × Nat) (d : TypeDesc) (hg : w.heap[g]? = some (.cells cs t fr))
    (hu : P.underlying ty = some d) (hd : (match d with | .struct _ | .array _ _ => true | _ => false) = true) (hi : (P.info? ty).map (·.size) = some cs.size)
    (h : wpList P ops Q rest (a.put o.dst (.agg cs)) w) : wpList P ops Q (o :: rest) a w := by
  unfold wpList
  rw [if_pos hw]
  exact .inl (wp_load_row ty x ho g hx t cs fr d hg hu hd hi h)
theorem dec_of_enc (x : Tr) (hc : canT 1 x = true) (hi : inT x) (hl : (encT x).length ≤ 65536) : decB (encT x) = (0, clT x) ∧ canT 1 (clT x) = true ∧ clT (clT x) = clT x := by
  have D := decV_enc x 1 [] hc hi hl
  obtain ⟨h1, _, _, h2⟩ := decV_inv 16 (by omega) _ _ _ D
  rw [List.append_nil] at D
  refine ⟨?_, h1, h2⟩
  unfold decB
  rw [if_neg (by omega), D]
  simp
theorem enc_of_dec (l : List UInt8) (h : (decB l).1 = 0) : canT 1 (decB l).2 = true ∧ inT (decB l).2 ∧ l = encT (decB l).2 ∧ l.length ≤ 65536 := by
  unfold decB at h ⊢
  by_cases h0 : 65536 < l.length
  · rw [if_pos h0] at h; exact absurd h (by decide)
  rw [if_neg h0] at h ⊢
  by_cases h1 : (decV 16 l).1 ≠ 0
  · rw [if_pos h1] at h; exact absurd h h1
  rw [if_neg h1] at h ⊢
  by_cases h2 : (decV 16 l).2.2 ≠ []
  · rw [if_pos h2] at h; exact absurd h (by decide)
  rw [if_neg h2] at h ⊢
  have h3 : (decV 16 l).1 = 0 := by omega
  have h4 : (decV 16 l).2.2 = [] := by simpa using h2
  obtain ⟨q1, q2, q3, _⟩ := decV_inv 16 (by omega) l (decV 16 l).2.1 [] (by rw [← h3, ← h4])
  rw [List.append_nil] at q3
  exact ⟨q1, q2, q3, by omega⟩
theorem dec_bad (l : List UInt8) (h : (decB l).1 ≠ 0) : (decB l).2 = trZ := by
  unfold decB at h ⊢
  by_cases h0 : 65536 < l.length
  · rw [if_pos h0]
  rw [if_neg h0] at h ⊢
  by_cases h1 : (decV 16 l).1 ≠ 0
  · rw [if_pos h1]
  rw [if_neg h1] at h ⊢
  by_cases h2 : (decV 16 l).2.2 ≠ []
  · rw [if_pos h2]
  · rw [if_neg h2] at h; exact absurd rfl h
/-- Encoding, in two cases. -/
theorem encR_cases (x : Tr) : (canT 1 x = true ∧ (encT x).length ≤ 65536 ∧ encR x = (encT x, 0)) ∨ (∃ e : Int, e ≠ 0 ∧ encR x = ([], e)) := by
  rw [encR_eq]
  by_cases h1 : canT 1 x = false
  · rw [if_pos h1]; exact .inr ⟨4, by omega, rfl⟩
  · rw [if_neg h1]
    by_cases h2 : 65536 < (encT x).length
    · rw [if_pos h2]; exact .inr ⟨5, by omega, rfl⟩
    · rw [if_neg h2]; exact .inl ⟨by simpa using h1, by omega, rfl⟩
theorem enc_ok {w : World} {B : Nat} {x : Tr} {cs : Array Value} (h : HasV w B x cs) (hB : B ≤ w.heap.size) (T : Sizes w) (he : encR x = (encT x, 0)) :
    Calls Tryd.prog 11 #[.agg cs] w fun e w' => (∃ A c, e = .returned (.tuple #[.slice A (encT x).length c, .int .i64 0]) ∧ Reads w' w'.heap.size A (encT x).length (encT x) ∧ (A = none → (encT x).length = 0 ∧ c = 0)) ∧ Still w w' := by
  have E := encode_any x cs w B h hB T
  rw [he] at E
  refine E.mono ?_
  rintro e w' ⟨⟨v, rfl, own⟩, s⟩
  obtain ⟨A, c, rfl, f1, f2, f3⟩ := own_form own
  exact ⟨⟨A, c, rfl, Reads.of_own own, f3⟩, s⟩
theorem enc_no {w : World} {B : Nat} {x : Tr} {cs : Array Value} (h : HasV w B x cs) (hB : B ≤ w.heap.size) (T : Sizes w) (er : Int) (he : encR x = ([], er)) :
    Calls Tryd.prog 11 #[.agg cs] w fun e w' => (∃ A c, e = .returned (.tuple #[.slice A 0 c, .int .i64 er])) ∧ Still w w' := by
  have E := encode_any x cs w B h hB T
  rw [he] at E
  refine E.mono ?_
  rintro e w' ⟨⟨v, rfl, own⟩, s⟩
  obtain ⟨A, c, rfl, f1, f2, f3⟩ := own_form own
  exact ⟨⟨A, c, rfl⟩, s⟩
set_option maxRecDepth 100000 in
theorem open_val {H : Type} {enc : TypeId × Value → H} {w : World} {r : Reach} {b0 : Nat} {held : Bool} {v : Value} {d : DataW H} {p : List MemPlace} (hv : Value.okWide Tryd.prog w r b0 26 v) (h : DataW.Trod enc Tryd.prog w 0 (fun _ => true) held 26 v d p) :
    ∃ x cs, v = .agg cs ∧ HasW w (fun _ => True) x cs := by
  obtain ⟨cs, rfl, hsz⟩ := Go.WideShapes.okWide_struct Tryd.underlying26 hv
  obtain ⟨l⟩ := cs
  obtain ⟨fuel, hf⟩ := h
  obtain ⟨x, hx⟩ := raw_has fuel _ _ hf
  exact ⟨x, ⟨l⟩, rfl, hx⟩

set_option maxRecDepth 100000 in
set_option maxHeartbeats 3200000 in
theorem packBack_walk (x0 : Tr) (cs0 : Array Value) (a1 : Option Addr) (len1 cap1 : Nat) (z1 : List Int) (w : World) (w0 : HasW w (fun _ => True) x0 cs0) (w1 : RowIn .u8 w a1 len1 cap1 z1) (T : Sizes w) :
    Calls Tryd.prog 5 #[.agg cs0, .slice a1 len1 cap1] w fun e w' => e = .returned (.bool true) ∧ Below w.heap.size w w' := by
  obtain ⟨l0, r0, hc0, hm0, hA0⟩ := reads_of_row w1
  have h6 := HasW.size _ _ w0
  obtain ⟨lx⟩ := cs0
  obtain ⟨wA, hA⟩ : ∃ wA, wA = w.alloc (.cells lx.toArray 26) := ⟨_, rfl⟩
  have sA : Still w wA := by rw [hA]; exact (Still.refl w).alloc (Nat.le_refl _) _
  have bA : Blk wA w.heap.size 26 lx.toArray := by rw [hA]; exact Blk.new _ _ _
  have SM := Lib.hid (small_any x0 wA (fun b => b < w.heap.size) lx.toArray (HasW.keep (fun b _ hl => sA.block b hl) sA.size (fun b _ hl => hl) _ _ w0))
  have hsm := smallT_sm x0
  obtain ⟨tx, htx⟩ : ∃ tx, tx = smallT x0 := ⟨_, rfl⟩
  rw [← htx] at SM hsm
  obtain ⟨n1, hn1⟩ : ∃ n1, n1 = min len1 2000 := ⟨_, rfl⟩
  have CUT := Lib.hid (show ∀ W, Still w W → Calls Tryd.prog 16 #[.slice a1 len1 cap1, .int .i64 2000] W fun e w' => e = .returned (.slice a1 n1 cap1) ∧ W = w' from fun W s => by rw [hn1]; exact cut_any a1 len1 cap1 2000 l0 W _ (r0.still (Nat.le_refl _) s) hc0 hm0 (by omega))
  have RB := Lib.hid (show Reads w w.heap.size a1 n1 (l0.take 2000) by rw [hn1]; exact r0.take 2000)
  obtain ⟨l, hl⟩ : ∃ l, l = l0.take 2000 := ⟨_, rfl⟩
  rw [← hl] at RB
  have N1 := Lib.hid (show n1 ≤ 2000 by omega)
  have NA := Lib.hid (show a1 = none → n1 = 0 ∧ cap1 = 0 from fun e => ⟨by have := (hA0 e).1; omega, (hA0 e).2⟩)
  have HSM := Lib.hid hsm
  have HT := Lib.hid (fun W (s : Still w W) => T.still s)
  have H6 := Lib.hid (show lx.length = 6 by simpa using h6)
  have HA := Lib.hid hA
  have SA := Lib.hid sA
  have BA := Lib.hid bA
  obtain ⟨fs, hu⟩ := underValue
  have HU := Lib.hid hu
  obtain ⟨g0, hg0⟩ : ∃ g0, g0 = w.heap.size := ⟨_, rfl⟩
  have HG0 := Lib.hid hg0
  rw [← hg0] at BA
  have LV := Lib.hid (fun w => lives_any w)
  clear r0 hc0 hm0 hA0 w1 w0 h6 hA sA bA hsm htx hn1 hl T hu hg0
  go_enter Tryd.func5, Tryd.ntmps5
  go_upto_region 0 with fail
  refine wp_region_lit ?_
  refine wpList_box_arr rfl 26 (.tmp 0) rfl (some 2) rfl _ rfl ?_
  go_upto_region 1 with fail
  rw [show (w.alloc (.cells lx.toArray 26)) = wA from HA.out.symm, ← HG0.out]
  go_wp2_with (first
    | (guard_target =~ wpList _ _ _ (Oper.mk (some 13) _ _ _ _ _ :: _) _ _; go_must (refine wpList_load_row rfl 26 (.tmp 2) rfl g0 rfl _ _ _ _ BA.out HU.out rfl (by rw [sizeValue]; simp [H6.out]) ?_)))
  refine SM.out.mono ?_
  rintro e wB ⟨⟨ds, rfl, hd6, hdall, hdv⟩, sB⟩
  have SB := Lib.hid (SA.out.trans sB)
  have D6 := Lib.hid hd6
  have DALL := Lib.hid hdall
  have DV := Lib.hid hdv
  have BB := Lib.hid (BA.out.still sB)
  have ZB := Lib.hid (show g0 < wA.heap.size from BA.out.lt)
  clear hd6 hdall hdv sB SM
  go_wp2_with fail
  refine (CUT.out _ SB.out).mono ?_
  rintro e w2 ⟨rfl, rfl⟩
  obtain ⟨w2, hw2⟩ : ∃ w2, w2 = wB.setRow g0 ds.toArray := ⟨_, rfl⟩
  have S2 := Lib.hid (show Still w w2 by rw [hw2]; exact below_setRow SB.out (by rw [HG0.out]; exact Nat.le_refl _) _)
  have B2 := Lib.hid (show Blk w2 g0 26 ds.toArray by rw [hw2]; exact setRow_heap _ _ _ _ _ _ BB.out)
  have V2 := Lib.hid (show HasV w2 w2.heap.size tx ds.toArray from HasW.toV (P := fun b => g0 < b) (fun b _ h => h) _ _ HSM.out (by rw [hw2]; exact HasW.keep (fun b hb hl => setRow_other wB g0 b _ (by have := ZB.out; have : wA.heap.size ≤ b := hb; omega)) (by simp [World.setRow]) (fun b hb _ => by have := ZB.out; have : wA.heap.size ≤ b := hb; omega) _ _ DV.out))
  have HW2 := Lib.hid hw2
  go_upto_region 2 with (first
    | (guard_target =~ wpList _ _ _ (Oper.mk none (Op.store _ _ _) _ _ _ _ :: _) _ _; go_must (refine wpList_store_rowTo rfl 26 (.tmp 2) (.tmp 14) rfl rfl g0 ds.toArray rfl rfl 26 _ BB.out (by rw [sizeValue]; simp [D6.out]) (by simp [D6.out, H6.out]) DALL.out ?_)))
  rw [← HW2.out]
  clear hw2 HW2 BB SB BA DV ZB SA HA CUT
  go_upto_region 2 with fail
  rcases encR_cases tx with ⟨hc, hl, he⟩ | ⟨er, her, he⟩
  · have ENC := Lib.hid (enc_ok V2.out (Nat.le_refl _) (HT.out _ S2.out) he)
    have hin := hasV_in _ _ V2.out
    obtain ⟨dd1, dd2, dd3⟩ := dec_of_enc tx hc hin hl
    have SMT := Lib.hid (sameT_cl tx (clT tx) 1 1 hc dd2 dd3.symm)
    have DCE := Lib.hid dd1
    obtain ⟨E, hE⟩ : ∃ E, E = encT tx := ⟨_, rfl⟩
    rw [← hE] at ENC DCE hl
    obtain ⟨L, hL⟩ : ∃ L, L = E.length := ⟨_, rfl⟩
    rw [← hL] at ENC hl
    have HLN := Lib.hid hl
    clear hc hl he hin dd1 dd2 dd3 hE hL
    refine wp_region_lit ?_
    refine wpList_load_row rfl 26 (.tmp 2) rfl g0 rfl _ _ _ _ B2.out HU.out rfl (by rw [sizeValue]; simp [D6.out]) ?_
    go_wp2_with fail
    refine ENC.out.mono ?_
    rintro e w3 ⟨⟨A3, c3, rfl, rd3, na3⟩, s3⟩
    have S3 := Lib.hid (Still.trans S2.out s3)
    have B3 := Lib.hid (B2.out.still s3)
    have V3 := Lib.hid (HasV.more s3.size _ _ (HasV.below s3 _ _ V2.out))
    have DEC := Lib.hid (decode_any A3 L c3 E w3 _ rd3 (Nat.le_refl _) (by have := HLN.out; omega) na3 (HT.out _ S3.out) (HT.out _ S3.out).lt)
    rw [DCE.out] at DEC
    clear rd3 na3 s3 ENC B2 V2
    go_wp2_with fail
    refine DEC.out.mono ?_
    rintro e w4 ⟨⟨fs7, rfl, hf6, hfall, hfv⟩, s4⟩
    have F6 := Lib.hid hf6
    have FALL := Lib.hid hfall
    have BS7 := build1 fs7 hf6
    obtain ⟨g7, hg7⟩ : ∃ g7, g7 = w4.heap.size := ⟨_, rfl⟩
    go_upto_region 5 with (first
      | (guard_target =~ wpList _ _ _ (Oper.mk none (Op.store _ (Operand.tmp 7) _) _ _ _ _ :: _) _ _; go_must (refine wpList_store_rowTo rfl 26 (.tmp 7) (.tmp 27) rfl rfl w4.heap.size fs7.toArray rfl rfl 26 _ (heap_alloc_new w4 _) (by rw [sizeValue]; simp [F6.out]) (by simp [F6.out]) FALL.out ?_)))
    obtain ⟨w5, hw5⟩ : ∃ w5, w5 = (w4.alloc (.cells #[.int .i64 0, .int .i64 0, .slice none 0 0, .string ⟨#[]⟩, .slice none 0 0, .slice none 0 0] 26)).setRow w4.heap.size fs7.toArray := ⟨_, rfl⟩
    have s5 : Still w4 w5 := by rw [hw5]; exact below_setRow ((Still.refl w4).alloc (Nat.le_refl _) _) (Nat.le_refl _) _
    have s45 : Still w3 w5 := Still.trans (show Still w3 w4 from s4) s5
    have B7 := Lib.hid (show Blk w5 g7 26 fs7.toArray by rw [hw5, hg7]; exact setRow_heap _ _ _ _ _ _ (heap_alloc_new w4 _))
    have B5 := Lib.hid (B3.out.still s45)
    have S5 := Lib.hid (Still.trans S3.out s45)
    have SAM := Lib.hid (sameOK tx (clT tx) w5 w3.heap.size w5.heap.size ds.toArray fs7.toArray (HasV.below s45 _ _ V3.out) (HasP.toV (P := fun _ => True) (fun b _ h => h) _ _ (HasP.keep (fun b _ hl => s5.block b hl) s5.size (fun b _ _ => trivial) _ _ hfv)) s45.size (Nat.le_refl _))
    rw [SMT.out] at SAM
    have SAM' : Hid (Calls Tryd.prog 21 #[.agg ds.toArray, .agg fs7.toArray] w5 fun e w' => e = .returned (.bool true) ∧ Still w5 w') := SAM
    rw [← hw5, ← hg7]
    clear hw5 hg7 s4 s5 s45 hf6 hfall hfv BS7 SAM DEC B3 V3
    go_wp2_with (first
      | (guard_target =~ wpList _ _ _ (Oper.mk (some 32) _ _ _ _ _ :: _) _ _; go_must (refine load_rowG (by kernel_rfl) 26 (.tmp 2) rfl g0 rfl _ _ _ _ B5.out HU.out rfl (by rw [sizeValue]; simp [D6.out]) ?_))
      | (guard_target =~ wpList _ _ _ (Oper.mk (some 33) _ _ _ _ _ :: _) _ _; go_must (refine load_rowG (by kernel_rfl) 26 (.tmp 7) rfl g7 rfl _ _ _ _ B7.out HU.out rfl (by rw [sizeValue]; simp [F6.out]) ?_)))
    refine SAM'.out.mono ?_
    rintro e w6 ⟨rfl, s6⟩
    have S6 := Lib.hid (Still.trans (show Still w w5 from S5.out) s6)
    clear s6 SAM' B5 B7 S5 S3 S2
    have D2 := Lib.hid (decode_any a1 n1 cap1 l _ w.heap.size (RB.out.still (Nat.le_refl _) S6.out) S6.out.size (by have := N1.out; omega) NA.out (HT.out _ S6.out) (HT.out _ S6.out).lt)
    have INV := Lib.hid (enc_of_dec l)
    have BAD := Lib.hid (dec_bad l)
    generalize decB l = Z at D2 INV BAD
    obtain ⟨er2, y⟩ := Z
    simp only at D2 INV BAD
    go_wp2_with fail
    refine D2.out.mono ?_
    rintro e wD ⟨⟨es, rfl, he6, heall, hev⟩, sD⟩
    have SD := Lib.hid (Still.trans S6.out sD)
    have E6 := Lib.hid he6
    have EALL := Lib.hid heall
    have EV := Lib.hid hev
    have BS := build1 es he6
    clear sD heall hev D2
    obtain ⟨g9, hg9⟩ : ∃ g9, g9 = wD.heap.size := ⟨_, rfl⟩
    go_upto_region 8 with (first
      | (guard_target =~ wpList _ _ _ (Oper.mk none (Op.store _ (Operand.tmp 9) _) _ _ _ _ :: _) _ _; go_must (refine wpList_store_rowTo rfl 26 (.tmp 9) (.tmp 40) rfl rfl wD.heap.size es.toArray rfl rfl 26 _ (heap_alloc_new wD _) (by rw [sizeValue]; simp [E6.out]) (by simp [E6.out]) EALL.out ?_)))
    obtain ⟨wE, hwE⟩ : ∃ wE, wE = (wD.alloc (.cells #[.int .i64 0, .int .i64 0, .slice none 0 0, .string ⟨#[]⟩, .slice none 0 0, .slice none 0 0] 26)).setRow wD.heap.size es.toArray := ⟨_, rfl⟩
    have sE : Still wD wE := by rw [hwE]; exact below_setRow ((Still.refl wD).alloc (Nat.le_refl _) _) (Nat.le_refl _) _
    have B9 := Lib.hid (show Blk wE g9 26 es.toArray by rw [hwE, hg9]; exact setRow_heap _ _ _ _ _ _ (heap_alloc_new wD _))
    have SE := Lib.hid (Still.trans (show Still w wD from SD.out) sE)
    have VE := Lib.hid (HasP.keep (fun b _ hl => sE.block b hl) sE.size (fun b _ _ => trivial) (Q := fun _ => True) _ _ EV.out)
    rw [← hwE, ← hg9]
    clear sE hwE hg9 BS he6 EV SD
    by_cases hz : er2 = 0
    · subst hz
      obtain ⟨q1, q2, q3, q4⟩ := INV.out rfl
      have EY := Lib.hid (enc_ok (x := y) (cs := es.toArray) (w := wE) (HasP.toV (fun b _ h => h) _ _ VE.out) (Nat.le_refl _) (HT.out _ SE.out) (by rw [encR_eq, if_neg (by rw [q1]; decide), if_neg (by rw [← q3]; omega)]))
      rw [← q3] at EY
      clear q1 q2 q3 q4 INV BAD
      go_wp2_with (first
        | (guard_target =~ wpList _ _ _ (Oper.mk (some 51) _ _ _ _ _ :: _) _ _; go_must (refine wpList_load_row rfl 26 (.tmp 9) rfl g9 rfl _ _ _ _ B9.out HU.out rfl (by rw [sizeValue]; simp [E6.out]) ?_)))
      refine EY.out.mono ?_
      rintro e wF ⟨⟨Ae, ce, rfl, re, _⟩, sF⟩
      have SF := Lib.hid (Still.trans (show Still w wE from SE.out) sF)
      have SAME := Lib.hid (same_any Ae a1 l.length n1 ce cap1 l l wF _ _ re (RB.out.still (Nat.le_refl _) SF.out) (by have := RB.out.1; have := N1.out; omega) (by have := N1.out; omega))
      rw [decide_eq_true (rfl : l = l)] at SAME
      clear re sF EY
      go_wp2_with fail
      refine SAME.out.mono ?_
      rintro e wG ⟨rfl, sG⟩
      have SG := Lib.hid (Still.trans (show Still w wF from SF.out) sG)
      clear sG SAME
      go_wp2_with fail
      refine (LV.out _).mono ?_
      rintro e wH ⟨rfl, sH⟩
      have SH := Lib.hid (Still.trans (show Still w wG from SG.out) sH)
      go_wp2_with fail
      go_ret
      exact ⟨rfl, SH.out⟩
    · have d5 : (er2 == 0) = false := by simpa using hz
      have d6 : (er2 != 0) = true := by simpa using hz
      have hv := VE.out
      rw [BAD.out hz] at hv
      have k0 : wE.cell? ⟨g9, 0, none⟩ = some (.int .i64 0) := by
        rw [B9.out.cell 0]
        unfold trZ HasP at hv
        obtain ⟨_, _, _, _, _, _, _, e9, _⟩ := hv
        rw [e9]; rfl
      clear hv INV BAD VE
      go_wp2_with fail
      refine (LV.out _).mono ?_
      rintro e wF ⟨rfl, sF⟩
      have SF := Lib.hid (Still.trans (show Still w wE from SE.out) sF)
      go_wp2_with fail
      go_ret
      exact ⟨rfl, SF.out⟩
  · have ENC := Lib.hid (enc_no V2.out (Nat.le_refl _) (HT.out _ S2.out) er he)
    have d3 : (er == 0) = false := by simpa using her
    have d4 : (er != 0) = true := by simpa using her
    clear her he
    refine wp_region_lit ?_
    refine wpList_load_row rfl 26 (.tmp 2) rfl g0 rfl _ _ _ _ B2.out HU.out rfl (by rw [sizeValue]; simp [D6.out]) ?_
    go_wp2_with fail
    refine ENC.out.mono ?_
    rintro e w3 ⟨⟨A3, c3, rfl⟩, s3⟩
    have S6 := Lib.hid (Still.trans (show Still w w2 from S2.out) s3)
    clear s3 ENC B2 V2 S2
    have D2 := Lib.hid (decode_any a1 n1 cap1 l _ w.heap.size (RB.out.still (Nat.le_refl _) S6.out) S6.out.size (by have := N1.out; omega) NA.out (HT.out _ S6.out) (HT.out _ S6.out).lt)
    have INV := Lib.hid (enc_of_dec l)
    have BAD := Lib.hid (dec_bad l)
    generalize decB l = Z at D2 INV BAD
    obtain ⟨er2, y⟩ := Z
    simp only at D2 INV BAD
    go_wp2_with fail
    refine D2.out.mono ?_
    rintro e wD ⟨⟨es, rfl, he6, heall, hev⟩, sD⟩
    have SD := Lib.hid (Still.trans S6.out sD)
    have E6 := Lib.hid he6
    have EALL := Lib.hid heall
    have EV := Lib.hid hev
    have BS := build1 es he6
    clear sD heall hev D2
    obtain ⟨g9, hg9⟩ : ∃ g9, g9 = wD.heap.size := ⟨_, rfl⟩
    go_upto_region 8 with (first
      | (guard_target =~ wpList _ _ _ (Oper.mk none (Op.store _ (Operand.tmp 9) _) _ _ _ _ :: _) _ _; go_must (refine wpList_store_rowTo rfl 26 (.tmp 9) (.tmp 40) rfl rfl wD.heap.size es.toArray rfl rfl 26 _ (heap_alloc_new wD _) (by rw [sizeValue]; simp [E6.out]) (by simp [E6.out]) EALL.out ?_)))
    obtain ⟨wE, hwE⟩ : ∃ wE, wE = (wD.alloc (.cells #[.int .i64 0, .int .i64 0, .slice none 0 0, .string ⟨#[]⟩, .slice none 0 0, .slice none 0 0] 26)).setRow wD.heap.size es.toArray := ⟨_, rfl⟩
    have sE : Still wD wE := by rw [hwE]; exact below_setRow ((Still.refl wD).alloc (Nat.le_refl _) _) (Nat.le_refl _) _
    have B9 := Lib.hid (show Blk wE g9 26 es.toArray by rw [hwE, hg9]; exact setRow_heap _ _ _ _ _ _ (heap_alloc_new wD _))
    have SE := Lib.hid (Still.trans (show Still w wD from SD.out) sE)
    have VE := Lib.hid (HasP.keep (fun b _ hl => sE.block b hl) sE.size (fun b _ _ => trivial) (Q := fun _ => True) _ _ EV.out)
    rw [← hwE, ← hg9]
    clear sE hwE hg9 BS he6 EV SD
    by_cases hz : er2 = 0
    · subst hz
      obtain ⟨q1, q2, q3, q4⟩ := INV.out rfl
      have EY := Lib.hid (enc_ok (x := y) (cs := es.toArray) (w := wE) (HasP.toV (fun b _ h => h) _ _ VE.out) (Nat.le_refl _) (HT.out _ SE.out) (by rw [encR_eq, if_neg (by rw [q1]; decide), if_neg (by rw [← q3]; omega)]))
      rw [← q3] at EY
      clear q1 q2 q3 q4 INV BAD
      go_wp2_with (first
        | (guard_target =~ wpList _ _ _ (Oper.mk (some 51) _ _ _ _ _ :: _) _ _; go_must (refine wpList_load_row rfl 26 (.tmp 9) rfl g9 rfl _ _ _ _ B9.out HU.out rfl (by rw [sizeValue]; simp [E6.out]) ?_)))
      refine EY.out.mono ?_
      rintro e wF ⟨⟨Ae, ce, rfl, re, _⟩, sF⟩
      have SF := Lib.hid (Still.trans (show Still w wE from SE.out) sF)
      have SAME := Lib.hid (same_any Ae a1 l.length n1 ce cap1 l l wF _ _ re (RB.out.still (Nat.le_refl _) SF.out) (by have := RB.out.1; have := N1.out; omega) (by have := N1.out; omega))
      rw [decide_eq_true (rfl : l = l)] at SAME
      clear re sF EY
      go_wp2_with fail
      refine SAME.out.mono ?_
      rintro e wG ⟨rfl, sG⟩
      have SG := Lib.hid (Still.trans (show Still w wF from SF.out) sG)
      clear sG SAME
      go_wp2_with fail
      refine (LV.out _).mono ?_
      rintro e wH ⟨rfl, sH⟩
      have SH := Lib.hid (Still.trans (show Still w wG from SG.out) sH)
      go_wp2_with fail
      go_ret
      exact ⟨rfl, SH.out⟩
    · have d5 : (er2 == 0) = false := by simpa using hz
      have d6 : (er2 != 0) = true := by simpa using hz
      have hv := VE.out
      rw [BAD.out hz] at hv
      have k0 : wE.cell? ⟨g9, 0, none⟩ = some (.int .i64 0) := by
        rw [B9.out.cell 0]
        unfold trZ HasP at hv
        obtain ⟨_, _, _, _, _, _, _, e9, _⟩ := hv
        rw [e9]; rfl
      clear hv INV BAD VE
      go_wp2_with fail
      refine (LV.out _).mono ?_
      rintro e wF ⟨rfl, sF⟩
      have SF := Lib.hid (Still.trans (show Still w wE from SE.out) sF)
      go_wp2_with fail
      go_ret
      exact ⟨rfl, SF.out⟩
end Go.Proofs.YtoinkioobandfaaDoor
