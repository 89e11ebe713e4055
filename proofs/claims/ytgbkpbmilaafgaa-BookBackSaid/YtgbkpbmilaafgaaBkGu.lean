/- Contracts and facts, several texts in one. It proves no statement. -/
import Derived.Test.YtgbkpbmilaafgaaBkGc
import Derived.Test.YtgbkpbmilaafgaaBkGm
import Derived.Test.YtgbkpbmilaafgaaBkGp
import Derived.Test.YtgbkpbmilaafgaaBkGr
import Derived.Test.YtgbkpbmilaafgaaBkGs
import Derived.Test.YtgbkpbmilaafgaaBkGt
import Derived.Test.YtgbkpbmilaafgaaBkGg
import Derived.Test.YtgbkpbmilaafgaaBkGi
import Derived.Test.YtgbkpbmilaafgaaBkGf
import Derived.Test.YtgbkpbmilaafgaaBkGl

/- Contract: hoardref01.Same of whatever bytes. It proves no statement. -/

namespace Go.Proofs.Ytgbkpbmilaafgaa
open Go.RowKit
set_option linter.unusedVariables false
set_option linter.unusedSimpArgs false

theorem bytes_ext (l l' : List UInt8) (hl : l.length = l'.length) (h : ∀ i, i < l.length → l.getD i 0 = l'.getD i 0) : l = l' := by
  apply List.ext_getElem hl
  intro i h1 h2
  have := h i h1
  simpa [List.getD, h1, h2] using this

set_option maxRecDepth 100000 in
set_option maxHeartbeats 1600000 in
theorem same_quiet (A A' : Option Addr) (n n' c c' : Nat) (l l' : List UInt8) (w : World) (B B' : Nat) (h : Reads w B A n l) (h' : Reads w B' A' n' l') (hn : n ≤ 70368744177664) (hn' : n' ≤ 70368744177664) :
    Calls Try.prog 15 #[.slice A n c, .slice A' n' c'] w fun e w' => e = .returned (.bool (decide (l = l'))) ∧ ∃ m, w' = w.drewN m := by
  have h1 := h.1
  have h2 := h'.1
  by_cases hlen : n = n'
  · subst hlen
    obtain ⟨q, hq⟩ : ∃ q, q = decide (l = l') := ⟨_, rfl⟩
    rw [← hq]
    have HQ := Lib.hid hq
    have HL := Lib.hid (⟨h1, h2⟩ : l.length = n ∧ l'.length = n)
    have HH := Lib.hid h
    have HH' := Lib.hid h'
    have d3 : (n : Int) ≤ 70368744177664 := by omega
    clear hq h1 h2 h h' hn hn'
    go_enter Try.func15, Try.ntmps15
    go_wp2_with fail
    go_loopw [5] (fun iv wr => ∃ k : Nat, k ≤ n ∧ iv = .int .i64 k ∧ Hid ((∀ i, i < k → l.getD i 0 = l'.getD i 0) ∧ ∃ m, wr = w.drewN m)) (fun iv _ => n - (intOf iv).toNat)
    case atStart => exact ⟨0, Nat.zero_le _, rfl, fun i hi => by omega, 0, rfl⟩
    case round =>
      obtain ⟨k, hk, rfl, hin⟩ := hrel
      obtain ⟨mm, hwm⟩ := hin.out.2
      have st : Still w wr := by rw [hwm]; exact still_drewN (Still.refl w) mm
      have hkeep : Reads wr B A n l ∧ Reads wr B' A' n l' := by
        rw [hwm]
        exact ⟨HH.out.keep fun _ _ => rfl, HH'.out.keep fun _ _ => rfl⟩
      have ST := Lib.hid st
      have HWM := Lib.hid hwm
      clear hwm st
      by_cases hlt : k < n
      · obtain ⟨b, o, rfl, hb, hc⟩ := hkeep.1.at_ (by omega)
        obtain ⟨b', o', rfl, hb', hc'⟩ := hkeep.2.at_ (by omega)
        have c1 := hc k hlt
        have c2 := hc' k hlt
        obtain ⟨y, hy⟩ : ∃ y, y = l.getD k 0 := ⟨_, rfl⟩
        obtain ⟨y', hy'⟩ : ∃ y, y = l'.getD k 0 := ⟨_, rfl⟩
        rw [← hy] at c1
        rw [← hy'] at c2
        have HY := Lib.hid hy
        have HY' := Lib.hid hy'
        have HLT := Lib.hid hlt
        have z1 : (0 : Int) ≤ (k : Int) := by omega
        have z2 : (k : Int) < (n : Int) := by omega
        clear hc hc' hb hb' hy hy' hlt hkeep
        by_cases hyy : y = y'
        · subst hyy
          generalize y.toNat = yy at *
          go_wp2_with fail
          go_quiet (fail)
          go_wp2_with fail
          go_roundw
          case rel =>
            refine ⟨k + 1, by have := HLT.out; omega, by go_num, Lib.hid ⟨fun i hi => ?_, mm + nq, ?_⟩⟩
            · by_cases h : i = k
              · rw [h, ← HY.out, ← HY'.out]
              · exact hin.out.1 i (by omega)
            · rw [HWM.out, World.drewN_drewN]
          case measure => simp [intOf]; have := HLT.out; omega
        · have hne : ¬ y.toNat = y'.toNat := fun e => hyy (UInt8.toNat_inj.1 e)
          have hq : q = false := by
            rw [HQ.out]
            simp only [decide_eq_false_iff_not]
            intro e
            exact hyy (by rw [HY.out, HY'.out, e])
          have HNE := Lib.hid hq
          have hni : (((y.toNat : Nat) : Int) == ((y'.toNat : Nat) : Int)) = false := by
            rw [beq_eq_false_iff_ne]
            omega
          have hni2 : (((y.toNat : Nat) : Int) != ((y'.toNat : Nat) : Int)) = true := by rw [bne_iff_ne]; omega
          generalize y.toNat = yy at *
          generalize y'.toNat = yy' at *
          clear hyy hq hne
          go_wp2_with fail
          go_quiet (fail)
          go_wp2_with fail
          (try simp only [Exit.inBlock, Exit.then])
          go_ret
          rw [HNE.out]
          exact ⟨rfl, mm + nq, by rw [HWM.out, World.drewN_drewN]⟩
      · obtain rfl : k = n := by omega
        have hq : q = true := by
          rw [HQ.out]
          simp only [decide_eq_true_eq]
          exact bytes_ext _ _ (HL.out.1.trans HL.out.2.symm) fun i hi => hin.out.1 i (by have := HL.out.1; omega)
        have HNE := Lib.hid hq
        clear hq hlt hkeep
        go_wp2_with fail
        go_ret
        rw [HNE.out]
        exact ⟨rfl, mm, HWM.out⟩
  · have hne : ¬ l = l' := fun e => hlen (by rw [← h1, ← h2, e])
    rw [show decide (l = l') = false by simpa using hne]
    have d : ((n : Int) != (n' : Int)) = true := by simp; omega
    clear hne hlen h h' h1 h2 hn hn'
    go_enter Try.func15, Try.ntmps15
    go_wp2_with fail
    (try simp only [Exit.inBlock, Exit.then])
    go_ret
    exact ⟨rfl, 0, rfl⟩
/-- The same, told as nothing that was there turns. -/
theorem same_any (A A' : Option Addr) (n n' c c' : Nat) (l l' : List UInt8) (w : World) (B B' : Nat) (h : Reads w B A n l) (h' : Reads w B' A' n' l') (hn : n ≤ 70368744177664) (hn' : n' ≤ 70368744177664) :
    Calls Try.prog 15 #[.slice A n c, .slice A' n' c'] w fun e w' => e = .returned (.bool (decide (l = l'))) ∧ Still w w' :=
  (same_quiet A A' n n' c c' l l' w B B' h h' hn hn').mono fun e w' ⟨he, m, hw⟩ => ⟨he, hw ▸ still_drewN (Still.refl w) m⟩
end Go.Proofs.Ytgbkpbmilaafgaa

/- Small facts for the laws of books. It proves no statement. -/









namespace Go.Proofs.Ytgbkpbmilaafgaa
open Go.RowKit
set_option linter.unusedVariables false
set_option linter.unusedSimpArgs false

theorem wr_len {k : Kd} (hnm : k.nm.length = 8) {L : List Rw} (hL : ∀ r ∈ L, k.Ok r) : (k.wr L).1.length ≤ 20 + k.wide * L.length := by
  rcases wr_cases (k := k) L with ⟨_, h⟩ | ⟨_, h⟩ | ⟨h, _, _⟩
  · rw [h]; simp
  · rw [h]; simp
  · rw [h]
    simp only [sumB_length, body_length hnm hL]
    omega
theorem wr_small {k : Kd} (hnm : k.nm.length = 8) (hw : k.wide ≤ 44) {w : World} {A : Option Addr} {n c : Nat} {L : List Rw} (h : RwRow k w A n c L) (hn : n ≤ 30) : (k.wr L).1.length ≤ 1400 := by
  have h1 := wr_len hnm h.ok
  rw [h.len] at h1
  have h2 : k.wide * n ≤ 44 * 30 := Nat.mul_le_mul hw hn
  omega
theorem Reads.on {w w' : World} {A : Option Addr} {n : Nat} {l : List UInt8} (h : Reads w w.heap.size A n l) (s : Still w w') : Reads w' w'.heap.size A n l := (h.still (Nat.le_refl _) s).more s.size
theorem wide_i : kI.wide ≤ 44 := by decide
theorem wide_c : kC.wide ≤ 44 := by decide
theorem wide_u : kU.wide ≤ 44 := by decide
/-- What is written: bytes that are read, and a number. -/
structure Wrt (w : World) (A : Option Addr) (n c : Nat) (l : List UInt8) : Prop where
  rd : Reads w w.heap.size A n l
  fit : n ≤ c
  cap : c ≤ 9223372036854775807
  nil : A = none → c = 0
theorem Wrt.on {w w' : World} {A : Option Addr} {n c : Nat} {l : List UInt8} (h : Wrt w A n c l) (s : Still w w') : Wrt w' A n c l := ⟨h.rd.on s, h.fit, h.cap, h.nil⟩
theorem Wrt.same {w w1 w2 : World} {A A' : Option Addr} {n n' c c' : Nat} {l : List UInt8} (h : Wrt w1 A n c l) (h' : Wrt w2 A' n' c' l) (hn : n ≤ 1400) (hn' : n' ≤ 1400) (s : Still w1 w) (s' : Still w2 w) :
    Calls Try.prog 15 #[.slice A n c, .slice A' n' c'] w fun e w' => e = .returned (.bool true) ∧ Still w w' :=
  (same_any A A' n n' c c' l l w _ _ (h.on s).rd (h'.on s').rd (by omega) (by omega)).mono fun e w' ⟨he, s⟩ => ⟨by rw [he]; simp, s⟩
end Go.Proofs.Ytgbkpbmilaafgaa

/- Contracts: the document's own key, number and rows of a book. It proves no statement. -/





namespace Go.Proofs.Ytgbkpbmilaafgaa
open Go.RowKit
set_option linter.unusedVariables false
set_option linter.unusedSimpArgs false

/-- Bytes that stay: a slice at a known place. -/
structure Tx (w : World) (ab ao n c : Nat) (b : List UInt8) : Prop where
  rd : Reads w w.heap.size (some ⟨ab, ao, none⟩) n b
  fit : n ≤ c
  cap : c ≤ 9223372036854775807
  len : n ≤ 1048576
theorem Tx.still {w w' : World} {ab ao n c : Nat} {b : List UInt8} (h : Tx w ab ao n c b) (s : Still w w') : Tx w' ab ao n c b := ⟨(h.rd.still (Nat.le_refl _) s).more s.size, h.fit, h.cap, h.len⟩
theorem Tx.mid {w : World} {ab ao n c : Nat} {b : List UInt8} (h : Tx w ab ao n c b) {p k : Nat} (hp : p + k ≤ n) : Reads w w.heap.size (some ⟨ab, ao + p, none⟩) k ((b.drop p).take k) := by
  have hl := h.rd.len
  refine ⟨by rw [List.length_take, List.length_drop]; omega, fun hk => ?_⟩
  obtain ⟨b2, o2, e, hb, hc⟩ := h.rd.at_ (by omega)
  cases e
  refine ⟨ab, ao + p, rfl, hb, fun i hi => ?_⟩
  have := hc (p + i) (by omega)
  rw [Nat.add_assoc, this]
  congr 3
  simp [List.getD, List.getElem?_take, List.getElem?_drop, hi]
set_option maxRecDepth 100000 in
set_option maxHeartbeats 1600000 in
theorem rat_any {w : World} {ab ao n c : Nat} {b : List UInt8} (h : Tx w ab ao n c b) (p : Nat) (hp : p + 4 ≤ n) :
    Calls Try.prog 45 #[.slice (some ⟨ab, ao, none⟩) n c, .int .i64 p] w fun e w' => e = .returned (.int .i64 (leNum ((b.drop p).take 4) : Nat)) ∧ w = w' := by
  have hx := leNum4 (b.drop p)
  have RG := Lib.hid (fun c' => rget_yes (some ⟨ab, ao + p, none⟩) 4 c' ((b.drop p).take 4) w _ (h.mid (p := p) (k := 4) hp) (by omega) (by omega))
  obtain ⟨x, hx2⟩ : ∃ x, x = leNum ((b.drop p).take 4) := ⟨_, rfl⟩
  simp only [← hx2] at RG
  rw [← hx2] at hx ⊢
  have d1 : (x : Int) ≤ 4294967295 := by omega
  have d2 : (p : Int) + 4 ≤ (n : Int) := by omega
  have d3 : (n : Int) ≤ (c : Int) := by have := h.fit; omega
  have d4 : (n : Int) ≤ 1048576 := by have := h.len; omega
  have d5 : (p : Int) + 4 ≤ (c : Int) := by omega
  have d6 : (0 : Int) ≤ (p : Int) := by omega
  have hpc : ¬ c = p := by have := h.fit; omega
  have HM := Lib.hid h.cap
  clear h hx hx2 hp
  go_enter Try.func45, Try.ntmps45
  go_wp2_with (go_at_call 70; with_reducible refine (RG.out _).mono ?_; rintro e w1 ⟨rfl, rfl⟩)
  go_ret
  exact ⟨rfl, rfl⟩
theorem fill_step (K : List UInt8) (hK : K.length = 32) {k : Nat} (hk : k < 32) : (K.take k ++ List.replicate (32 - k) 0).set k (K.getD k 0) = K.take (k + 1) ++ List.replicate (32 - (k + 1)) 0 := by
  have h1 : (K.take k).length = k := by rw [List.length_take]; omega
  rw [List.set_append_right _ _ (by omega), h1, Nat.sub_self, show 32 - k = (32 - (k + 1)) + 1 by omega, List.replicate_succ, List.set_cons_zero, List.take_add_one, List.append_assoc]
  congr 1
  simp [List.getD, show k < K.length by omega]
set_option maxRecDepth 100000 in
set_option maxHeartbeats 1600000 in
theorem rkey_any {w : World} {ab ao n c : Nat} {b : List UInt8} (h : Tx w ab ao n c b) (p : Nat) (hp : p + 32 ≤ n) :
    Calls Try.prog 44 #[.slice (some ⟨ab, ao, none⟩) n c, .int .i64 p] w fun e w' => e = .returned (.agg (bytesV ((b.drop p).take 32)).toArray) ∧ Still w w' := by
  obtain ⟨K, hK⟩ : ∃ K, K = (b.drop p).take 32 := ⟨_, rfl⟩
  have hl := h.rd.len
  have hKl : K.length = 32 := by rw [hK, List.length_take, List.length_drop]; omega
  have hlt : ab < w.heap.size := by
    obtain ⟨b2, o2, e, hb, _⟩ := h.rd.at_ (by omega)
    cases e
    exact hb
  obtain ⟨z, hz⟩ : ∃ z, z = (bytesV (List.replicate 32 0)).toArray := ⟨_, rfl⟩
  obtain ⟨wA, hwA⟩ : ∃ wA, wA = w.alloc (.cells z 62) := ⟨_, rfl⟩
  obtain ⟨wB, hwB⟩ : ∃ wB, wB = wA.alloc (.cells z 62) := ⟨_, rfl⟩
  obtain ⟨g4, hg4⟩ : ∃ g, g = w.heap.size := ⟨_, rfl⟩
  obtain ⟨g5, hg5⟩ : ∃ g, g = wA.heap.size := ⟨_, rfl⟩
  have zA : wA.heap.size = w.heap.size + 1 := by rw [hwA]; simp
  have sA : Still w wA := by rw [hwA]; exact (Still.refl w).alloc (Nat.le_refl _) _
  have sB : Still wA wB := by rw [hwB]; exact (Still.refl wA).alloc (Nat.le_refl _) _
  have b4 : Blk wB g4 62 z := by
    have h1 : Blk wA g4 62 z := by rw [hwA, hg4]; exact Blk.new w _ _
    exact h1.still sB
  have b5 : Blk wB g5 62 z := by rw [hwB, hg5]; exact Blk.new wA _ _
  have HZI := Lib.hid (show (Try.prog.info? 62).map (fun i => (i.zero, i.size)) = some (some (.agg z), 32) by rw [hz]; kernel_rfl)
  have IN0 := Lib.hid (show Blk wB g5 62 (bytesV (K.take 0 ++ List.replicate (32 - 0) 0)).toArray ∧ Blk wB g4 62 z ∧ Still w wB from ⟨by rw [List.take_zero, List.nil_append, Nat.sub_zero, ← hz]; exact b5, b4, Still.trans sA sB⟩)
  have CB := Lib.hid (fun (k : Nat) (hk : k < 32) W (s : Still w W) => show W.cell? ⟨ab, ao + (p + k), none⟩ = some (.int .u8 ((K.getD k 0).toNat : Int)) from by
    have h1 := (h.still s).mid (p := p) (k := 32) hp
    rw [← hK] at h1
    have := h1.cellAt k hk
    rwa [Nat.add_assoc] at this)
  have HK := Lib.hid hK
  have HKL := Lib.hid hKl
  have HWA := Lib.hid hwA
  have HWB := Lib.hid hwB
  have G4 := Lib.hid hg4
  have G5 := Lib.hid hg5
  have GG := Lib.hid (show w.heap.size ≤ g4 ∧ g4 ≠ g5 ∧ w.heap.size ≤ g5 from ⟨by omega, by omega, by omega⟩)
  have ZS := Lib.hid (show z.size = 32 by rw [hz]; simp [bytesV_length])
  have d2 : (p : Int) + 32 ≤ (n : Int) := by omega
  have d3 : (n : Int) ≤ (c : Int) := by have := h.fit; omega
  have d4 : (n : Int) ≤ 1048576 := by have := h.len; omega
  have d6 : (0 : Int) ≤ (p : Int) := by omega
  have al : Try.prog.arrayLen 62 = 32 := by kernel_rfl
  rw [← hK]
  clear hK hl hKl hlt hz hwA hwB hg4 hg5 zA sA sB b4 b5 h hp
  go_enter Try.func44, Try.ntmps44
  go_wp2_with (first
    | (guard_target =~ wpList _ _ _ (Oper.mk (some 4) _ _ _ _ _ :: _) _ _; go_must (refine wpList_alloc_arr rfl 62 rfl (some 4) rfl z 32 HZI.out ?_); rw [← HWA.out, ← G4.out])
    | (guard_target =~ wpList _ _ _ (Oper.mk (some 5) _ _ _ _ _ :: _) _ _; go_must (refine wpList_alloc_arr rfl 62 rfl (some 5) rfl z 32 HZI.out ?_); rw [← HWB.out, ← G5.out]))
  go_loopw [6] (fun kv wr => ∃ k : Nat, k ≤ 32 ∧ kv = .int .i64 k ∧ Hid (Blk wr g5 62 (bytesV (K.take k ++ List.replicate (32 - k) 0)).toArray ∧ Blk wr g4 62 z ∧ Still w wr)) (fun kv _ => 32 - (intOf kv).toNat)
  case atStart => exact ⟨0, by omega, rfl, IN0⟩
  case round =>
    obtain ⟨k, hk, rfl, KN⟩ := hrel
    clear IN0
    by_cases hlt : k < 32
    · obtain ⟨y, hy⟩ : ∃ y, y = K.getD k 0 := ⟨_, rfl⟩
      have cb := CB.out k hlt wr KN.out.2.2
      rw [← hy] at cb
      obtain ⟨q, hq⟩ : ∃ q, q = p + k := ⟨_, rfl⟩
      rw [← hq] at cb
      have eq : (p : Int) + (k : Int) = (q : Int) := by omega
      have eqw : IntKind.i64.wrap (q : Int) = (q : Int) := by rw [IntKind.wrap_i64]; omega
      have q1 : (q : Int) < (n : Int) := by omega
      have q0 : (0 : Int) ≤ (q : Int) := by omega
      have k1 : (k : Int) < 32 := by omega
      have ck : wr.cell? ⟨g5, k, none⟩ = some (.int .u8 (((K.take k ++ List.replicate (32 - k) 0).getD k 0).toNat : Int)) := by
        rw [KN.out.1.cell, List.getElem?_toArray, bytesV_get _ _ (by simp; have := HKL.out; omega)]
      have fk := KN.out.1.frozen k
      have NX := Lib.hid (show Blk (wr.setCell ⟨g5, k, none⟩ (.int .u8 (y.toNat : Int))) g5 62 (bytesV (K.take (k + 1) ++ List.replicate (32 - (k + 1)) 0)).toArray ∧ Blk (wr.setCell ⟨g5, k, none⟩ (.int .u8 (y.toNat : Int))) g4 62 z ∧ Still w (wr.setCell ⟨g5, k, none⟩ (.int .u8 (y.toNat : Int))) from
        ⟨by
          have := KN.out.1.setc k (.int .u8 (y.toNat : Int))
          rw [List.setIfInBounds_toArray, bytesV_set, hy, fill_step K HKL.out hlt] at this
          rw [hy]
          exact this, KN.out.2.1.far (Ne.symm GG.out.2.1.symm) _, KN.out.2.2.setCell GG.out.2.2 _⟩)
      clear hy hq hlt KN
      go_wp2_with fail
      go_roundw
      case rel => exact ⟨k + 1, by omega, by go_num, NX⟩
      case measure => simp [intOf]; omega
    · have hk3 : k = 32 := by omega
      subst hk3
      have B5 := Lib.hid (show Blk wr g5 62 (bytesV K).toArray from by
        have := KN.out.1
        rwa [List.take_of_length_le (by have := HKL.out; omega), Nat.sub_self, List.replicate_zero, List.append_nil] at this)
      have B4 := Lib.hid KN.out.2.1
      have SW := Lib.hid KN.out.2.2
      have R5 := Lib.hid (show wr.rangeAt g5 0 (bytesV K) from fun j u hj => by rw [Nat.zero_add, B5.out.cell, List.getElem?_toArray, hj])
      have SZ := Lib.hid (show (Try.prog.info? 62).map (·.size) = some (bytesV K).length from by rw [size32, bytesV_length, HKL.out])
      have SZA := Lib.hid (show (Try.prog.info? 62).map (·.size) = some (bytesV K).toArray.size from by rw [size32]; simp [bytesV_length, HKL.out])
      have SEQ := Lib.hid (show z.size = (bytesV K).toArray.size from by rw [ZS.out]; simp [bytesV_length, HKL.out])
      clear KN hlt
      go_wp2_with (first
        | (guard_target =~ wpList _ _ _ (Oper.mk (some 19) _ _ _ _ _ :: _) _ _; go_must (refine wpList_load_mid rfl 62 (.tmp 5) rfl g5 0 rfl (bytesV K) _ R5.out under32 rfl SZ.out ?_))
        | (guard_target =~ wpList _ _ _ (Oper.mk none (Op.store _ _ _) _ _ _ _ :: _) _ _; go_must (refine wpList_store_rowTo rfl 62 (.tmp 4) (.tmp 19) rfl rfl g4 (bytesV K).toArray rfl rfl 62 _ B4.out SZA.out SEQ.out (all_oneCell_toArray (bytesV_one _)) ?_)))
      refine bodyPost_ret (results_cell_row rfl _ _ g4 _ _ _ _ rfl (setRow_heap wr _ _ _ _ _ B4.out) under32 rfl SZA.out) rfl ?_
      exact ⟨rfl, below_setRow SW.out GG.out.1 _⟩
end Go.Proofs.Ytgbkpbmilaafgaa

/- Contract: how many rows a book has (index), by the document. It proves no statement. -/


namespace Go.Proofs.Ytgbkpbmilaafgaa
open Go.RowKit
set_option linter.unusedVariables false
set_option linter.unusedSimpArgs false

/-- Why there are no rows, if there are none. -/
theorem why_i (b : List UInt8) : b.length < 12 ∧ kI.rd1 b = (0, 3) ∨ 12 ≤ b.length ∧ (b.take 8 ≠ kI.nm ∧ kI.rd1 b = (0, 4) ∨ b.take 8 = kI.nm ∧ (65536 < cntB b ∧ kI.rd1 b = (0, 4) ∨ cntB b ≤ 65536 ∧ (b.length < 20 + 44 * cntB b ∧ kI.rd1 b = (0, 3) ∨ 20 + 44 * cntB b < b.length ∧ kI.rd1 b = (0, 6) ∨ b.length = 20 + 44 * cntB b ∧ kI.rd1 b = (cntB b, 0)))) := by
  unfold Kd.rd1
  rw [show kI.wide = 44 from rfl]
  by_cases h1 : b.length < 12
  · exact .inl ⟨h1, if_pos h1⟩
  · refine .inr ⟨by omega, ?_⟩
    rw [if_neg h1]
    by_cases h2 : b.take 8 = kI.nm
    · refine .inr ⟨h2, ?_⟩
      by_cases h3 : 65536 < cntB b
      · exact .inl ⟨h3, if_pos (.inr h3)⟩
      · refine .inr ⟨by omega, ?_⟩
        rw [if_neg (by rintro (h | h); exact h h2; exact h3 h)]
        by_cases h4 : b.length < 20 + 44 * cntB b
        · exact .inl ⟨h4, if_pos h4⟩
        · rw [if_neg h4]
          by_cases h5 : 20 + 44 * cntB b < b.length
          · exact .inr (.inl ⟨h5, if_pos h5⟩)
          · exact .inr (.inr ⟨by omega, if_neg h5⟩)
    · exact .inl ⟨h2, if_pos (.inl h2)⟩
theorem rdN_err_i {b : List UInt8} {e : Int} (h : kI.rd1 b = (0, e)) (he : e ≠ 0) : kI.rdN b = (0, e) := by
  unfold Kd.rdN
  rw [h, if_pos he]
set_option maxRecDepth 100000 in
set_option maxHeartbeats 3200000 in
theorem rows_i {w : World} {A : Option Addr} {n c : Nat} {b : List UInt8} (hl : b.length = n) (hn : n ≤ 1048576) (hT : 12 ≤ n → ∃ ab ao, A = some ⟨ab, ao, none⟩ ∧ Tx w ab ao n c b) :
    Calls Try.prog 43 #[.string ⟨#[72, 79, 65, 82, 68, 73, 68, 88]⟩, .int .i64 44, .slice A n c] w fun e w' => e = .returned (.tuple #[.int .i64 ((kI.rdN b).1 : Nat), .int .i64 (kI.rdN b).2]) ∧ Still w w' := by
  have d4 : (n : Int) ≤ 1048576 := by omega
  rcases why_i b with ⟨h1, h2⟩ | ⟨h1, hR⟩
  · have E := Lib.hid (rdN_err_i h2 (by decide))
    have d1 : (n : Int) < 12 := by omega
    rw [E.out]
    clear h1 h2 hT hl hn
    go_enter Try.func43, Try.ntmps43
    go_wp2_with fail
    (try simp only [Exit.inBlock, Exit.then])
    go_ret2
    exact ⟨rfl, Still.refl _⟩
  · obtain ⟨ab, ao, rfl, tx⟩ := hT (by omega)
    have d1 : ¬ (n : Int) < 12 := by omega
    have d3 : (n : Int) ≤ (c : Int) := by have := tx.fit; omega
    have c12 : (12 : Int) ≤ (c : Int) := by omega
    have c8 : ¬ c = 8 := by have := tx.fit; omega
    have RG := Lib.hid (fun c' => rget_yes (some ⟨ab, ao + 8, none⟩) 4 c' ((b.drop 8).take 4) w _ (tx.mid (p := 8) (k := 4) (by omega)) (by omega) (by omega))
    have hc4 := leNum4 (b.drop 8)
    obtain ⟨cn, hcn⟩ : ∃ cn, cn = leNum ((b.drop 8).take 4) := ⟨_, rfl⟩
    simp only [← hcn] at RG
    rw [← hcn] at hc4
    rw [show cntB b = cn from hcn.symm] at hR
    have kc := conv_reads (tx.rd.takek (k := 8) (by omega)) c
    obtain ⟨sv, hsv⟩ : ∃ sv : ByteArray, sv = ⟨(b.take 8).toArray⟩ := ⟨_, rfl⟩
    have SV := Lib.hid (show sv.toList = b.take 8 by rw [ByteArray.toList_eq, hsv])
    rw [← hsv] at kc
    have d5 : (cn : Int) ≤ 4294967295 := by omega
    have LB := Lib.hid hl
    have TX := Lib.hid tx
    clear hcn hsv hc4 hT tx hn hl h1
    rcases hR with ⟨h1, h2⟩ | ⟨h1, ⟨h2, h3⟩ | ⟨h2, hR⟩⟩
    · have E := Lib.hid (rdN_err_i h2 (by decide))
      have ns : ¬ sv.toList = [72, 79, 65, 82, 68, 73, 68, 88] := by rw [SV.out]; exact h1
      rw [E.out]
      clear h1 h2
      go_enter Try.func43, Try.ntmps43
      go_wp2_with (go_at_call 70; with_reducible refine (RG.out _).mono ?_; rintro e w1 ⟨rfl, rfl⟩)
      (try simp only [Exit.inBlock, Exit.then])
      go_ret2
      exact ⟨rfl, Still.refl _⟩
    · have E := Lib.hid (rdN_err_i h3 (by decide))
      have ns : sv.toList = [72, 79, 65, 82, 68, 73, 68, 88] := by rw [SV.out]; exact h1
      have d6 : (65536 : Int) < (cn : Int) := by omega
      rw [E.out]
      clear h1 h2 h3
      go_enter Try.func43, Try.ntmps43
      go_wp2_with (go_at_call 70; with_reducible refine (RG.out _).mono ?_; rintro e w1 ⟨rfl, rfl⟩)
      (try simp only [Exit.inBlock, Exit.then])
      go_ret2
      exact ⟨rfl, Still.refl _⟩
    · have ns : sv.toList = [72, 79, 65, 82, 68, 73, 68, 88] := by rw [SV.out]; exact h1
      have d6 : ¬ (65536 : Int) < (cn : Int) := by omega
      have d7 : (cn : Int) ≤ 65536 := by omega
      obtain ⟨m, hm⟩ : ∃ m, m = cn * 44 := ⟨_, rfl⟩
      have em : (cn : Int) * 44 = (m : Int) := by omega
      have m1 : (m : Int) ≤ 2883584 := by omega
      have em2 : IntKind.i64.wrap (m : Int) = (m : Int) := by rw [IntKind.wrap_i64]; omega
      rcases hR with ⟨h3, h4⟩ | ⟨h3, h4⟩ | ⟨h3, h4⟩
      · have E := Lib.hid (rdN_err_i h4 (by decide))
        have d8 : (n : Int) < 20 + (m : Int) := by have := LB.out; omega
        rw [E.out]
        clear h1 h2 h3 h4 hm
        go_enter Try.func43, Try.ntmps43
        go_wp2_with (go_at_call 70; with_reducible refine (RG.out _).mono ?_; rintro e w1 ⟨rfl, rfl⟩)
        (try simp only [Exit.inBlock, Exit.then])
        go_ret2
        exact ⟨rfl, Still.refl _⟩
      · have E := Lib.hid (rdN_err_i h4 (by decide))
        have d8 : ¬ (n : Int) < 20 + (m : Int) := by have := LB.out; omega
        have d9 : 20 + (m : Int) < (n : Int) := by have := LB.out; omega
        rw [E.out]
        clear h1 h2 h3 h4 hm
        go_enter Try.func43, Try.ntmps43
        go_wp2_with (go_at_call 70; with_reducible refine (RG.out _).mono ?_; rintro e w1 ⟨rfl, rfl⟩)
        (try simp only [Exit.inBlock, Exit.then])
        go_ret2
        exact ⟨rfl, Still.refl _⟩
      · have d8 : ¬ (n : Int) < 20 + (m : Int) := by have := LB.out; omega
        have d9 : ¬ 20 + (m : Int) < (n : Int) := by have := LB.out; omega
        obtain ⟨p, hp⟩ : ∃ p, p = 12 + 44 * cn := ⟨_, rfl⟩
        have ep : 12 + (m : Int) = (p : Int) := by omega
        have p0 : (0 : Int) ≤ (p : Int) := by omega
        have hnp : n = p + 8 := by have := LB.out; omega
        have p1 : (p : Int) < (n : Int) := by omega
        have p2 : (p : Int) ≤ (c : Int) := by omega
        have p3 : (p : Int) < (c : Int) := by omega
        have cp : ¬ c = p := by omega
        have np : (n : Int) - (p : Int) = 8 := by omega
        have np2 : n - p = 8 := by omega
        have RG2 := Lib.hid (fun c' => by
          have := rget_yes (some ⟨ab, ao + p, none⟩) 8 c' ((b.drop p).take 8) w _ (TX.out.mid (p := p) (k := 8) (by omega)) (by omega) (by omega)
          rw [List.take_of_length_le (by rw [List.length_drop]; have := LB.out; omega)] at this
          exact this)
        have XS := Lib.hid (rsum_any (some ⟨ab, ao, none⟩) p c (b.take p) 0 w w.heap.size (TX.out.rd.takek (k := p) (by omega)) (Nat.le_refl _) (by have := TX.out.len; omega) (by have := TX.out.fit; omega) (by decide))
        obtain ⟨q1, hq1⟩ : ∃ q, q = leNum (b.drop p) := ⟨_, rfl⟩
        obtain ⟨q2, hq2⟩ : ∃ q, q = xxSum (b.take p) 0 := ⟨_, rfl⟩
        simp only [← hq1] at RG2
        simp only [← hq2, show ((0 : Nat) : Int) = 0 from rfl] at XS
        have RDN := Lib.hid (show kI.rdN b = if q1 = q2 then (cn, 0) else (0, 13) from by
          unfold Kd.rdN
          rw [h4, if_neg (by simp)]
          simp only [show kI.wide = 44 from rfl, ← hp, ← hq1, ← hq2, ne_eq, ite_not])
        clear h1 h2 h3 h4 hm hp hnp hq1 hq2
        by_cases hq : q1 = q2
        · subst hq
          have E := Lib.hid (show kI.rdN b = (cn, 0) by rw [RDN.out, if_pos rfl])
          rw [E.out]
          clear RDN
          go_enter Try.func43, Try.ntmps43
          go_wp2_with (first
            | (go_at_call 70; first
                | (with_reducible refine (RG.out _).mono ?_; rintro e w1 ⟨rfl, rfl⟩)
                | (with_reducible refine (RG2.out _).mono ?_; rintro e w1 ⟨rfl, rfl⟩))
            | (go_at_call 64; with_reducible refine XS.out.mono ?_; rintro e w2 ⟨rfl, s2⟩; have S2 := Lib.hid s2; clear s2))
          (try simp only [Exit.inBlock, Exit.then])
          go_ret2
          exact ⟨rfl, S2.out⟩
        · have E := Lib.hid (show kI.rdN b = (0, 13) by rw [RDN.out, if_neg hq])
          have nq : ¬ (q1 : Int) = (q2 : Int) := by omega
          have nq2 : ((q1 : Int) != (q2 : Int)) = true := by simp; omega
          rw [E.out]
          clear RDN hq
          go_enter Try.func43, Try.ntmps43
          go_wp2_with (first
            | (go_at_call 70; first
                | (with_reducible refine (RG.out _).mono ?_; rintro e w1 ⟨rfl, rfl⟩)
                | (with_reducible refine (RG2.out _).mono ?_; rintro e w1 ⟨rfl, rfl⟩))
            | (go_at_call 64; with_reducible refine XS.out.mono ?_; rintro e w2 ⟨rfl, s2⟩; have S2 := Lib.hid s2; clear s2))
          (try simp only [Exit.inBlock, Exit.then])
          go_ret2
          exact ⟨rfl, S2.out⟩
end Go.Proofs.Ytgbkpbmilaafgaa

/- Rows (index) that grow: '[]T{x}', 'append(row, x)'. It proves no statement. -/


namespace Go.Proofs.Ytgbkpbmilaafgaa
open Go.RowKit
set_option linter.unusedVariables false
set_option linter.unusedSimpArgs false

def zr_i : Rw := (List.replicate 32 0, List.replicate 3 0)
theorem infoG_i : (Try.prog.info? 66).map (fun i => (i.zero, i.size, i.bytes)) = some (some (.agg (rowV zr_i).toArray), 35, 56) := by kernel_rfl
set_option maxRecDepth 100000 in
theorem fillG_i (r : Rw) (ok : kI.Ok r) :
    Instr.fill (fun i => some (i * 35, 35)) ((Array.range (1 * 35)).map ((Value.agg (rowV zr_i).toArray).cells[· % (Value.agg (rowV zr_i).toArray).cells.size]!)) [(0, .agg (rowV r).toArray)] = some (rowV r).toArray := by
  obtain ⟨K, N⟩ := r
  obtain ⟨hK, hN⟩ := ok
  simp only at hK hN
  obtain ⟨x, y, z, rfl⟩ : ∃ x y z, N = [x, y, z] := by
    match N, hN with
    | [x, y, z], _ => exact ⟨x, y, z, rfl⟩
  obtain ⟨k0, k1, k2, k3, k4, k5, k6, k7, k8, k9, k10, k11, k12, k13, k14, k15, k16, k17, k18, k19, k20, k21, k22, k23, k24, k25, k26, k27, k28, k29, k30, k31, rfl⟩ := list32 K hK
  kernel_rfl
theorem wpList_boxG_i (w : World) {ops : Array Oper} {rest : List Oper} {o : Oper} {a : Act} {Q : Exit → Act → World → Prop} (hgd : o.guard = none) (x : Operand)
    (ho : o.op = .buildSlice 22 1 #[(0, x)]) (r : Rw) (ok : kI.Ok r) (hx : a.eval x = .agg (rowV r).toArray)
    (h : wpList Try.prog ops Q rest (a.put o.dst (.slice (some ⟨w.heap.size, 0, none⟩) 1 1)) (w.alloc (.cells (rowV r).toArray 66))) : wpList Try.prog ops Q (o :: rest) a w := by
  refine wpList_plain hgd fun _ hQ => ?_
  obtain ⟨i0, hi, hz0, hz1, hz2⟩ := info_parts infoG_i
  refine wp_buildSlice 22 66 1 #[(0, x)] ho (rowV r).toArray i0 _ Try.underlying22 hi hz0 (by rw [hz1]; decide) (by rw [hz1]; decide) ?_ (hQ _ _ h)
  rw [hz1]
  simp only [List.map_toArray, List.map_cons, List.map_nil, hx]
  exact fillG_i r ok
theorem wpList_pushG_i (w : World) {ops : Array Oper} {rest : List Oper} {o : Oper} {a : Act} {Q : Exit → Act → World → Prop} (hgd : o.guard = none) (s x : Operand)
    (ho : o.op = .call { callee := .builtin .append, args := #[s, x], argTypes := #[22, 22] })
    (base : Nat) (v : Value) (n : Nat) (xs : List Value) (hs : a.eval s = v) (hown : w.ownsRow base 66 35 v n xs) (cs : List Value) (hc6 : cs.length = 35) (h1 : ∀ u ∈ cs, u.oneCell' = true)
    (hx : a.eval x = .slice (some ⟨w.heap.size, 0, none⟩) 1 1) (hn : n ≤ 1048576) (hbase : base ≤ w.heap.size)
    (h : ∀ v' w', w'.ownsRow base 66 35 v' (n + 1) (xs ++ cs) → w.grownBy w' v.ownBlock → wpList Try.prog ops Q rest (a.put o.dst v') w') :
    wpList Try.prog ops Q (o :: rest) a (w.alloc (.cells cs.toArray 66)) := by
  refine wpList_plain hgd fun _ hQ => ?_
  obtain ⟨i0, hi, hz0, hz1, hz2⟩ := info_parts infoG_i
  obtain ⟨v', w', hrun, h2, h3, _, h5⟩ := run_append_own_at (P := Try.prog) (w.alloc (.cells cs.toArray 66)) base 22 o.type 66 i0 _ 35 56 Try.underlying22 hi hz0 hz1 hz2 rfl (by decide) v n xs (hown.alloc _) ⟨w.heap.size, 0, none⟩ 1 1 cs (by rw [hc6]) (fun j u hu => by
    rw [Addr.add_mid, Nat.zero_add, (Blk.new w _ _).cell, List.getElem?_toArray]; exact hu) h1 (by unfold maxLen; omega) (by omega) (by simp; omega)
  unfold Oper.wp execOp
  simp only [ho, resolve, invoke, builtin, Sem.run_bind, Sem.run_pure, Result.andThen_ok, List.map_toArray, List.map_cons, List.map_nil, hs, hx, hrun]
  refine hQ _ _ (h v' w' h2 ⟨h3.os, h3.tape, h3.output, by have := h3.size; simp at this; omega, fun k hk hne => ?_⟩)
  rw [h3.block k (by simp; omega) hne]
  exact Below.heap_alloc w _ k hk
end Go.Proofs.Ytgbkpbmilaafgaa
