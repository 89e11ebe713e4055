/- The document's own Same of two lists of entries found that are alike. It proves no statement. -/
import Derived.Test.YtnhkabohccbglaaDoorFrRSal
import Derived.Test.YtnhkabohccbglaaDoorFrBackM
import Derived.Deep.MidRow
import Derived.Deep.RegionHeld
namespace Go.Proofs.YtnhkabohccbglaaDoor
open Go.RowKit
set_option linter.unusedVariables false
set_option linter.unusedSimpArgs false

/-- One entry of a row of entries found. -/
theorem HasF.at_ {W : World} {B : Nat} : ∀ (F : List Fo) (xs : List Value) (i : Nat) (f : Fo), HasF W B F xs → F[i]? = some f → ∃ v, f.K.length = 32 ∧ W.ownsRow B 5 1 v f.D.length (bytesV f.D) ∧ ∀ q, q < 36 → xs[i * 36 + q]? = (foL f.t f.K v f.at_ f.n)[q]?
  | [], _, i, f, _, hf => by simp at hf
  | g :: F, xs, 0, f, ⟨v, ys, h1, h2, h3, h4⟩, hf => by
    simp only [List.getElem?_cons_zero, Option.some.injEq] at hf
    subst hf
    refine ⟨v, h2, h3, fun q hq => ?_⟩
    rw [h1, Nat.zero_mul, Nat.zero_add, List.getElem?_append_left (by rw [foL_len _ _ _ _ _ h2]; exact hq)]
  | g :: F, xs, i + 1, f, ⟨v, ys, h1, h2, h3, h4⟩, hf => by
    obtain ⟨v', a, b, c⟩ := HasF.at_ F ys i f h4 (by simpa using hf)
    refine ⟨v', a, b, fun q hq => ?_⟩
    rw [h1, List.getElem?_append_right (by rw [foL_len _ _ _ _ _ h2]; omega), foL_len _ _ _ _ _ h2, ← c q hq]
    congr 1
    omega
/-- Its cells in memory. -/
structure AtF (W : World) (g p : Nat) (f : Fo) (v : Value) : Prop where
  ent : W.rangeAt g p (entL f.t f.K v)
  at_ : W.cell? ⟨g, p + 34, none⟩ = some (.int .i64 f.at_)
  n : W.cell? ⟨g, p + 35, none⟩ = some (.int .i64 f.n)
theorem atF {W : World} {B base g N c i : Nat} {F : List Fo} {xs : List Value} {f : Fo} (ho : W.ownsRow base 55 36 (.slice (some ⟨g, 0, none⟩) N c) N xs) (hF : HasF W B F xs) (hf : F[i]? = some f) (hi : i < N) : ∃ A n d, f.K.length = 32 ∧ W.ownsRow B 5 1 (.slice A n d) n (bytesV f.D) ∧ n = f.D.length ∧ AtF W g (i * 36) f (.slice A n d) := by
  obtain ⟨v, h1, h2, h3⟩ := HasF.at_ F xs i f hF hf
  obtain ⟨A, d, rfl, _, _, _⟩ := own_form h2
  have hc : ∀ q, q < 36 → W.cell? ⟨g, i * 36 + q, none⟩ = (foL f.t f.K (.slice A f.D.length d) f.at_ f.n)[q]? := fun q hq => by rw [ho.cellAt (i * 36 + q) (by omega), h3 q hq]
  have hl := entL_len f.t f.K (.slice A f.D.length d) h1
  refine ⟨A, _, d, h1, h2, rfl, ⟨fun j u hj => ?_, ?_, ?_⟩⟩
  · have hj34 : j < 34 := by rw [← hl]; exact (List.getElem?_eq_some_iff.1 hj).1
    rw [hc j (by omega)]
    unfold foL
    rw [List.getElem?_append_left (by omega)]
    exact hj
  · rw [hc 34 (by omega)]
    unfold foL
    rw [List.getElem?_append_right (by omega), hl]
    rfl
  · rw [hc 35 (by omega)]
    unfold foL
    rw [List.getElem?_append_right (by omega), hl]
    rfl

set_option maxRecDepth 100000 in
set_option maxHeartbeats 6400000 in
theorem sameF_yes (lv1 lv2 : Value) (xs1 xs2 : List Value) (F : List Fo) (w : World) (b1 b2 : Nat) (hb1 : b1 ≤ w.heap.size) (hb2 : b2 ≤ w.heap.size) (o1 : w.ownsRow b1 55 36 lv1 F.length xs1) (o2 : w.ownsRow b2 55 36 lv2 F.length xs2) (h1 : HasF w b1 F xs1) (h2 : HasF w b2 F xs2) (hD : ∀ f ∈ F, f.D.length ≤ 1048576) (hN6 : F.length ≤ 1048576) :
    Calls Tryd.prog 24 #[lv1, lv2] w fun e w' => e = .returned (.bool true) ∧ Still w w' := by
  obtain ⟨N, hN⟩ : ∃ N, N = F.length := ⟨_, rfl⟩
  rw [← hN] at o1 o2 hN6
  have f1 : ∃ A c, lv1 = .slice A N c := by rcases o1.2 with ⟨h, h0⟩ | ⟨g, c, cur, h, _⟩; exact ⟨_, _, by rw [h, h0]⟩; exact ⟨_, _, h⟩
  have f2 : ∃ A c, lv2 = .slice A N c := by rcases o2.2 with ⟨h, h0⟩ | ⟨g, c, cur, h, _⟩; exact ⟨_, _, by rw [h, h0]⟩; exact ⟨_, _, h⟩
  obtain ⟨a1, c1, rfl⟩ := f1
  obtain ⟨a2, c2, rfl⟩ := f2
  have OO := Lib.hid (fun W (s : Still w W) => (show W.ownsRow b1 55 36 (.slice a1 N c1) N xs1 ∧ W.ownsRow b2 55 36 (.slice a2 N c2) N xs2 ∧ HasF W b1 F xs1 ∧ HasF W b2 F xs2 from
    ⟨o1.kept (row := none) (grown_still0 s) (by cases (Value.slice a1 N c1).ownBlock <;> simp), o2.kept (row := none) (grown_still0 s) (by cases (Value.slice a2 N c2).ownBlock <;> simp), HasF.keep (fun v n l h => own_still h s) F xs1 h1, HasF.keep (fun v n l h => own_still h s) F xs2 h2⟩))
  have G1 := Lib.hid (show 0 < N → ∃ g, a1 = some ⟨g, 0, none⟩ from fun h => by
    rcases o1.2 with ⟨_, h0⟩ | ⟨g, c, cur, e, _⟩
    · omega
    · injection e with e1; exact ⟨g, e1⟩)
  have G2 := Lib.hid (show 0 < N → ∃ g, a2 = some ⟨g, 0, none⟩ from fun h => by
    rcases o2.2 with ⟨_, h0⟩ | ⟨g, c, cur, e, _⟩
    · omega
    · injection e with e1; exact ⟨g, e1⟩)
  have HB := Lib.hid (And.intro hb1 hb2)
  have HD := Lib.hid hD
  have HN := Lib.hid hN
  obtain ⟨fs, hu⟩ := underEnt
  have HU := Lib.hid hu
  clear o1 o2 h1 h2 hb1 hb2 hD hN hu
  go_enter Tryd.func24, Tryd.ntmps24
  go_wp2_with fail
  go_loopw [5] (fun iv wr => ∃ i : Nat, iv = .int .i64 i ∧ i ≤ N ∧ Hid (Still w wr)) (fun iv _ => N - (intOf iv).toNat)
  case atStart => exact ⟨0, rfl, Nat.zero_le _, Still.refl w⟩
  case round =>
    obtain ⟨i, rfl, hi, hs⟩ := hrel
    by_cases hlt : i < N
    · obtain ⟨g1, rfl⟩ := G1.out (by omega)
      obtain ⟨g2, rfl⟩ := G2.out (by omega)
      obtain ⟨q1, q2, q3, q4⟩ := OO.out wr hs.out
      obtain ⟨f, hf⟩ : ∃ f, F[i]? = some f := ⟨_, List.getElem?_eq_getElem (by have := HN.out; omega)⟩
      have hfD := HD.out f (List.mem_of_getElem? hf)
      obtain ⟨A1, nD, d1, k1, k2, k3, k4⟩ := atF q1 q3 hf hlt
      obtain ⟨A2, nD2, d2, m1, m2, m3, m4⟩ := atF q2 q4 hf hlt
      obtain rfl : nD2 = nD := by rw [m3, k3]
      have KL := Lib.hid k1
      have FF := Lib.hid (fun W (s : Still wr W) => (show W.rangeAt g1 (i * 36) (entL f.t f.K (.slice A1 nD2 d1)) ∧ W.rangeAt g2 (i * 36) (entL f.t f.K (.slice A2 nD2 d2)) ∧ W.cell? ⟨g1, i * 36 + 34, none⟩ = some (.int .i64 f.at_) ∧ W.cell? ⟨g1, i * 36 + 35, none⟩ = some (.int .i64 f.n) ∧ W.cell? ⟨g2, i * 36 + 34, none⟩ = some (.int .i64 f.at_) ∧ W.cell? ⟨g2, i * 36 + 35, none⟩ = some (.int .i64 f.n) by
        have kp : ∀ p u, wr.cell? p = some u → W.cell? p = some u := fun p u h => (s.cell (p := p) (World.block_lt_of_cell? wr _ h)).trans h
        exact ⟨fun j u hj => kp _ _ (k4.ent j u hj), fun j u hj => kp _ _ (m4.ent j u hj), kp _ _ k4.at_, kp _ _ k4.n, kp _ _ m4.at_, kp _ _ m4.n⟩))
      have SE := Lib.hid (fun W (s : Still wr W) => sameE_yes f.t f.K f.D A1 A2 nD2 d1 d2 W _ _ k1 ((Reads.of_own k2).still (Nat.le_refl _) s) ((Reads.of_own m2).still (Nat.le_refl _) s) s.size s.size (by omega))
      have z1 : (i : Int) < (N : Int) := by omega
      obtain ⟨nD, hnD⟩ : ∃ nD, nD = nD2 := ⟨_, rfl⟩
      rw [← hnD] at FF SE
      clear k1 k2 k3 k4 m1 m2 m3 m4 q1 q2 q3 q4 hf hfD hnD
      go_upto_region 6 with fail
      refine wp_region_held_drew (S := fun W => W.rangeAt g1 (i * 36) (entL f.t f.K (.slice A1 nD d1)) ∧ W.rangeAt g2 (i * 36) (entL f.t f.K (.slice A2 nD d2)) ∧ W.cell? ⟨g1, i * 36 + 34, none⟩ = some (.int .i64 f.at_) ∧ W.cell? ⟨g1, i * 36 + 35, none⟩ = some (.int .i64 f.n) ∧ W.cell? ⟨g2, i * 36 + 34, none⟩ = some (.int .i64 f.at_) ∧ W.cell? ⟨g2, i * 36 + 35, none⟩ = some (.int .i64 f.n)) (by kernel_rfl) (FF.out _ ((Still.refl _).drew)) (fun hHeld => ?_)
      obtain ⟨wa, hwa⟩ : ∃ wa, wa = wr.drew := ⟨_, rfl⟩
      have SA := Lib.hid (show Still wr wa by rw [hwa]; exact (Still.refl _).drew)
      try rw [← hwa] at hHeld
      rw [← hwa]
      clear hwa
      try simp only [Act.put, List.setIfInBounds_toArray, List.set_cons_zero, List.set_cons_succ]
      refine wpAnyH_take (i := 0) (v := .slice (some ⟨g1, 0, none⟩) N c1) rfl (by kernel_rfl) (by kernel_rfl) (by kernel_rfl) (fun _ _ _ h => h) (Or.inl ⟨by kernel_rfl, fun W hS => by obtain ⟨h0, h1, h2, h3, h4, h5⟩ := hS; go_simp⟩) (by assumption) ?_
      try simp only [Act.put, List.setIfInBounds_toArray, List.set_cons_zero, List.set_cons_succ]
      refine wpAnyH_take (i := 1) (v := .int .i64 (i : Int)) rfl (by kernel_rfl) (by kernel_rfl) (by kernel_rfl) (fun _ _ _ h => h) (Or.inl ⟨by kernel_rfl, fun W hS => by obtain ⟨h0, h1, h2, h3, h4, h5⟩ := hS; go_simp⟩) (by assumption) ?_
      try simp only [Act.put, List.setIfInBounds_toArray, List.set_cons_zero, List.set_cons_succ]
      refine wpAnyH_take (i := 2) (v := .pointer (some ⟨g1, i * 36, none⟩)) rfl (by kernel_rfl) (by kernel_rfl) (by kernel_rfl) (fun _ _ _ h => h) (Or.inl ⟨by kernel_rfl, fun W hS => by obtain ⟨h0, h1, h2, h3, h4, h5⟩ := hS; go_simp⟩) (by assumption) ?_
      try simp only [Act.put, List.setIfInBounds_toArray, List.set_cons_zero, List.set_cons_succ]
      refine wpAnyH_take (i := 3) (v := .pointer (some ⟨g1, i * 36, none⟩)) rfl (by kernel_rfl) (by kernel_rfl) (by kernel_rfl) (fun _ _ _ h => h) (Or.inl ⟨by kernel_rfl, fun W hS => by obtain ⟨h0, h1, h2, h3, h4, h5⟩ := hS; go_simp⟩) (by assumption) ?_
      try simp only [Act.put, List.setIfInBounds_toArray, List.set_cons_zero, List.set_cons_succ]
      refine wpAnyH_take (i := 4) (oi := ⟨some 21, .load 26 (.tmp 20), _, _, _, none⟩) (v := .agg (entV f.t f.K (.slice A1 nD d1))) rfl (by kernel_rfl) (by kernel_rfl) (by kernel_rfl) (fun _ _ _ h => h) ?hy4 (by assumption) ?_
      case hy4 =>
        refine yieldsIf_load_mid ?hw 26 (.tmp 20) ?ho g1 (i * 36) ?hx (entL f.t f.K (.slice A1 nD d1)) _ (fun W h => h.1) HU.out rfl (by rw [sizeEnt]; exact congrArg some (by have h := entV_size f.t f.K ((.slice A1 nD d1)) KL.out; unfold entV at h; simpa using h.symm))
        case hw => kernel_rfl
        case ho => rfl
        case hx => kernel_rfl
      try simp only [Act.put, List.setIfInBounds_toArray, List.set_cons_zero, List.set_cons_succ]
      refine wpAnyH_take (i := 5) (v := .slice (some ⟨g2, 0, none⟩) N c2) rfl (by kernel_rfl) (by kernel_rfl) (by kernel_rfl) (fun _ _ _ h => h) (Or.inl ⟨by kernel_rfl, fun W hS => by obtain ⟨h0, h1, h2, h3, h4, h5⟩ := hS; go_simp⟩) (by assumption) ?_
      try simp only [Act.put, List.setIfInBounds_toArray, List.set_cons_zero, List.set_cons_succ]
      refine wpAnyH_take (i := 6) (v := .int .i64 (i : Int)) rfl (by kernel_rfl) (by kernel_rfl) (by kernel_rfl) (fun _ _ _ h => h) (Or.inl ⟨by kernel_rfl, fun W hS => by obtain ⟨h0, h1, h2, h3, h4, h5⟩ := hS; go_simp⟩) (by assumption) ?_
      try simp only [Act.put, List.setIfInBounds_toArray, List.set_cons_zero, List.set_cons_succ]
      refine wpAnyH_take (i := 7) (v := .pointer (some ⟨g2, i * 36, none⟩)) rfl (by kernel_rfl) (by kernel_rfl) (by kernel_rfl) (fun _ _ _ h => h) (Or.inl ⟨by kernel_rfl, fun W hS => by obtain ⟨h0, h1, h2, h3, h4, h5⟩ := hS; go_simp⟩) (by assumption) ?_
      try simp only [Act.put, List.setIfInBounds_toArray, List.set_cons_zero, List.set_cons_succ]
      refine wpAnyH_take (i := 8) (v := .pointer (some ⟨g2, i * 36, none⟩)) rfl (by kernel_rfl) (by kernel_rfl) (by kernel_rfl) (fun _ _ _ h => h) (Or.inl ⟨by kernel_rfl, fun W hS => by obtain ⟨h0, h1, h2, h3, h4, h5⟩ := hS; go_simp⟩) (by assumption) ?_
      try simp only [Act.put, List.setIfInBounds_toArray, List.set_cons_zero, List.set_cons_succ]
      refine wpAnyH_take (i := 9) (oi := ⟨some 26, .load 26 (.tmp 25), _, _, _, none⟩) (v := .agg (entV f.t f.K (.slice A2 nD d2))) rfl (by kernel_rfl) (by kernel_rfl) (by kernel_rfl) (fun _ _ _ h => h) ?hy9 (by assumption) ?_
      case hy9 =>
        refine yieldsIf_load_mid ?hw 26 (.tmp 25) ?ho g2 (i * 36) ?hx (entL f.t f.K (.slice A2 nD d2)) _ (fun W h => h.2.1) HU.out rfl (by rw [sizeEnt]; exact congrArg some (by have h := entV_size f.t f.K ((.slice A2 nD d2)) KL.out; unfold entV at h; simpa using h.symm))
        case hw => kernel_rfl
        case ho => rfl
        case hx => kernel_rfl
      try simp only [Act.put, List.setIfInBounds_toArray, List.set_cons_zero, List.set_cons_succ]
      refine wpAnyH_ready (rs := [10]) (by kernel_rfl) (by simp) ?_
      refine AllReadyH.cons (o := ⟨some 27, .call { callee := .value (.func 16), args := #[.tmp 21, .tmp 26], argTypes := #[26, 26] }, _, _, _, none⟩) rfl (fun K' hK' => ?_) AllReadyH.nil
      have HK' := Lib.hid hK'
      clear hK'
      go_simp
      go_wp2_with (go_at_call 16; refine (SE.out _ SA.out).mono ?_; rintro e w2 ⟨rfl, s2⟩; have S2 := Lib.hid (SA.out.trans s2))
      refine HK'.out.out _ _ (FF.out _ S2.out) (fun hHeld => ?_)
      clear HK' K'
      try simp only [Act.put, List.setIfInBounds_toArray, List.set_cons_zero, List.set_cons_succ]
      refine wpAnyH_take (i := 11) (v := (.bool false)) rfl (by kernel_rfl) (by kernel_rfl) (by kernel_rfl) (fun _ _ _ h => h) (Or.inl ⟨by kernel_rfl, fun W hS => by obtain ⟨h0, h1, h2, h3, h4, h5⟩ := hS; go_simp⟩) (by assumption) ?_
      try simp only [Act.put, List.setIfInBounds_toArray, List.set_cons_zero, List.set_cons_succ]
      refine wpAnyH_take (i := 12) (v := (.bool false)) rfl (by kernel_rfl) (by kernel_rfl) (by kernel_rfl) (fun _ _ _ h => h) (Or.inl ⟨by kernel_rfl, fun W hS => by obtain ⟨h0, h1, h2, h3, h4, h5⟩ := hS; go_simp⟩) (by assumption) ?_
      try simp only [Act.put, List.setIfInBounds_toArray, List.set_cons_zero, List.set_cons_succ]
      refine wpAnyH_take (i := 13) (v := .slice (some ⟨g1, 0, none⟩) N c1) rfl (by kernel_rfl) (by kernel_rfl) (by kernel_rfl) (fun _ _ _ h => h) (Or.inl ⟨by kernel_rfl, fun W hS => by obtain ⟨h0, h1, h2, h3, h4, h5⟩ := hS; go_simp⟩) (by assumption) ?_
      try simp only [Act.put, List.setIfInBounds_toArray, List.set_cons_zero, List.set_cons_succ]
      refine wpAnyH_take (i := 14) (v := .int .i64 (i : Int)) rfl (by kernel_rfl) (by kernel_rfl) (by kernel_rfl) (fun _ _ _ h => h) (Or.inl ⟨by kernel_rfl, fun W hS => by obtain ⟨h0, h1, h2, h3, h4, h5⟩ := hS; go_simp⟩) (by assumption) ?_
      try simp only [Act.put, List.setIfInBounds_toArray, List.set_cons_zero, List.set_cons_succ]
      refine wpAnyH_take (i := 15) (v := .pointer (some ⟨g1, i * 36, none⟩)) rfl (by kernel_rfl) (by kernel_rfl) (by kernel_rfl) (fun _ _ _ h => h) (Or.inl ⟨by kernel_rfl, fun W hS => by obtain ⟨h0, h1, h2, h3, h4, h5⟩ := hS; go_simp⟩) (by assumption) ?_
      try simp only [Act.put, List.setIfInBounds_toArray, List.set_cons_zero, List.set_cons_succ]
      refine wpAnyH_take (i := 16) (v := .pointer (some ⟨g1, i * 36 + 34, none⟩)) rfl (by kernel_rfl) (by kernel_rfl) (by kernel_rfl) (fun _ _ _ h => h) (Or.inl ⟨by kernel_rfl, fun W hS => by obtain ⟨h0, h1, h2, h3, h4, h5⟩ := hS; go_simp⟩) (by assumption) ?_
      try simp only [Act.put, List.setIfInBounds_toArray, List.set_cons_zero, List.set_cons_succ]
      refine wpAnyH_take (i := 17) (v := (.int .i64 (f.at_ : Int))) rfl (by kernel_rfl) (by kernel_rfl) (by kernel_rfl) (fun _ _ _ h => h) (Or.inl ⟨by kernel_rfl, fun W hS => by obtain ⟨h0, h1, h2, h3, h4, h5⟩ := hS; go_simp⟩) (by assumption) ?_
      try simp only [Act.put, List.setIfInBounds_toArray, List.set_cons_zero, List.set_cons_succ]
      refine wpAnyH_take (i := 18) (v := .slice (some ⟨g2, 0, none⟩) N c2) rfl (by kernel_rfl) (by kernel_rfl) (by kernel_rfl) (fun _ _ _ h => h) (Or.inl ⟨by kernel_rfl, fun W hS => by obtain ⟨h0, h1, h2, h3, h4, h5⟩ := hS; go_simp⟩) (by assumption) ?_
      try simp only [Act.put, List.setIfInBounds_toArray, List.set_cons_zero, List.set_cons_succ]
      refine wpAnyH_take (i := 19) (v := .int .i64 (i : Int)) rfl (by kernel_rfl) (by kernel_rfl) (by kernel_rfl) (fun _ _ _ h => h) (Or.inl ⟨by kernel_rfl, fun W hS => by obtain ⟨h0, h1, h2, h3, h4, h5⟩ := hS; go_simp⟩) (by assumption) ?_
      try simp only [Act.put, List.setIfInBounds_toArray, List.set_cons_zero, List.set_cons_succ]
      refine wpAnyH_take (i := 20) (v := .pointer (some ⟨g2, i * 36, none⟩)) rfl (by kernel_rfl) (by kernel_rfl) (by kernel_rfl) (fun _ _ _ h => h) (Or.inl ⟨by kernel_rfl, fun W hS => by obtain ⟨h0, h1, h2, h3, h4, h5⟩ := hS; go_simp⟩) (by assumption) ?_
      try simp only [Act.put, List.setIfInBounds_toArray, List.set_cons_zero, List.set_cons_succ]
      refine wpAnyH_take (i := 21) (v := .pointer (some ⟨g2, i * 36 + 34, none⟩)) rfl (by kernel_rfl) (by kernel_rfl) (by kernel_rfl) (fun _ _ _ h => h) (Or.inl ⟨by kernel_rfl, fun W hS => by obtain ⟨h0, h1, h2, h3, h4, h5⟩ := hS; go_simp⟩) (by assumption) ?_
      try simp only [Act.put, List.setIfInBounds_toArray, List.set_cons_zero, List.set_cons_succ]
      refine wpAnyH_take (i := 22) (v := (.int .i64 (f.at_ : Int))) rfl (by kernel_rfl) (by kernel_rfl) (by kernel_rfl) (fun _ _ _ h => h) (Or.inl ⟨by kernel_rfl, fun W hS => by obtain ⟨h0, h1, h2, h3, h4, h5⟩ := hS; go_simp⟩) (by assumption) ?_
      try simp only [Act.put, List.setIfInBounds_toArray, List.set_cons_zero, List.set_cons_succ]
      refine wpAnyH_take (i := 23) (v := (.bool false)) rfl (by kernel_rfl) (by kernel_rfl) (by kernel_rfl) (fun _ _ _ h => h) (Or.inl ⟨by kernel_rfl, fun W hS => by obtain ⟨h0, h1, h2, h3, h4, h5⟩ := hS; go_simp⟩) (by assumption) ?_
      try simp only [Act.put, List.setIfInBounds_toArray, List.set_cons_zero, List.set_cons_succ]
      refine wpAnyH_take (i := 24) (v := (.bool false)) rfl (by kernel_rfl) (by kernel_rfl) (by kernel_rfl) (fun _ _ _ h => h) (Or.inl ⟨by kernel_rfl, fun W hS => by obtain ⟨h0, h1, h2, h3, h4, h5⟩ := hS; go_simp⟩) (by assumption) ?_
      try simp only [Act.put, List.setIfInBounds_toArray, List.set_cons_zero, List.set_cons_succ]
      refine wpAnyH_take (i := 25) (v := (.bool false)) rfl (by kernel_rfl) (by kernel_rfl) (by kernel_rfl) (fun _ _ _ h => h) (Or.inl ⟨by kernel_rfl, fun W hS => by obtain ⟨h0, h1, h2, h3, h4, h5⟩ := hS; go_simp⟩) (by assumption) ?_
      try simp only [Act.put, List.setIfInBounds_toArray, List.set_cons_zero, List.set_cons_succ]
      refine wpAnyH_take (i := 26) (v := .slice (some ⟨g1, 0, none⟩) N c1) rfl (by kernel_rfl) (by kernel_rfl) (by kernel_rfl) (fun _ _ _ h => h) (Or.inl ⟨by kernel_rfl, fun W hS => by obtain ⟨h0, h1, h2, h3, h4, h5⟩ := hS; go_simp⟩) (by assumption) ?_
      try simp only [Act.put, List.setIfInBounds_toArray, List.set_cons_zero, List.set_cons_succ]
      refine wpAnyH_take (i := 27) (v := .int .i64 (i : Int)) rfl (by kernel_rfl) (by kernel_rfl) (by kernel_rfl) (fun _ _ _ h => h) (Or.inl ⟨by kernel_rfl, fun W hS => by obtain ⟨h0, h1, h2, h3, h4, h5⟩ := hS; go_simp⟩) (by assumption) ?_
      try simp only [Act.put, List.setIfInBounds_toArray, List.set_cons_zero, List.set_cons_succ]
      refine wpAnyH_take (i := 28) (v := .pointer (some ⟨g1, i * 36, none⟩)) rfl (by kernel_rfl) (by kernel_rfl) (by kernel_rfl) (fun _ _ _ h => h) (Or.inl ⟨by kernel_rfl, fun W hS => by obtain ⟨h0, h1, h2, h3, h4, h5⟩ := hS; go_simp⟩) (by assumption) ?_
      try simp only [Act.put, List.setIfInBounds_toArray, List.set_cons_zero, List.set_cons_succ]
      refine wpAnyH_take (i := 29) (v := .pointer (some ⟨g1, i * 36 + 35, none⟩)) rfl (by kernel_rfl) (by kernel_rfl) (by kernel_rfl) (fun _ _ _ h => h) (Or.inl ⟨by kernel_rfl, fun W hS => by obtain ⟨h0, h1, h2, h3, h4, h5⟩ := hS; go_simp⟩) (by assumption) ?_
      try simp only [Act.put, List.setIfInBounds_toArray, List.set_cons_zero, List.set_cons_succ]
      refine wpAnyH_take (i := 30) (v := (.int .i64 (f.n : Int))) rfl (by kernel_rfl) (by kernel_rfl) (by kernel_rfl) (fun _ _ _ h => h) (Or.inl ⟨by kernel_rfl, fun W hS => by obtain ⟨h0, h1, h2, h3, h4, h5⟩ := hS; go_simp⟩) (by assumption) ?_
      try simp only [Act.put, List.setIfInBounds_toArray, List.set_cons_zero, List.set_cons_succ]
      refine wpAnyH_take (i := 31) (v := .slice (some ⟨g2, 0, none⟩) N c2) rfl (by kernel_rfl) (by kernel_rfl) (by kernel_rfl) (fun _ _ _ h => h) (Or.inl ⟨by kernel_rfl, fun W hS => by obtain ⟨h0, h1, h2, h3, h4, h5⟩ := hS; go_simp⟩) (by assumption) ?_
      try simp only [Act.put, List.setIfInBounds_toArray, List.set_cons_zero, List.set_cons_succ]
      refine wpAnyH_take (i := 32) (v := .int .i64 (i : Int)) rfl (by kernel_rfl) (by kernel_rfl) (by kernel_rfl) (fun _ _ _ h => h) (Or.inl ⟨by kernel_rfl, fun W hS => by obtain ⟨h0, h1, h2, h3, h4, h5⟩ := hS; go_simp⟩) (by assumption) ?_
      try simp only [Act.put, List.setIfInBounds_toArray, List.set_cons_zero, List.set_cons_succ]
      refine wpAnyH_take (i := 33) (v := .pointer (some ⟨g2, i * 36, none⟩)) rfl (by kernel_rfl) (by kernel_rfl) (by kernel_rfl) (fun _ _ _ h => h) (Or.inl ⟨by kernel_rfl, fun W hS => by obtain ⟨h0, h1, h2, h3, h4, h5⟩ := hS; go_simp⟩) (by assumption) ?_
      try simp only [Act.put, List.setIfInBounds_toArray, List.set_cons_zero, List.set_cons_succ]
      refine wpAnyH_take (i := 34) (v := .pointer (some ⟨g2, i * 36 + 35, none⟩)) rfl (by kernel_rfl) (by kernel_rfl) (by kernel_rfl) (fun _ _ _ h => h) (Or.inl ⟨by kernel_rfl, fun W hS => by obtain ⟨h0, h1, h2, h3, h4, h5⟩ := hS; go_simp⟩) (by assumption) ?_
      try simp only [Act.put, List.setIfInBounds_toArray, List.set_cons_zero, List.set_cons_succ]
      refine wpAnyH_take (i := 35) (v := (.int .i64 (f.n : Int))) rfl (by kernel_rfl) (by kernel_rfl) (by kernel_rfl) (fun _ _ _ h => h) (Or.inl ⟨by kernel_rfl, fun W hS => by obtain ⟨h0, h1, h2, h3, h4, h5⟩ := hS; go_simp⟩) (by assumption) ?_
      try simp only [Act.put, List.setIfInBounds_toArray, List.set_cons_zero, List.set_cons_succ]
      refine wpAnyH_take (i := 36) (v := (.bool false)) rfl (by kernel_rfl) (by kernel_rfl) (by kernel_rfl) (fun _ _ _ h => h) (Or.inl ⟨by kernel_rfl, fun W hS => by obtain ⟨h0, h1, h2, h3, h4, h5⟩ := hS; go_simp⟩) (by assumption) ?_
      try simp only [Act.put, List.setIfInBounds_toArray, List.set_cons_zero, List.set_cons_succ]
      refine wpAnyH_take (i := 37) (v := (.bool false)) rfl (by kernel_rfl) (by kernel_rfl) (by kernel_rfl) (fun _ _ _ h => h) (Or.inl ⟨by kernel_rfl, fun W hS => by obtain ⟨h0, h1, h2, h3, h4, h5⟩ := hS; go_simp⟩) (by assumption) ?_
      try simp only [Act.put, List.setIfInBounds_toArray, List.set_cons_zero, List.set_cons_succ]
      refine wpAnyH_done (by kernel_rfl) ?_ _
      have S3 := Lib.hid (Still.trans hs.out S2.out)
      have Z1 := Lib.hid hlt
      clear FF SE SA S2 hHeld HU KL HD HN HB OO G1 G2 hs z1
      go_simp
      go_wp2_with fail
      go_roundw
      case rel => exact ⟨i + 1, by go_num, by have := Z1.out; omega, S3.out⟩
      case measure => simp [intOf]; have := Z1.out; omega
    · obtain rfl : i = N := by omega
      go_wp2_with fail
      go_ret
      exact ⟨rfl, hs.out⟩
end Go.Proofs.YtnhkabohccbglaaDoor
