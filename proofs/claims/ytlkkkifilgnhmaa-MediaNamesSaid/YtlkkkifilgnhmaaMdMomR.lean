/- Rows of rows of names that grow beside a medium. It proves no statement. -/
import Derived.Test.YtlkkkifilgnhmaaMdMoment
import Derived.Test.YtlkkkifilgnhmaaMdGd
import Derived.Test.YtlkkkifilgnhmaaMdAt
namespace Go.Proofs.Ytlkkkifilgnhmaa
open Go.RowKit Go.Maps Go.WideMaps Go.Sort
set_option linter.unusedVariables false
set_option linter.unusedSimpArgs false

theorem NamesR.chg {w w' : World} {A : Option Addr} {n : Nat} {N : NT} {S : Nat → Prop} (h : NamesR w A n N) (g : Chg w w' S) (hS : ∀ ad, A = some ad → 0 < n → ad.block < w.heap.size → ¬ S ad.block) : NamesR w' A n N :=
  ⟨h.1, fun hn => by
    obtain ⟨b, o, e, hb, hc⟩ := h.2 hn
    exact ⟨b, o, e, Nat.lt_of_lt_of_le hb g.size, fun i p hp => (World.cell?_of_block (w := w) (g.block b hb (hS _ e hn hb))).trans (hc i p hp)⟩⟩
/-- A row of rows of names, each in a block of P. -/
structure MomR (w : World) (P : Nat → Prop) (xs : List Value) (mom : List NT) : Prop where
  len : xs.length = mom.length
  at_ : ∀ (i : Nat) (N : NT), mom[i]? = some N → ∃ (A : Option Addr) (n c : Nat), xs[i]? = some (Value.slice A n c) ∧ NamesR w A n N ∧ n ≤ c ∧ c ≤ 9223372036854775807 ∧ n ≤ 1000000 ∧ ∀ ad, A = some ad → 0 < n → P ad.block
section
variable {w w' : World} {P Q S : Nat → Prop} {xs : List Value} {mom : List NT}
theorem MomR.none_ : MomR w P [] [] := ⟨rfl, fun i N h => by cases h⟩
theorem MomR.mono (h : MomR w P xs mom) (hQ : ∀ b, P b → b < w.heap.size → Q b) : MomR w Q xs mom := ⟨h.len, fun i N hN => by
  obtain ⟨A, n, c, h1, h2, h3, h4, h5, h6⟩ := h.at_ i N hN
  refine ⟨A, n, c, h1, h2, h3, h4, h5, fun ad e hn => hQ _ (h6 ad e hn) ?_⟩
  obtain ⟨b, o, e', hb, _⟩ := h2.2 hn
  rw [e] at e'
  injection e' with e'
  rw [e']
  exact hb⟩
theorem MomR.chg (h : MomR w P xs mom) (g : Chg w w' S) (hS : ∀ b, P b → b < w.heap.size → ¬ S b) : MomR w' P xs mom := ⟨h.len, fun i N hN => by
  obtain ⟨A, n, c, h1, h2, h3, h4, h5, h6⟩ := h.at_ i N hN
  exact ⟨A, n, c, h1, h2.chg g (fun ad e hn hb => hS _ (h6 ad e hn) hb), h3, h4, h5, h6⟩⟩
theorem MomR.snoc (h : MomR w P xs mom) {A : Option Addr} {n c : Nat} {N : NT} (h2 : NamesR w A n N) (h3 : n ≤ c) (h4 : c ≤ 9223372036854775807) (h5 : n ≤ 1000000) (h6 : ∀ ad, A = some ad → 0 < n → P ad.block) : MomR w P (xs ++ [.slice A n c]) (mom ++ [N]) :=
  ⟨by rw [List.length_append, List.length_append, h.len]; rfl, fun i N' hN => by
    by_cases hi : i < mom.length
    · rw [List.getElem?_append_left hi] at hN
      obtain ⟨A', n', c', g1, g2⟩ := h.at_ i N' hN
      exact ⟨A', n', c', by rw [List.getElem?_append_left (by rw [h.len]; exact hi)]; exact g1, g2⟩
    · have hl := (List.getElem?_eq_some_iff.1 hN).1
      rw [List.length_append, List.length_singleton] at hl
      obtain rfl : i = mom.length := by omega
      rw [List.getElem?_append_right (Nat.le_refl _), Nat.sub_self] at hN
      obtain rfl := Option.some.inj hN
      exact ⟨A, n, c, by rw [← h.len, List.getElem?_append_right (Nat.le_refl _), Nat.sub_self]; rfl, h2, h3, h4, h5, h6⟩⟩
end
/-- A medium, and beside it a row of the names of some moments. -/
structure MomS (w0 w5 wr : World) (g : Nat) (own5 : Own) (b0 : Nat) (M : Me) (mom : List NT) (v : Value) (k : Nat) : Prop where
  ex : ∃ (own : Own) (xs : List Value), MedI wr w0.heap.size own g M ∧ (∀ b, b < w5.heap.size → own b = own5 b) ∧ wr.ownsRow w0.heap.size 28 1 v mom.length xs ∧ (∀ b, v.ownBlock = some b → own b = none) ∧ MomR wr (fun b => own b = none ∧ v.ownBlock ≠ some b) xs mom
  good : M.good k
  on : M.On
  chg : Chg w5 wr (fun b => own5 b ≠ none ∨ b = b0)
  vb : ∀ b, v.ownBlock = some b → b = b0 ∨ w5.heap.size ≤ b
  low : w0.heap.size ≤ b0
  s5 : w0.heap.size ≤ w5.heap.size
  st : Still w0 wr
section
variable {w0 w5 wr w' : World} {g b0 k k' : Nat} {own5 own : Own} {M M' : Me} {mom : List NT} {v : Value}
theorem MomS.left (h : MomS w0 w5 wr g own5 b0 M mom v k) (hl : ∀ own, MedI wr w0.heap.size own g M → (∀ b, b < w5.heap.size → own b = own5 b) → Left wr w' w0.heap.size g own M') (hg : M'.good k') (ho : M'.On) : MomS w0 w5 w' g own5 b0 M' mom v k' := by
  obtain ⟨own, xs, med, ag, o, ob, mr⟩ := h.ex
  obtain ⟨cc, own', h1, m'⟩ := hl own med ag
  refine ⟨⟨own', xs, m', fun b hb => by rw [h1 b (Nat.lt_of_lt_of_le hb h.chg.size)]; exact ag b hb, cc.own o (fun b hb hs => hs (ob b hb)), fun b hb => by rw [h1 b (o.lt b hb).2]; exact ob b hb, ?_⟩, hg, ho, h.chg.trans cc (fun b hb hs => .inl (by rw [← ag b hb]; exact hs)), h.vb, h.low, h.s5, cc.still h.st (fun b hb => (med.dom b hb).1)⟩
  exact (mr.mono (Q := fun b => own' b = none ∧ v.ownBlock ≠ some b) (fun b hb hlt => ⟨by rw [h1 b hlt]; exact hb.1, hb.2⟩)).chg cc (fun b hb hlt hs => hs (by rw [← h1 b hlt]; exact hb.1))
theorem MomS.still (h : MomS w0 w5 wr g own5 b0 M mom v k) (s : Still wr w') : MomS w0 w5 w' g own5 b0 M mom v k := h.left (fun own med _ => Left.still med s) h.good h.on
theorem MomS.mono (h : MomS w0 w5 wr g own5 b0 M mom v k) (hk : k ≤ k') : MomS w0 w5 wr g own5 b0 M mom v k' := ⟨h.ex, h.good.mono hk, h.on, h.chg, h.vb, h.low, h.s5, h.st⟩
theorem MomS.empty (h : MomS w0 w5 wr g own5 b0 M mom v k) : MomS w0 w5 wr g own5 b0 M [] (.slice none 0 0) k := by
  obtain ⟨own, xs, med, ag, o, ob, mr⟩ := h.ex
  exact ⟨⟨own, [], med, ag, World.ownsRow_nil _ _ _ _, fun b hb => by simp [Value.ownBlock] at hb, MomR.none_⟩, h.good, h.on, h.chg, fun b hb => by simp [Value.ownBlock] at hb, h.low, h.s5, h.st⟩
theorem MomS.len (h : MomS w0 w5 wr g own5 b0 M mom v k) : w5.heap.size ≤ wr.heap.size := h.chg.size
/-- One more row of names: it was boxed, and appended. -/
theorem MomS.push {v' : Value} {A : Option Addr} {n c : Nat} {N : NT} {xs : List Value} (own : Own) (med : MedI wr w0.heap.size own g M) (ag : ∀ b, b < w5.heap.size → own b = own5 b) (ob : ∀ b, v.ownBlock = some b → own b = none) (mr : MomR wr (fun b => own b = none ∧ v.ownBlock ≠ some b) xs mom)
    (h : MomS w0 w5 wr g own5 b0 M mom v k) (hv : ∀ b, v.ownBlock = some b → b < wr.heap.size ∧ (∀ ad, A = some ad → 0 < n → ad.block ≠ b))
    (nr : NamesR wr A n N) (h3 : n ≤ c) (h4 : c ≤ 9223372036854775807) (h5 : n ≤ 1000000) (na : ∀ ad, A = some ad → 0 < n → own ad.block = none)
    (o' : w'.ownsRow w0.heap.size 28 1 v' (mom.length + 1) (xs ++ [.slice A n c])) (gr : wr.grownBy w' v.ownBlock) (hb : v'.ownBlock = v.ownBlock ∨ v'.ownBlock = some (wr.heap.size + 1)) : MomS w0 w5 w' g own5 b0 M (mom ++ [N]) v' k := by
  have cc : Chg wr w' (fun b => v.ownBlock = some b) := Chg.of_grown gr (fun b e _ => e)
  have ownL : ∀ b, wr.heap.size ≤ b → own b = none := fun b hb => by
    cases hq : own b with
    | none => rfl
    | some x => have := (med.dom b (by rw [hq]; simp)).2; omega
  have vb' : ∀ b, v'.ownBlock = some b → b = wr.heap.size + 1 ∨ v.ownBlock = some b := fun b e => by
    rcases hb with h | h
    · exact .inr (by rw [← h]; exact e)
    · rw [h] at e; injection e with e; exact .inl e.symm
  refine ⟨⟨own, _, med.keep cc (fun b hs => ob b hs), ag, by rw [List.length_append, List.length_singleton]; exact o', fun b e => ?_, ?_⟩, h.good, h.on, h.chg.trans cc (fun b hb hs => ?_), fun b e => ?_, h.low, h.s5, cc.still h.st (fun b hs => ?_)⟩
  · rcases vb' b e with rfl | e
    · exact ownL _ (by omega)
    · exact ob b e
  · have m2 := mr.snoc nr h3 h4 h5 (fun ad e hn => ⟨na ad e hn, fun e2 => (hv _ e2).2 ad e hn rfl⟩)
    refine (m2.mono (Q := fun b => own b = none ∧ v'.ownBlock ≠ some b ∧ v.ownBlock ≠ some b) (fun b hb hlt => ⟨hb.1, fun e => ?_, hb.2⟩)).chg cc (fun b hb _ => hb.2.2) |>.mono (fun b hb _ => ⟨hb.1, hb.2.1⟩)
    rcases vb' b e with h1 | h1
    · omega
    · exact hb.2 h1
  · rcases h.vb b hs with h1 | h1
    · exact .inr h1
    · omega
  · rcases vb' b e with rfl | e
    · have := h.len; right; omega
    · exact h.vb b e
  · rcases h.vb b hs with h1 | h1
    · rw [h1]; exact h.low
    · exact Nat.le_trans h.s5 h1
end
/-- The names of a moment. -/
theorem list_mom {w0 w5 wr : World} {g b0 k : Nat} {own5 : Own} {M : Me} {mom : List NT} {v : Value} (h : MomS w0 w5 wr g own5 b0 M mom v k) (hk : k ≤ 900000) :
    Calls Try.prog 6 #[.pointer (some ⟨g, 0, none⟩)] wr fun e w' => (∃ (A : Option Addr) (c : Nat), e = .returned (.slice A M.now.length c) ∧ w'.ownsRow wr.heap.size 9 1 (.slice A M.now.length c) M.now.length (namesV M.now)) ∧ Still wr w' := by
  obtain ⟨own, xs, med, _⟩ := h.ex
  have hl := list_M med h.good.ok (by have := h.good.cnt; omega)
  have e : M.names = M.now := if_neg h.on.no
  rw [e] at hl
  refine hl.mono ?_
  rintro e w' ⟨⟨v, he, o⟩, s⟩
  obtain ⟨A, c, rfl, _⟩ := own_formB o
  exact ⟨⟨A, c, he, o⟩, s⟩
/-- A call beside the rows. -/
theorem does_mom {w0 w5 wr : World} {g b0 k : Nat} {own5 : Own} {M : Me} {mom : List NT} {v u : Value} {x : Call} (h : MomS w0 w5 wr g own5 b0 M mom v k) (hk : k ≤ 900000) (h7 : x.k ≠ 7) (hx : DoAt wr (fun b => own5 b = none ∧ b < w5.heap.size ∧ b ≠ b0) u x) :
    Calls Try.prog 8 #[.pointer (some ⟨g, 0, none⟩), u] wr fun e w' => ∃ (gf : Nat) (o : Option Nat) (Av : Option Addr) (q cv : Nat) (E : Int) (bb : Bool), e = .returned (.tuple #[.slice Av q cv, .int .i64 E, .bool bb]) ∧ MomS w0 w5 w' g own5 b0 (stepM M x gf o).2 mom v (k + 1) := by
  have hnn : x.nn ≤ 9223372036854775807 := by
    obtain ⟨_, _, _, _, _, _, _, _, _, _, _, _, _, _, _, _, h11⟩ := hx
    exact h11
  obtain ⟨own, xs, med, ag, o, ob, mr⟩ := h.ex
  refine (does_M med h.good (by omega) hx (fun b hb => ⟨by rw [ag b hb.2.1]; exact hb.1, Nat.lt_of_lt_of_le hb.2.1 h.chg.size⟩)).mono ?_
  rintro e w' ⟨gf, oo, hfr, _, ⟨q, Av, cv, he, hrow⟩, hleft⟩
  refine ⟨gf, oo, Av, q, cv, _, _, he, ?_⟩
  obtain ⟨cc, own', h1, m'⟩ := hleft
  refine ⟨⟨own', xs, m', fun b hb => by rw [h1 b (Nat.lt_of_lt_of_le hb h.chg.size)]; exact ag b hb, cc.own o (fun b hb hs => hs (ob b hb)), fun b hb => by rw [h1 b (o.lt b hb).2]; exact ob b hb, ?_⟩, stepM_good h.good x hnn gf oo, h.on.step x gf oo h7, h.chg.trans cc (fun b hb hs => .inl (by rw [← ag b hb]; exact hs)), h.vb, h.low, h.s5, cc.still h.st (fun b hb => (med.dom b hb).1)⟩
  exact (mr.mono (Q := fun b => own' b = none ∧ v.ownBlock ≠ some b) (fun b hb hlt => ⟨by rw [h1 b hlt]; exact hb.1, hb.2⟩)).chg cc (fun b hb hlt hs => hs (by rw [← h1 b hlt]; exact hb.1))
/-- A crash beside the rows. -/
theorem crash_mom {w0 w5 wr : World} {g b0 k : Nat} {own5 : Own} {M : Me} {mom : List NT} {v : Value} {A : Option Addr} {n c : Nat} {zs : List Int} (h : MomS w0 w5 wr g own5 b0 M mom v k) (hk : k ≤ 900000) (hr : ReadsI w0 (fun b => b < w0.heap.size) A n zs) (hc : n ≤ c) (hm : c ≤ 9223372036854775807) :
    Calls Try.prog 9 #[.pointer (some ⟨g, 0, none⟩), .slice A n c] wr fun e w' => e = .returned (.tuple #[]) ∧ MomS w0 w5 w' g own5 b0 (M.crash zs) mom v (k + 1) := by
  obtain ⟨own, xs, med, ag, o, ob, mr⟩ := h.ex
  have hr2 : ReadsI wr (fun b => b < w0.heap.size) A n zs := hr.chg (Chg.of_below h.st (S := fun b => w0.heap.size ≤ b) (fun b hb _ => hb)) (fun b hb => by omega)
  refine (crash_M med h.good.ok (by have := h.good.cnt; omega) hr2 (fun b hb => ⟨(med.below b hb).1, (med.below b hb).2⟩) hc hm).mono ?_
  rintro e w' ⟨rfl, hl⟩
  obtain ⟨cc, own', h1, m'⟩ := hl
  refine ⟨rfl, ⟨own', xs, m', fun b hb => by rw [h1 b (Nat.lt_of_lt_of_le hb h.chg.size)]; exact ag b hb, cc.own o (fun b hb hs => hs (ob b hb)), fun b hb => by rw [h1 b (o.lt b hb).2]; exact ob b hb, ?_⟩, crash_good h.good zs, crash_on h.on zs, h.chg.trans cc (fun b hb hs => .inl (by rw [← ag b hb]; exact hs)), h.vb, h.low, h.s5, cc.still h.st (fun b hb => (med.dom b hb).1)⟩
  exact (mr.mono (Q := fun b => own' b = none ∧ v.ownBlock ≠ some b) (fun b hb hlt => ⟨by rw [h1 b hlt]; exact hb.1, hb.2⟩)).chg cc (fun b hb hlt hs => hs (by rw [← h1 b hlt]; exact hb.1))
/-- The first moment. -/
theorem MomS.first {w0 w2 w3 w5 : World} {g k n c : Nat} {own2 : Own} {M : Me} {A : Option Addr} (med : MedI w2 w0.heap.size own2 g M) (good : M.good k) (on : M.On) (st : Still w0 w2) (s3 : Still w2 w3) (o3 : w3.ownsRow w2.heap.size 9 1 (.slice A n c) n (namesV M.now)) (hn : n ≤ 1000000) (s5 : Still (w3.alloc (.cells #[.slice A n c] 28)) w5) : MomS w0 w5 w5 g own2 w3.heap.size M [M.now] (.slice (some ⟨w3.heap.size, 0, none⟩) 1 1) k := by
  have s4 : Still w2 (w3.alloc (.cells #[.slice A n c] 28)) := s3.alloc s3.size _
  have s25 : Still w2 w5 := Still.trans s4 s5
  have ownL : ∀ b, w2.heap.size ≤ b → own2 b = none := fun b hb => by
    cases hq : own2 b with
    | none => rfl
    | some x => have := (med.dom b (by rw [hq]; simp)).2; omega
  have hsz := s3.size
  have hs2 := st.size
  have hs5 := s5.size
  have hr := World.ownsRow_lit (base := w0.heap.size) (e := 28) (size := 1) w3 #[.slice A n c] 1 (by omega) (by unfold maxLen; omega) rfl
  obtain ⟨A', c', ev, f1, f2, f3⟩ := own_formB o3
  injection ev with ev1 _ ev2
  subst ev1 ev2
  have nr : NamesR w5 A n M.now := (NamesR.of_own o3).still (Still.trans ((Still.refl w3).alloc (Nat.le_refl _) _) s5)
  refine ⟨⟨own2, [.slice A n c], med.still s25, fun _ _ => rfl, still_own hr s5, fun b hb => ?_, ⟨rfl, fun i N hN => ?_⟩⟩, good, on, Chg.refl _ _, fun b hb => ?_, by omega, ?_, Still.trans st s25⟩
  · simp only [Value.ownBlock, Option.some.injEq] at hb
    exact ownL b (by omega)
  · rcases i with _ | i
    · obtain rfl := Option.some.inj hN
      refine ⟨A, n, c, rfl, nr, f1, f2, hn, fun ad e hn => ⟨ownL _ (o3.lt _ (by rw [e]; rfl)).1, fun e2 => ?_⟩⟩
      have := (o3.lt ad.block (by rw [e]; rfl)).2
      simp only [Value.ownBlock, Option.some.injEq] at e2
      omega
    · simp at hN
  · simp only [Value.ownBlock, Option.some.injEq] at hb
    exact .inl hb.symm
  · have : (w3.alloc (.cells #[.slice A n c] 28)).heap.size = w3.heap.size + 1 := by simp
    omega
end Go.Proofs.Ytlkkkifilgnhmaa
