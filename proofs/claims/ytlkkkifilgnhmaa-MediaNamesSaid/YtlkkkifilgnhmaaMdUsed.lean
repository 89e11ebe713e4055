/- Contract: how many bytes all files have. It proves no statement. -/
import Derived.Test.YtlkkkifilgnhmaaMdGa
import Derived.Deep.DeepCutAuto
namespace Go.Proofs.Ytlkkkifilgnhmaa
open Go.RowKit Go.Maps Go.WideMaps
set_option linter.unusedVariables false
set_option linter.unusedSimpArgs false

/-- The file that a datum names. -/
def fdOf : DataW Unit → Int
  | .lit (.int .i64 f) => f
  | _ => -1
/-- All sizes of entries that are still to come. -/
def sumL (sz : Int → Nat) (left : Lit → Bool) : List (Lit × DataW Unit) → Nat
  | [] => 0
  | p :: es => (if left p.1 = true then sz (fdOf p.2) else 0) + sumL sz left es
def entriesOf : DataW Unit → List (Lit × DataW Unit)
  | .map es => es
  | _ => []
def usedOf (sz : Int → Nat) (D : DataW Unit) : Nat := sumL sz (fun _ => true) (entriesOf D)
theorem sumL_false (sz : Int → Nat) (left : Lit → Bool) (h : ∀ k, left k = false) : ∀ es, sumL sz left es = 0
  | [] => rfl
  | p :: es => by rw [sumL, sumL_false sz left h es, h p.1]; rfl
theorem sumL_has (sz : Int → Nat) (left : Lit → Bool) : ∀ es : List (Lit × DataW Unit), (∀ p ∈ es, left p.1 = true) → sumL sz left es = sumL sz (fun _ => true) es
  | [], _ => rfl
  | p :: es, h => by rw [sumL, sumL, sumL_has sz left es (fun q hq => h q (by simp [hq])), h p (by simp)]
theorem sumL_le (sz : Int → Nat) (left : Lit → Bool) : ∀ es : List (Lit × DataW Unit), sumL sz left es ≤ sumL sz (fun _ => true) es
  | [] => Nat.le_refl _
  | p :: es => by
    rw [sumL, sumL]
    have := sumL_le sz left es
    simp only [if_true]
    split <;> omega
theorem sumL_other (sz : Int → Nat) (left : Lit → Bool) (k : Lit) : ∀ es : List (Lit × DataW Unit), (∀ p ∈ es, p.1 ≠ k) → sumL sz (fun z => left z && !z.sameKey k) es = sumL sz left es
  | [], _ => rfl
  | p :: es, h => by
    rw [sumL, sumL, sumL_other sz left k es (fun q hq => h q (by simp [hq])), sameKey_ne (h p (by simp))]
    simp
theorem sumL_split (sz : Int → Nat) (left : Lit → Bool) (k : Lit) (v : DataW Unit) (hk : WideAt.IsKeyLit k) (hl : left k = true) : ∀ es : List (Lit × DataW Unit), es.Pairwise (fun p q => p.1 ≠ q.1) → (k, v) ∈ es → sumL sz left es = sz (fdOf v) + sumL sz (fun z => left z && !z.sameKey k) es
  | [], _, h => by simp at h
  | p :: es, hp, h => by
    rw [List.pairwise_cons] at hp
    rcases List.mem_cons.1 h with h | h
    · subst h
      rw [sumL, sumL, sumL_other sz left k es (fun q hq e => hp.1 q hq e.symm), WideAt.sameKey_self hk, hl]
      simp
    · have hne : p.1 ≠ k := hp.1 (k, v) h
      rw [sumL, sumL, sumL_split sz left k v hk hl es hp.2 h, sameKey_ne hne]
      simp only [Bool.not_false, Bool.and_true]
      omega
theorem entry_mem {D : DataW Unit} {k : Lit} {y : DataW Unit} (h : ∀ z, D.atKey k z = y) : ∃ p ∈ entriesOf D, p.1.sameKey k = true ∧ p.2 = y := by
  have hh := has_true_of_atKey h
  cases D with
  | map es =>
    rw [has_eq, List.any_eq_true] at hh
    have h1 := h (fd 0)
    unfold DataW.atKey at h1
    simp only at h1
    cases hf : es.find? (fun p => p.1.sameKey k) with
    | none =>
      obtain ⟨p, hp, hs⟩ := hh
      rw [List.find?_eq_none] at hf
      exact absurd hs (hf p hp)
    | some p =>
      rw [hf] at h1
      exact ⟨p, List.mem_of_find?_eq_some hf, by simpa using List.find?_some hf, h1⟩
  | _ => simp [Maps.has] at hh
/-- Each file that a map names has a row of so many bytes. -/
def Sized (w : World) (D : DataW Unit) (sz : Int → Nat) : Prop := ∀ p ∈ entriesOf D, ∃ f : Nat, p.2 = fd f ∧ ∃ A c b d, FileB w f (.slice A (sz f) c) b d
theorem Sized.chg {w w' : World} {D : DataW Unit} {sz : Int → Nat} {S : Nat → Prop} (h : Sized w D sz) (c : Chg w w' S) (hS : ∀ p ∈ entriesOf D, ∀ f : Nat, p.2 = fd f → ¬ S f) : Sized w' D sz := by
  intro p hp
  obtain ⟨f, e, A, cc, b, d, hb⟩ := h p hp
  exact ⟨f, e, A, cc, b, d, c.blk hb (hS p hp f e)⟩
theorem keyOf_str_inv {key : Value} {k : Lit} (h : keyOf Try.prog 9 key = some k) : ∃ s : ByteArray, key = .string s := by
  obtain ⟨s, hs, _⟩ := string_of_keyOf Try.underlying9 h
  exact ⟨s, hs⟩
set_option maxRecDepth 100000 in
set_option maxHeartbeats 1600000 in
theorem used_yes {w : World} {g : Nat} {room : Int} {bn bf : Nat} {wv : Value} {left : Int} (h : MedB w g room bn bf wv left false) (n : Nat) (D : DataW Unit) (hown : NM w bn n D) (sz : Int → Nat) (hsz : Sized w D sz) (hu : usedOf sz D ≤ 35184372088832) :
    Calls Try.prog 35 #[.pointer (some ⟨g, 0, none⟩)] w fun e w' => e = .returned (.int .i64 (usedOf sz D : Nat)) ∧ Still w w' := by
  have WK := Lib.hid (works_yes h)
  rw [show (if false = true then (12 : Int) else 0) = 0 from rfl] at WK
  have c1 : w.cell? ⟨g, 1, none⟩ = some (.map (some bn)) := Blk.cell h 1
  have HO := Lib.hid hown
  have HSZ := Lib.hid hsz
  obtain ⟨es, hes, hpw, hkl⟩ := hown.entries mapLaw
  have HES := Lib.hid (And.intro hes (And.intro hpw hkl))
  obtain ⟨U, hU⟩ : ∃ U, U = usedOf sz D := ⟨_, rfl⟩
  rw [← hU] at hu ⊢
  have HU := Lib.hid hU
  have HLT := Lib.hid hown.lt
  clear h hown hsz hes hpw hkl hU
  go_enter Try.func35, Try.ntmps35
  go_wp2_with fail
  refine WK.out.mono ?_
  rintro e w2 ⟨rfl, rfl⟩
  go_wp2_with (at_range; go_must (refine wpList_range_own _ rfl _ 45 rfl 9 53 mapLaw underNames _ bn n D rfl HO.out ?_; intro w0 hrg0 hg0 hs0))
  go_frame
  obtain ⟨r, hr⟩ : ∃ r, r = w.heap.size := ⟨_, rfl⟩
  rw [← hr] at hrg0 ⊢
  have HR := Lib.hid hr
  have HG0 := Lib.hid (show Still w w0 from ⟨hg0.os, hg0.tape, hg0.output, hg0.size, fun k hk => hg0.block k hk (by simp)⟩)
  have HRG := Lib.hid hrg0
  clear hr hg0 hs0 hrg0
  go_loopw [3] (fun nv wr => ∃ (acc : Nat) (left : Lit → Bool) (cnt : Nat), nv = .int .i64 acc ∧ Hid (wr.ranges Try.prog 9 ptrElem bn r n D left cnt ∧ acc + sumL sz left es = U ∧ Still w wr)) (fun _ wr => wr.rangeLeft bn r)
  case atStart =>
    refine ⟨0, _, _, rfl, HRG.out, ?_, HG0.out⟩
    rw [HU.out, HES.out.1, Nat.zero_add]
    refine sumL_has sz _ es (fun p hp => ?_)
    rw [has_eq, List.any_eq_true]
    exact ⟨p, hp, WideAt.sameKey_self (HES.out.2.2 p hp)⟩
  case round =>
    obtain ⟨acc, left, cnt, rfl, hh⟩ := hrel
    have hacc : acc ≤ U := by have := hh.out.2.1; omega
    go_wp2_with (at_next; go_must (refine wpList_next_ranges _ rfl _ rfl 9 mapLaw ptrElem (fun s : ByteArray => Value.string s) (fun f : Int => pv f) (fun key k h => keyOf_str_inv h) (fun v y h => by obtain ⟨f, _, h1, _⟩ := ptrElem_inv h; exact ⟨f, h1⟩) bn r n D left cnt rfl hh.out.1 ?_ ?_))
    · intro hc0 hl0
      have E := Lib.hid (show acc = U by have := hh.out.2.1; rw [sumL_false sz left hl0 es] at this; omega)
      have ST := Lib.hid hh.out.2.2
      clear hh hc0 hl0
      go_wp2_with fail
      go_ret
      exact ⟨by rw [E.out]; rfl, ST.out⟩
    · intro s f k y yp w1 cnt1 hkey hlk hv hat hrg1 hlt hg1 hs1 hen
      obtain ⟨pe, hpe, hpk, hpy⟩ := entry_mem hat
      obtain ⟨f0, hf0, A, c, fb, fc, hfb⟩ := HSZ.out pe hpe
      have ey : y = fd (f0 : Int) := hpy.symm.trans hf0
      have ef : pv f = .pointer (some ⟨f0, 0, none⟩) := by
        obtain ⟨f', _, h1, h2⟩ := ptrElem_inv hv
        have h3 : fd (f0 : Int) = fd f' := by rw [← ey]; exact congrArg Prod.fst h2
        have h4 : (f0 : Int) = f' := by
          simp only [fd, DataW.lit.injEq, Lit.int.injEq, true_and] at h3
          exact h3
        rw [h1, ← h4, pv_at]
      have hkk : pe.1 = k := WideAt.sameKey_eq hpk
      have hfd : fdOf y = (f0 : Int) := by rw [ey]; rfl
      have hsp : sumL sz left es = sz (f0 : Int) + sumL sz (fun z => left z && !z.sameKey k) es := by
        have h := sumL_split sz left k y (by rw [← hkk]; exact HES.out.2.2 pe (by have := hpe; rw [HES.out.1] at this; exact this)) hlk es HES.out.2.1 (by
          have h1 : pe ∈ es := by have := hpe; rw [HES.out.1] at this; exact this
          have h2 : pe = (k, y) := by rw [← hkk, ← hpy]
          rw [← h2]; exact h1)
        rw [hfd] at h
        exact h
      have hacc2 : acc + sz (f0 : Int) ≤ U := by have := hh.out.2.1; omega
      have ST1 := Lib.hid (show Still w w1 from hh.out.2.2.grown hg1 hh.out.2.2.size (fun j hj => by injection hj with hj; rw [← hj, HR.out]; exact Nat.le_refl _))
      have q0 : w1.cell? ⟨f0, 0, none⟩ = some (.slice A (sz (f0 : Int)) c) := Blk.cell (Blk.still hfb ST1.out) 0
      rw [ef] at hen ⊢
      have HRG1 := Lib.hid (And.intro hrg1 hlt)
      have HH := Lib.hid (And.intro hh.out.1.left_eq (show acc + sz (f0 : Int) + sumL sz (fun z => left z && !z.sameKey k) es = U by have := hh.out.2.1; omega))
      obtain ⟨z, hz⟩ : ∃ z, z = sz (f0 : Int) := ⟨_, rfl⟩
      rw [← hz] at q0 hacc2 HH
      clear pe hpe hpk hpy hf0 hfb ey ef hkk hfd hsp hh hkey hlk hv hat hrg1 hlt hg1 hs1 hz
      go_wp2_with fail
      go_roundw
      case rel => exact ⟨acc + z, _, cnt1, by go_num, HRG1.out.1, HH.out.2, ST1.out⟩
      case measure => rw [HRG1.out.1.left_eq, HH.out.1]; exact HRG1.out.2
end Go.Proofs.Ytlkkkifilgnhmaa
