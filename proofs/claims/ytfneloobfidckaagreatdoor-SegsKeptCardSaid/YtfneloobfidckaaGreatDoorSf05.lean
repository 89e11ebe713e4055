/- Contracts and facts, several texts in one. It proves no statement. -/
import Derived.Test.YtfneloobfidckaaGreatDoorSf03
import Derived.Deep.DeepCutAuto
import Derived.Test.YtfneloobfidckaaGreatDoorSf04

/- Contract: how many bytes all files have. It proves no statement. -/


namespace Go.Proofs.YtfneloobfidckaaGreatDoor
open Go.RowKit Go.Maps Go.WideMaps
set_option linter.unusedVariables false
set_option linter.unusedSimpArgs false

/-- The file that a datum names. -/
def fdOf : DataW Unit → Int
  | .lit (.int .i64 f) => f
  | _ => -1
/-- All sizes of entries that are still to come. -/
def sumL (sz : Int → Nat) (left : Lit → Bool) : List (Lit × DataW Unit) → Nat
  | [] => 0
  | p :: es => (if left p.1 = true then sz (fdOf p.2) else 0) + sumL sz left es
def entriesOf : DataW Unit → List (Lit × DataW Unit)
  | .map es => es
  | _ => []
def usedOf (sz : Int → Nat) (D : DataW Unit) : Nat := sumL sz (fun _ => true) (entriesOf D)
theorem sumL_false (sz : Int → Nat) (left : Lit → Bool) (h : ∀ k, left k = false) : ∀ es, sumL sz left es = 0
  | [] => rfl
  | p :: es => by rw [sumL, sumL_false sz left h es, h p.1]; rfl
theorem sumL_has (sz : Int → Nat) (left : Lit → Bool) : ∀ es : List (Lit × DataW Unit), (∀ p ∈ es, left p.1 = true) → sumL sz left es = sumL sz (fun _ => true) es
  | [], _ => rfl
  | p :: es, h => by rw [sumL, sumL, sumL_has sz left es (fun q hq => h q (by simp [hq])), h p (by simp)]
theorem sumL_le (sz : Int → Nat) (left : Lit → Bool) : ∀ es : List (Lit × DataW Unit), sumL sz left es ≤ sumL sz (fun _ => true) es
  | [] => Nat.le_refl _
  | p :: es => by
    rw [sumL, sumL]
    have := sumL_le sz left es
    simp only [if_true]
    split <;> omega
theorem sumL_other (sz : Int → Nat) (left : Lit → Bool) (k : Lit) : ∀ es : List (Lit × DataW Unit), (∀ p ∈ es, p.1 ≠ k) → sumL sz (fun z => left z && !z.sameKey k) es = sumL sz left es
  | [], _ => rfl
  | p :: es, h => by
    rw [sumL, sumL, sumL_other sz left k es (fun q hq => h q (by simp [hq])), sameKey_ne (h p (by simp))]
    simp
theorem sumL_split (sz : Int → Nat) (left : Lit → Bool) (k : Lit) (v : DataW Unit) (hk : WideAt.IsKeyLit k) (hl : left k = true) : ∀ es : List (Lit × DataW Unit), es.Pairwise (fun p q => p.1 ≠ q.1) → (k, v) ∈ es → sumL sz left es = sz (fdOf v) + sumL sz (fun z => left z && !z.sameKey k) es
  | [], _, h => by simp at h
  | p :: es, hp, h => by
    rw [List.pairwise_cons] at hp
    rcases List.mem_cons.1 h with h | h
    · subst h
      rw [sumL, sumL, sumL_other sz left k es (fun q hq e => hp.1 q hq e.symm), WideAt.sameKey_self hk, hl]
      simp
    · have hne : p.1 ≠ k := hp.1 (k, v) h
      rw [sumL, sumL, sumL_split sz left k v hk hl es hp.2 h, sameKey_ne hne]
      simp only [Bool.not_false, Bool.and_true]
      omega
theorem entry_mem {D : DataW Unit} {k : Lit} {y : DataW Unit} (h : ∀ z, D.atKey k z = y) : ∃ p ∈ entriesOf D, p.1.sameKey k = true ∧ p.2 = y := by
  have hh := has_true_of_atKey h
  cases D with
  | map es =>
    rw [has_eq, List.any_eq_true] at hh
    have h1 := h (fd 0)
    unfold DataW.atKey at h1
    simp only at h1
    cases hf : es.find? (fun p => p.1.sameKey k) with
    | none =>
      obtain ⟨p, hp, hs⟩ := hh
      rw [List.find?_eq_none] at hf
      exact absurd hs (hf p hp)
    | some p =>
      rw [hf] at h1
      exact ⟨p, List.mem_of_find?_eq_some hf, by simpa using List.find?_some hf, h1⟩
  | _ => simp [Maps.has] at hh
/-- Each file that a map names has a row of so many bytes. -/
def Sized (w : World) (D : DataW Unit) (sz : Int → Nat) : Prop := ∀ p ∈ entriesOf D, ∃ f : Nat, p.2 = fd f ∧ ∃ A c b d, FileB w f (.slice A (sz f) c) b d
theorem Sized.chg {w w' : World} {D : DataW Unit} {sz : Int → Nat} {S : Nat → Prop} (h : Sized w D sz) (c : Chg w w' S) (hS : ∀ p ∈ entriesOf D, ∀ f : Nat, p.2 = fd f → ¬ S f) : Sized w' D sz := by
  intro p hp
  obtain ⟨f, e, A, cc, b, d, hb⟩ := h p hp
  exact ⟨f, e, A, cc, b, d, c.blk hb (hS p hp f e)⟩
theorem keyOf_str_inv {key : Value} {k : Lit} (h : keyOf Tryz.prog 9 key = some k) : ∃ s : ByteArray, key = .string s := by
  obtain ⟨s, hs, _⟩ := string_of_keyOf Tryz.underlying9 h
  exact ⟨s, hs⟩
set_option maxRecDepth 100000 in
set_option maxHeartbeats 1600000 in
theorem used_yes {w : World} {g : Nat} {room : Int} {bn bf : Nat} {wv : Value} {left : Int} (h : MedB w g room bn bf wv left false) (n : Nat) (D : DataW Unit) (hown : NM w bn n D) (sz : Int → Nat) (hsz : Sized w D sz) (hu : usedOf sz D ≤ 35184372088832) :
    Calls Tryz.prog 47 #[.pointer (some ⟨g, 0, none⟩)] w fun e w' => e = .returned (.int .i64 (usedOf sz D : Nat)) ∧ Still w w' := by
  have WK := Lib.hid (works_yes h)
  rw [show (if false = true then (12 : Int) else 0) = 0 from rfl] at WK
  have c1 : w.cell? ⟨g, 1, none⟩ = some (.map (some bn)) := Blk.cell h 1
  have HO := Lib.hid hown
  have HSZ := Lib.hid hsz
  obtain ⟨es, hes, hpw, hkl⟩ := hown.entries mapLaw
  have HES := Lib.hid (And.intro hes (And.intro hpw hkl))
  obtain ⟨U, hU⟩ : ∃ U, U = usedOf sz D := ⟨_, rfl⟩
  rw [← hU] at hu ⊢
  have HU := Lib.hid hU
  have HLT := Lib.hid hown.lt
  clear h hown hsz hes hpw hkl hU
  go_enter Tryz.func47, Tryz.ntmps47
  go_wp2_with fail
  refine WK.out.mono ?_
  rintro e w2 ⟨rfl, rfl⟩
  go_wp2_with (at_range; go_must (refine wpList_range_own _ rfl _ 144 rfl 9 185 mapLaw underNames _ bn n D rfl HO.out ?_; intro w0 hrg0 hg0 hs0))
  go_frame
  obtain ⟨r, hr⟩ : ∃ r, r = w.heap.size := ⟨_, rfl⟩
  rw [← hr] at hrg0 ⊢
  have HR := Lib.hid hr
  have HG0 := Lib.hid (show Still w w0 from ⟨hg0.os, hg0.tape, hg0.output, hg0.size, fun k hk => hg0.block k hk (by simp)⟩)
  have HRG := Lib.hid hrg0
  clear hr hg0 hs0 hrg0
  go_loopw [3] (fun nv wr => ∃ (acc : Nat) (left : Lit → Bool) (cnt : Nat), nv = .int .i64 acc ∧ Hid (wr.ranges Tryz.prog 9 ptrElem bn r n D left cnt ∧ acc + sumL sz left es = U ∧ Still w wr)) (fun _ wr => wr.rangeLeft bn r)
  case atStart =>
    refine ⟨0, _, _, rfl, HRG.out, ?_, HG0.out⟩
    rw [HU.out, HES.out.1, Nat.zero_add]
    refine sumL_has sz _ es (fun p hp => ?_)
    rw [has_eq, List.any_eq_true]
    exact ⟨p, hp, WideAt.sameKey_self (HES.out.2.2 p hp)⟩
  case round =>
    obtain ⟨acc, left, cnt, rfl, hh⟩ := hrel
    have hacc : acc ≤ U := by have := hh.out.2.1; omega
    go_wp2_with (at_next; go_must (refine wpList_next_ranges _ rfl _ rfl 9 mapLaw ptrElem (fun s : ByteArray => Value.string s) (fun f : Int => pv f) (fun key k h => keyOf_str_inv h) (fun v y h => by obtain ⟨f, _, h1, _⟩ := ptrElem_inv h; exact ⟨f, h1⟩) bn r n D left cnt rfl hh.out.1 ?_ ?_))
    · intro hc0 hl0
      have E := Lib.hid (show acc = U by have := hh.out.2.1; rw [sumL_false sz left hl0 es] at this; omega)
      have ST := Lib.hid hh.out.2.2
      clear hh hc0 hl0
      go_wp2_with fail
      go_ret
      exact ⟨by rw [E.out]; rfl, ST.out⟩
    · intro s f k y yp w1 cnt1 hkey hlk hv hat hrg1 hlt hg1 hs1 hen
      obtain ⟨pe, hpe, hpk, hpy⟩ := entry_mem hat
      obtain ⟨f0, hf0, A, c, fb, fc, hfb⟩ := HSZ.out pe hpe
      have ey : y = fd (f0 : Int) := hpy.symm.trans hf0
      have ef : pv f = .pointer (some ⟨f0, 0, none⟩) := by
        obtain ⟨f', _, h1, h2⟩ := ptrElem_inv hv
        have h3 : fd (f0 : Int) = fd f' := by rw [← ey]; exact congrArg Prod.fst h2
        have h4 : (f0 : Int) = f' := by
          simp only [fd, DataW.lit.injEq, Lit.int.injEq, true_and] at h3
          exact h3
        rw [h1, ← h4, pv_at]
      have hkk : pe.1 = k := WideAt.sameKey_eq hpk
      have hfd : fdOf y = (f0 : Int) := by rw [ey]; rfl
      have hsp : sumL sz left es = sz (f0 : Int) + sumL sz (fun z => left z && !z.sameKey k) es := by
        have h := sumL_split sz left k y (by rw [← hkk]; exact HES.out.2.2 pe (by have := hpe; rw [HES.out.1] at this; exact this)) hlk es HES.out.2.1 (by
          have h1 : pe ∈ es := by have := hpe; rw [HES.out.1] at this; exact this
          have h2 : pe = (k, y) := by rw [← hkk, ← hpy]
          rw [← h2]; exact h1)
        rw [hfd] at h
        exact h
      have hacc2 : acc + sz (f0 : Int) ≤ U := by have := hh.out.2.1; omega
      have ST1 := Lib.hid (show Still w w1 from hh.out.2.2.grown hg1 hh.out.2.2.size (fun j hj => by injection hj with hj; rw [← hj, HR.out]; exact Nat.le_refl _))
      have q0 : w1.cell? ⟨f0, 0, none⟩ = some (.slice A (sz (f0 : Int)) c) := Blk.cell (Blk.still hfb ST1.out) 0
      rw [ef] at hen ⊢
      have HRG1 := Lib.hid (And.intro hrg1 hlt)
      have HH := Lib.hid (And.intro hh.out.1.left_eq (show acc + sz (f0 : Int) + sumL sz (fun z => left z && !z.sameKey k) es = U by have := hh.out.2.1; omega))
      obtain ⟨z, hz⟩ : ∃ z, z = sz (f0 : Int) := ⟨_, rfl⟩
      rw [← hz] at q0 hacc2 HH
      clear pe hpe hpk hpy hf0 hfb ey ef hkk hfd hsp hh hkey hlk hv hat hrg1 hlt hg1 hs1 hz
      go_wp2_with fail
      go_roundw
      case rel => exact ⟨acc + z, _, cnt1, by go_num, HRG1.out.1, HH.out.2, ST1.out⟩
      case measure => rw [HRG1.out.1.left_eq, HH.out.1]; exact HRG1.out.2
end Go.Proofs.YtfneloobfidckaaGreatDoor

/- Contract: Append, where it appends. It proves no statement. -/


namespace Go.Proofs.YtfneloobfidckaaGreatDoor
open Go.RowKit Go.Maps Go.WideMaps
set_option linter.unusedVariables false
set_option linter.unusedSimpArgs false

theorem own_lower9 {w : World} {base base' n : Nat} {v : Value} {xs : List Value} (h : w.ownsRow base 5 1 v n xs) (hb : base' ≤ base) : w.ownsRow base' 5 1 v n xs := by
  refine ⟨h.1, ?_⟩
  rcases h.2 with h0 | ⟨g, c, cur, h1, h2, h3⟩
  · exact .inl h0
  · exact .inr ⟨g, c, cur, h1, Nat.le_trans hb h2, h3⟩
set_option maxRecDepth 100000 in
set_option maxHeartbeats 3200000 in
theorem append_ok {w : World} {g : Nat} {room : Int} {bn bf : Nat} {wv : Value} {left : Int} (h : MedB w g room bn bf wv left false) (hl : left ≤ 9223372036854775807) (hl0 : left ≠ 0) (s : ByteArray) (hs : s.size ≤ maxLen) (n : Nat) (D : DataW Unit) (hown : NM w bn n D) (sz : Int → Nat) (hsz : Sized w D sz)
    (gf nf base k : Nat) (nv fv wtv : Value) (l x : List UInt8) (cs : List Value) (A : Option Addr) (m c B : Nat) (hlk : look D s = (gf : Int)) (hf : FileB w gf nv fv wtv) (hnv : w.ownsRow base 5 1 nv nf (bytesV l)) (hwt : w.ownsRow base 267 2 wtv k cs) (hbase : base ≤ w.heap.size)
    (hr : Reads w B A m x) (hB : B ≤ w.heap.size) (hA : A = none → m = 0 ∧ c = 0) (hnm : nf + m ≤ 100000000) (hk : k ≤ 1000000) (hu : usedOf sz D ≤ 35184372088832) (hroom : (m : Int) + usedOf sz D ≤ room) (hrm : room ≤ 16777216) :
    Calls Tryz.prog 123 #[.pointer (some ⟨g, 0, none⟩), .string s, .slice A m c] w fun e w' => e = .returned (.int .i64 0) ∧ ∃ nv' wtv' cv, MedB w' g room bn bf wv (stepR left false).1 false ∧ FileB w' gf nv' fv wtv' ∧ w'.ownsRow base 5 1 nv' (nf + m) (bytesV (l ++ x)) ∧ w'.ownsRow base 267 2 wtv' (k + 1) (cs ++ [.int .i64 nf, cv]) ∧ w'.ownsRow w.heap.size 5 1 cv m (bytesV x) ∧ Chg w w' (wrS g gf nv wtv) ∧ (nv'.ownBlock = nv.ownBlock ∨ ∃ j, nv'.ownBlock = some j ∧ w.heap.size ≤ j) ∧ (wtv'.ownBlock = wtv.ownBlock ∨ ∃ j, wtv'.ownBlock = some j ∧ w.heap.size ≤ j)  ∧ (∀ j, nv'.ownBlock = some j → cv.ownBlock ≠ some j) := by
  have hst : (stepR left false).2.2 = 0 ∧ (stepR left false).2.1 = false := by
    unfold stepR
    rw [if_neg hl0]
    split <;> exact ⟨rfl, rfl⟩
  obtain ⟨Anv, cnv, rfl, p1, p2, p3⟩ := own_form hnv
  have FD := Lib.hid (find_yes h s n D hown hs)
  rw [hlk, show findV false (gf : Int) = pv (gf : Int) from rfl, pv_at, show findE false (gf : Int) = if (gf : Int) < 0 then 9 else 0 from rfl, if_neg (by omega)] at FD
  have US := Lib.hid (used_yes (w := w.drew) (h.still ((Still.refl w).drew)) n D (World.ownsMap.drew hown) sz (hsz.chg (Chg.drew w (fun _ => False)) (fun _ _ _ _ h => h)) hu)
  have MM := Lib.hid (fun W (st : Still w W) => h.still st)
  have FF := Lib.hid (fun W (st : Still w W) => (show FileB W gf (.slice Anv nf cnv) fv wtv from Blk.still hf st))
  have CL := Lib.hid (fun W (st : Still w W) => bclone_any A m c x W B (hr.still hB st) (Nat.le_trans hB st.size) (by omega) hA)
  have WR := Lib.hid (fun W (st : Still w W) v (own : W.ownsRow w.heap.size 5 1 v m (bytesV x)) => (show ∃ Ac cc, v = .slice Ac m cc ∧ Calls Tryz.prog 175 #[.pointer (some ⟨g, 0, none⟩), .pointer (some ⟨gf, 0, none⟩), .agg #[.int .i64 nf, .slice Ac m cc]] W fun e w' => e = .returned (.int .i64 0) ∧ ∃ nv' wtv' cv, MedB w' g room bn bf wv (stepR left false).1 false ∧ FileB w' gf nv' fv wtv' ∧ w'.ownsRow base 5 1 nv' (nf + m) (bytesV (l ++ x)) ∧ w'.ownsRow base 267 2 wtv' (k + 1) (cs ++ [.int .i64 nf, cv]) ∧ w'.ownsRow w.heap.size 5 1 cv m (bytesV x) ∧ Chg w w' (wrS g gf (.slice Anv nf cnv) wtv) ∧ (nv'.ownBlock = (Value.slice Anv nf cnv).ownBlock ∨ ∃ j, nv'.ownBlock = some j ∧ w.heap.size ≤ j) ∧ (wtv'.ownBlock = wtv.ownBlock ∨ ∃ j, wtv'.ownBlock = some j ∧ w.heap.size ≤ j) ∧ (∀ j, nv'.ownBlock = some j → cv.ownBlock ≠ some j) from by
    obtain ⟨Ac, cc, rfl, q1, q2, q3⟩ := own_form own
    have C0 := Chg.of_still st (fun _ => False)
    refine ⟨Ac, cc, rfl, (write_ok (h.still st) hl hst.1 gf nf base k _ fv wtv l x cs Ac m cc W.heap.size (Blk.still hf st) (C0.own hnv (fun _ _ h => h)) (C0.own hwt (fun _ _ h => h)) (Nat.le_trans hbase st.size) (Reads.of_own own) (Nat.le_refl _) ?_ (fun e => (q3 e).2) hnm hk).mono ?_⟩
    · intro ad e hm
      rcases own.2 with ⟨_, h0⟩ | ⟨gg, cap, cur, hv, hlo, _⟩
      · omega
      · injection hv with hv1
        rw [e] at hv1
        injection hv1 with hv1
        rw [hv1]
        have := Blk.lt h
        simp only
        omega
    · rintro e w' ⟨he, nv', wtv', a1, a2, a3, a4, a5, a6, a7⟩
      rw [hst.2] at a1
      refine ⟨he, nv', wtv', _, a1, a2, a3, a4, a5.own own ?_, Chg.trans (C0.mono (fun _ _ h => h.elim)) a5 (fun _ _ h => h), ?_, ?_, ?_⟩
      · intro j hj
        have hjlo : w.heap.size ≤ j := (own.lt j hj).1
        rintro (q | q | q | q)
        · have := Blk.lt h; omega
        · have := Blk.lt hf; omega
        · have := (hnv.lt j q).2; omega
        · have := (hwt.lt j q).2; omega
      · rcases a6 with h | ⟨j, h, hj⟩
        · exact .inl h
        · exact .inr ⟨j, h, Nat.le_trans st.size hj⟩
      · rcases a7 with h | ⟨j, h, hj⟩
        · exact .inl h
        · exact .inr ⟨j, h, Nat.le_trans st.size hj⟩
      · intro j hj hc
        have h1 := own.lt j hc
        rcases a6 with h | ⟨q, h, hq⟩
        · rw [h] at hj
          have := (hnv.lt j hj).2
          omega
        · rw [h] at hj
          injection hj with hj
          omega))
  have c0 : w.drew.cell? ⟨g, 0, none⟩ = some (.int .i64 room) := Blk.cell h 0
  obtain ⟨U, hU⟩ : ∃ U, U = usedOf sz D := ⟨_, rfl⟩
  rw [← hU] at US hroom hu
  have d1 : ¬ (room - (U : Int) < (m : Int)) := by omega
  have d2 : (U : Int) ≤ 35184372088832 := by omega
  have d3 : (0 : Int) ≤ room := by omega
  have d4 : IntKind.i64.wrap (room - (U : Int)) = room - (U : Int) := by rw [IntKind.wrap_i64]; omega
  clear h hl hl0 hs hown hsz hf hnv hwt hbase hr hB hA hnm hk hst p1 p2 p3 hlk hU hroom
  go_enter Tryz.func123, Tryz.ntmps123
  go_wp2_with fail
  refine FD.out.mono ?_
  rintro e w2 ⟨rfl, rfl⟩
  go_wp2_with fail
  refine wp_region_held_drew (S := fun W => W.cell? ⟨g, 0, none⟩ = some (.int .i64 room)) (by kernel_rfl) c0 (fun hHeld => ?_)
  try simp only [Act.put, List.setIfInBounds_toArray, List.set_cons_zero, List.set_cons_succ]
  refine wpAnyH_take (i := 0) (v := .slice A m c) rfl (by kernel_rfl) (by kernel_rfl) (by kernel_rfl) (fun _ _ _ h => h) (Or.inl ⟨by kernel_rfl, fun W hS => by go_simp⟩) (by assumption) ?_
  try simp only [Act.put, List.setIfInBounds_toArray, List.set_cons_zero, List.set_cons_succ]
  refine wpAnyH_take (i := 1) (v := .int .i64 (m : Int)) rfl (by kernel_rfl) (by kernel_rfl) (by kernel_rfl) (fun _ _ _ h => h) (Or.inl ⟨by kernel_rfl, fun W hS => by go_simp⟩) (by assumption) ?_
  try simp only [Act.put, List.setIfInBounds_toArray, List.set_cons_zero, List.set_cons_succ]
  refine wpAnyH_take (i := 2) (v := .pointer (some ⟨g, 0, none⟩)) rfl (by kernel_rfl) (by kernel_rfl) (by kernel_rfl) (fun _ _ _ h => h) (Or.inl ⟨by kernel_rfl, fun W hS => by go_simp⟩) (by assumption) ?_
  try simp only [Act.put, List.setIfInBounds_toArray, List.set_cons_zero, List.set_cons_succ]
  refine wpAnyH_take (i := 3) (v := .pointer (some ⟨g, 0, none⟩)) rfl (by kernel_rfl) (by kernel_rfl) (by kernel_rfl) (fun _ _ _ h => h) (Or.inl ⟨by kernel_rfl, fun W hS => by go_simp⟩) (by assumption) ?_
  try simp only [Act.put, List.setIfInBounds_toArray, List.set_cons_zero, List.set_cons_succ]
  refine wpAnyH_take (i := 4) (v := .pointer (some ⟨g, 0, none⟩)) rfl (by kernel_rfl) (by kernel_rfl) (by kernel_rfl) (fun _ _ _ h => h) (Or.inl ⟨by kernel_rfl, fun W hS => by go_simp⟩) (by assumption) ?_
  try simp only [Act.put, List.setIfInBounds_toArray, List.set_cons_zero, List.set_cons_succ]
  refine wpAnyH_take (i := 5) (v := .int .i64 room) rfl (by kernel_rfl) (by kernel_rfl) (by kernel_rfl) (fun _ _ _ h => h) (Or.inl ⟨by kernel_rfl, fun W hS => by go_simp⟩) (by assumption) ?_
  try simp only [Act.put, List.setIfInBounds_toArray, List.set_cons_zero, List.set_cons_succ]
  refine wpAnyH_take (i := 6) (v := .pointer (some ⟨g, 0, none⟩)) rfl (by kernel_rfl) (by kernel_rfl) (by kernel_rfl) (fun _ _ _ h => h) (Or.inl ⟨by kernel_rfl, fun W hS => by go_simp⟩) (by assumption) ?_
  try simp only [Act.put, List.setIfInBounds_toArray, List.set_cons_zero, List.set_cons_succ]
  refine wpAnyH_ready (rs := [7]) (by kernel_rfl) (by simp) ?_
  refine AllReadyH.cons (o := ⟨some 27, .call { callee := .value (.func 47), args := #[.tmp 26], argTypes := #[25] }, _, _, _, _⟩) rfl (fun K' hK' => ?_) AllReadyH.nil
  have HK' := Lib.hid hK'
  clear hK'
  go_simp
  go_wp2_with (go_at_call 47; refine US.out.mono ?_; rintro e w3 ⟨rfl, s3⟩; have S3 := Lib.hid (show Still w w3 from ((Still.refl w).drew).trans s3))
  refine HK'.out.out _ _ (Blk.cell (MM.out w3 S3.out) 0) (fun hHeld => ?_)
  clear HK' K'
  try simp only [Act.put, List.setIfInBounds_toArray, List.set_cons_zero, List.set_cons_succ]
  refine wpAnyH_take (i := 8) (v := .int .i64 (room - (U : Int))) rfl (by kernel_rfl) (by kernel_rfl) (by kernel_rfl) (fun _ _ _ h => h) (Or.inl ⟨by kernel_rfl, fun W hS => by go_simp⟩) (by assumption) ?_
  try simp only [Act.put, List.setIfInBounds_toArray, List.set_cons_zero, List.set_cons_succ]
  refine wpAnyH_take (i := 9) (v := (.bool false)) rfl (by kernel_rfl) (by kernel_rfl) (by kernel_rfl) (fun _ _ _ h => h) (Or.inl ⟨by kernel_rfl, fun W hS => by go_simp⟩) (by assumption) ?_
  try simp only [Act.put, List.setIfInBounds_toArray, List.set_cons_zero, List.set_cons_succ]
  refine wpAnyH_take (i := 10) (v := (.bool false)) rfl (by kernel_rfl) (by kernel_rfl) (by kernel_rfl) (fun _ _ _ h => h) (Or.inl ⟨by kernel_rfl, fun W hS => by go_simp⟩) (by assumption) ?_
  try simp only [Act.put, List.setIfInBounds_toArray, List.set_cons_zero, List.set_cons_succ]
  refine wpAnyH_done (by kernel_rfl) ?_ _
  clear hHeld c0 US
  go_simp
  go_wp2_with fail
  refine wp_region_any (by kernel_rfl) ?_
  change wpAny _ _ _ _ _ _ _ w3.drew
  have SE := Lib.hid (show Still w w3.drew from S3.out.trans ((Still.refl w3).drew))
  obtain ⟨we, hwe⟩ : ∃ we, we = w3.drew := ⟨_, rfl⟩
  rw [← hwe] at SE ⊢
  have c0 : we.cell? ⟨gf, 0, none⟩ = some (.slice Anv nf cnv) := Blk.cell (FF.out we SE.out) 0
  have CLE := Lib.hid (CL.out we SE.out)
  clear hwe
  try simp only [Act.put, List.setIfInBounds_toArray, List.set_cons_zero, List.set_cons_succ]
  refine wpAny_take (i := 0) (v := .pointer (some ⟨g, 0, none⟩)) rfl (by kernel_rfl) (by kernel_rfl) (by kernel_rfl) (fun _ _ _ h => h) (Or.inl ⟨by kernel_rfl, fun w => by go_simp⟩) ?_
  try simp only [Act.put, List.setIfInBounds_toArray, List.set_cons_zero, List.set_cons_succ]
  refine wpAny_take (i := 1) (v := .pointer (some ⟨gf, 0, none⟩)) rfl (by kernel_rfl) (by kernel_rfl) (by kernel_rfl) (fun _ _ _ h => h) (Or.inl ⟨by kernel_rfl, fun w => by go_simp⟩) ?_
  try simp only [Act.put, List.setIfInBounds_toArray, List.set_cons_zero, List.set_cons_succ]
  refine wpAny_take (i := 2) (v := .pointer (some ⟨gf, 0, none⟩)) rfl (by kernel_rfl) (by kernel_rfl) (by kernel_rfl) (fun _ _ _ h => h) (Or.inl ⟨by kernel_rfl, fun w => by go_simp⟩) ?_
  try simp only [Act.put, List.setIfInBounds_toArray, List.set_cons_zero, List.set_cons_succ]
  refine wpAny_take (i := 3) (v := .pointer (some ⟨gf, 0, none⟩)) rfl (by kernel_rfl) (by kernel_rfl) (by kernel_rfl) (fun _ _ _ h => h) (Or.inl ⟨by kernel_rfl, fun w => by go_simp⟩) ?_
  try simp only [Act.put, List.setIfInBounds_toArray, List.set_cons_zero, List.set_cons_succ]
  refine wpAny_take (i := 4) (v := .pointer (some ⟨gf, 0, none⟩)) rfl (by kernel_rfl) (by kernel_rfl) (by kernel_rfl) (fun _ _ _ h => h) (Or.inl ⟨by kernel_rfl, fun w => by go_simp⟩) ?_
  try simp only [Act.put, List.setIfInBounds_toArray, List.set_cons_zero, List.set_cons_succ]
  refine wpAny_take (i := 7) (v := .slice A m c) rfl (by kernel_rfl) (by kernel_rfl) (by kernel_rfl) (fun _ _ _ h => h) (Or.inl ⟨by kernel_rfl, fun w => by go_simp⟩) ?_
  try simp only [Act.put, List.setIfInBounds_toArray, List.set_cons_zero, List.set_cons_succ]
  refine wpAny_ready (rs := [5, 8]) (by kernel_rfl) (by simp) ?_
  refine AllReady.cons (o := ⟨some 35, .load 42 (.tmp 34), _, _, _, none⟩) rfl (fun K' hK' => ?_) (AllReady.cons (o := ⟨some 38, .call { callee := .value (.func 165), args := #[.tmp 37], argTypes := #[42] }, _, _, _, none⟩) rfl (fun K' hK' => ?_) AllReady.nil)
  · have HK' := Lib.hid hK'
    clear hK'
    rw [if_pos (by kernel_rfl)]
    go_simp
    refine HK'.out _ _ ?_
    clear HK' K'
    try simp only [Act.put, List.setIfInBounds_toArray, List.set_cons_zero, List.set_cons_succ]
    refine wpAny_take (i := 6) (v := .int .i64 (nf : Int)) rfl (by kernel_rfl) (by kernel_rfl) (by kernel_rfl) (fun _ _ _ h => h) (Or.inl ⟨by kernel_rfl, fun w => by go_simp⟩) ?_
    try simp only [Act.put, List.setIfInBounds_toArray, List.set_cons_zero, List.set_cons_succ]
    refine wpAny_ready (rs := [8]) (by kernel_rfl) (by simp) ?_
    refine AllReady.cons (o := ⟨some 38, .call { callee := .value (.func 165), args := #[.tmp 37], argTypes := #[42] }, _, _, _, none⟩) rfl (fun K' hK' => ?_) AllReady.nil
    have HK' := Lib.hid hK'
    clear hK'
    go_simp
    go_wp2_with (go_at_call 165; refine CLE.out.mono ?_; rintro e w5 ⟨⟨v5, rfl, o5⟩, s5⟩)
    have S5 := Lib.hid (SE.out.trans s5)
    obtain ⟨Ac, cc, rfl, WW⟩ := WR.out w5 S5.out v5 (own_lower9 o5 SE.out.size)
    have WW2 := Lib.hid WW
    have c5 : w5.cell? ⟨gf, 0, none⟩ = some (.slice Anv nf cnv) := Blk.cell (FF.out w5 S5.out) 0
    clear o5 s5 WW
    refine HK'.out _ _ ?_
    clear HK' K'
    try simp only [Act.put, List.setIfInBounds_toArray, List.set_cons_zero, List.set_cons_succ]
    refine wpAny_take (i := 9) (v := .agg #[.int .i64 (nf : Int), .slice Ac m cc]) rfl (by kernel_rfl) (by kernel_rfl) (by kernel_rfl) (fun _ _ _ h => h) (Or.inl ⟨by kernel_rfl, fun w => by go_simp⟩) ?_
    try simp only [Act.put, List.setIfInBounds_toArray, List.set_cons_zero, List.set_cons_succ]
    refine wpAny_ready (rs := [10]) (by kernel_rfl) (by simp) ?_
    refine AllReady.cons (o := ⟨some 40, .call { callee := .value (.func 175), args := #[.tmp 30, .tmp 31, .tmp 39], argTypes := #[25, 185, 267] }, _, _, _, none⟩) rfl (fun K' hK' => ?_) AllReady.nil
    have HK' := Lib.hid hK'
    clear hK'
    go_simp
    go_wp2_with (go_at_call 175; refine WW2.out.mono ?_; rintro e w6 ⟨rfl, FN⟩)
    have FN2 := Lib.hid FN
    clear FN
    refine HK'.out _ _ ?_
    clear HK' K'
    try simp only [Act.put, List.setIfInBounds_toArray, List.set_cons_zero, List.set_cons_succ]
    refine wpAny_take (i := 11) (v := .int .i64 0) rfl (by kernel_rfl) (by kernel_rfl) (by kernel_rfl) (fun _ _ _ h => h) (Or.inl ⟨by kernel_rfl, fun w => by go_simp⟩) ?_
    try simp only [Act.put, List.setIfInBounds_toArray, List.set_cons_zero, List.set_cons_succ]
    refine wpAny_done (by kernel_rfl) ?_ _
    go_simp
    go_wp2_with fail
    go_ret
    exact ⟨rfl, FN2.out⟩
  · have HK' := Lib.hid hK'
    clear hK'
    go_simp
    go_wp2_with (go_at_call 165; refine CLE.out.mono ?_; rintro e w5 ⟨⟨v5, rfl, o5⟩, s5⟩)
    have S5 := Lib.hid (SE.out.trans s5)
    obtain ⟨Ac, cc, rfl, WW⟩ := WR.out w5 S5.out v5 (own_lower9 o5 SE.out.size)
    have WW2 := Lib.hid WW
    have c5 : w5.cell? ⟨gf, 0, none⟩ = some (.slice Anv nf cnv) := Blk.cell (FF.out w5 S5.out) 0
    clear o5 s5 WW
    refine HK'.out _ _ ?_
    clear HK' K'
    try simp only [Act.put, List.setIfInBounds_toArray, List.set_cons_zero, List.set_cons_succ]
    refine wpAny_ready (rs := [5]) (by kernel_rfl) (by simp) ?_
    refine AllReady.cons (o := ⟨some 35, .load 42 (.tmp 34), _, _, _, none⟩) rfl (fun K' hK' => ?_) AllReady.nil
    have HK' := Lib.hid hK'
    clear hK'
    rw [if_pos (by kernel_rfl)]
    go_simp
    refine HK'.out _ _ ?_
    clear HK' K'
    try simp only [Act.put, List.setIfInBounds_toArray, List.set_cons_zero, List.set_cons_succ]
    refine wpAny_take (i := 6) (v := .int .i64 (nf : Int)) rfl (by kernel_rfl) (by kernel_rfl) (by kernel_rfl) (fun _ _ _ h => h) (Or.inl ⟨by kernel_rfl, fun w => by go_simp⟩) ?_
    try simp only [Act.put, List.setIfInBounds_toArray, List.set_cons_zero, List.set_cons_succ]
    refine wpAny_take (i := 9) (v := .agg #[.int .i64 (nf : Int), .slice Ac m cc]) rfl (by kernel_rfl) (by kernel_rfl) (by kernel_rfl) (fun _ _ _ h => h) (Or.inl ⟨by kernel_rfl, fun w => by go_simp⟩) ?_
    try simp only [Act.put, List.setIfInBounds_toArray, List.set_cons_zero, List.set_cons_succ]
    refine wpAny_ready (rs := [10]) (by kernel_rfl) (by simp) ?_
    refine AllReady.cons (o := ⟨some 40, .call { callee := .value (.func 175), args := #[.tmp 30, .tmp 31, .tmp 39], argTypes := #[25, 185, 267] }, _, _, _, none⟩) rfl (fun K' hK' => ?_) AllReady.nil
    have HK' := Lib.hid hK'
    clear hK'
    go_simp
    go_wp2_with (go_at_call 175; refine WW2.out.mono ?_; rintro e w6 ⟨rfl, FN⟩)
    have FN2 := Lib.hid FN
    clear FN
    refine HK'.out _ _ ?_
    clear HK' K'
    try simp only [Act.put, List.setIfInBounds_toArray, List.set_cons_zero, List.set_cons_succ]
    refine wpAny_take (i := 11) (v := .int .i64 0) rfl (by kernel_rfl) (by kernel_rfl) (by kernel_rfl) (fun _ _ _ h => h) (Or.inl ⟨by kernel_rfl, fun w => by go_simp⟩) ?_
    try simp only [Act.put, List.setIfInBounds_toArray, List.set_cons_zero, List.set_cons_succ]
    refine wpAny_done (by kernel_rfl) ?_ _
    go_simp
    go_wp2_with fail
    go_ret
    exact ⟨rfl, FN2.out⟩
end Go.Proofs.YtfneloobfidckaaGreatDoor
