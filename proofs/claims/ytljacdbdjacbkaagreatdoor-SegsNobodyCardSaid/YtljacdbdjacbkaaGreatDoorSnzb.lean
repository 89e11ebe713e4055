/- Contracts and facts, several texts in one. It proves no statement. -/
import Derived.Test.YtljacdbdjacbkaaGreatDoorSny
import Derived.Test.YtljacdbdjacbkaaGreatDoorSnza
import Derived.Test.YtljacdbdjacbkaaGreatDoorSgLib
import Derived.Test.YtljacdbdjacbkaaGreatDoorSnh
import Derived.Test.YtljacdbdjacbkaaGreatDoorSnc

/- Contracts: segments' names, by the program. It proves no statement. -/



namespace Go.Proofs.YtljacdbdjacbkaaGreatDoor
open Go.RowKit
set_option linter.unusedVariables false
set_option linter.unusedSimpArgs false

theorem still_growN {w : World} (k : Nat) (os : Array Obj) : Still w (Sort.grow (w.drewN k) os) := by
  refine ⟨rfl, rfl, rfl, ?_, fun b hb => ?_⟩
  · show w.heap.size ≤ (w.heap ++ os).size
    rw [Array.size_append]
    omega
  · show (w.heap ++ os)[b]? = w.heap[b]?
    rw [Array.getElem?_append_left hb]
theorem catB (a b : List UInt8) : (⟨a.toArray⟩ : ByteArray) ++ ⟨b.toArray⟩ = ⟨(a ++ b).toArray⟩ := by
  apply ByteArray.ext
  simp [ByteArray.data_append]
theorem sizeB (a : List UInt8) : (⟨a.toArray⟩ : ByteArray).size = a.length := by simp [ByteArray.size]
theorem itoa_nat (n : Nat) : Lib.itoa (n : Int) = Lib.decDigits n := by
  unfold Lib.itoa
  rw [if_neg (by omega)]
  rfl
set_option maxRecDepth 100000 in
theorem name_any (n : Int) (w : World) (T : SgT w) : Calls Tryz.prog 53 #[.int .i64 n] w fun e w' => e = .returned (.string (nameS n)) ∧ Still w w' := by
  by_cases h0 : n < 0
  · have e : nameS n = ⟨#[]⟩ := by unfold nameS; rw [if_neg (by omega)]
    rw [e]
    clear e T
    go_enter Tryz.func53, Tryz.ntmps53
    go_wp2_with fail
    go_ret
    exact ⟨rfl, Still.refl _⟩
  by_cases h1 : 1048576 ≤ n
  · have e : nameS n = ⟨#[]⟩ := by unfold nameS; rw [if_neg (by omega)]
    rw [e]
    clear e T
    go_enter Tryz.func53, Tryz.ntmps53
    go_wp2_with fail
    go_ret
    exact ⟨rfl, Still.refl _⟩
  obtain ⟨m, rfl⟩ := Int.eq_ofNat_of_zero_le (show 0 ≤ n by omega)
  have hm : m < 1048576 := by omega
  have IT := Lib.hid (itoa_lib (m : Int) (by omega) (by omega) w T.pow)
  rw [itoa_nat] at IT
  have hl := Lib.decDigits_length m
  have hd := nDigits_le 6 m (by omega)
  have hd1 := Lib.nDigits_pos m
  obtain ⟨q, hq⟩ : ∃ q, q = 8 - (Lib.decDigits m).length := ⟨_, rfl⟩
  have RP := Lib.hid (fun W => repeat_lib ⟨#[48]⟩ q W (by omega) (by show 1 * q ≤ _; omega))
  have hpad := dig_pad 8 m (by omega)
  rw [← hq] at hpad
  have e1 : (Lib.repeatL (⟨#[48]⟩ : ByteArray).data.toList q) = List.replicate q 48 := by
    have := Lib.repeatL_replicate 48 1 q
    rw [Nat.mul_one] at this
    exact this
  rw [e1] at RP
  obtain ⟨X, hX⟩ : ∃ X : ByteArray, X = ⟨(Lib.decDigits m).toArray⟩ := ⟨_, rfl⟩
  obtain ⟨Y, hY⟩ : ∃ Y : ByteArray, Y = ⟨(List.replicate q (48 : UInt8)).toArray⟩ := ⟨_, rfl⟩
  rw [← hX] at IT
  rw [← hY] at RP
  have hXs : X.size = (Lib.decDigits m).length := by rw [hX]; simp [ByteArray.size]
  have hq2 : (8 : Int) - (X.size : Int) = (q : Int) := by omega
  have hYs : Y.size = q := by rw [hY, sizeB, List.length_replicate]
  obtain ⟨Z, hZ⟩ : ∃ Z : ByteArray, Z = (⟨#[115, 101, 103, 46]⟩ : ByteArray) ++ Y := ⟨_, rfl⟩
  have a1 : (⟨#[115, 101, 103, 46]⟩ : ByteArray) ++ Y = Z := hZ.symm
  have a2 : Z ++ X = nameS m := by
    rw [hZ, hY, hX, nameS_nat hm]
    have e2 := catB [115, 101, 103, 46] (List.replicate q 48)
    rw [show (⟨#[115, 101, 103, 46]⟩ : ByteArray) = ⟨[115, 101, 103, 46].toArray⟩ from rfl, e2, catB]
    unfold sgnB
    rw [← hpad, List.append_assoc]
  have z1 : (⟨#[115, 101, 103, 46]⟩ : ByteArray).size + Y.size ≤ 9223372036854775807 := by
    show 4 + Y.size ≤ _
    omega
  have z2 : Z.size + X.size ≤ 9223372036854775807 := by
    rw [hZ, ByteArray.size_append]
    show 4 + Y.size + X.size ≤ _
    omega
  obtain ⟨V, hV⟩ : ∃ V, V = nameS m := ⟨_, rfl⟩
  rw [← hV] at a2 ⊢
  clear hl hd hd1 hq hpad e1 hX hY hXs hYs hZ hV T h0
  go_enter Tryz.func53, Tryz.ntmps53
  go_wp2_with fail
  refine IT.out.mono ?_
  rintro e w1 ⟨rfl, k, os, rfl⟩
  obtain ⟨w1, hw1⟩ : ∃ w1, w1 = Sort.grow (w.drewN k) os := ⟨_, rfl⟩
  rw [← hw1]
  have S1 := Lib.hid (show Still w w1 by rw [hw1]; exact still_growN k os)
  clear hw1
  go_wp2_with fail
  refine (RP.out _).mono ?_
  rintro e w2 ⟨rfl, b2⟩
  have S2 := Lib.hid (show Still w w2 from Still.trans S1.out b2)
  clear b2
  go_wp2_with fail
  go_ret
  exact ⟨rfl, S2.out⟩
end Go.Proofs.YtljacdbdjacbkaaGreatDoor

/- What is left of a slice that came in. It proves no statement. -/

namespace Go.Proofs.YtljacdbdjacbkaaGreatDoor
open Go.RowKit
set_option linter.unusedVariables false

/-- A slice that came in, or what is left of it. -/
structure RowS (w : World) (B : Nat) (A : Option Addr) (n c : Nat) (l : List UInt8) : Prop where
  reads : Reads w B A n l
  fit : n ≤ c
  cap : c ≤ 9223372036854775807
  nil : A = none → n = 0 ∧ c = 0
theorem RowS.still {w w' : World} {B n c : Nat} {A : Option Addr} {l : List UInt8} (h : RowS w B A n c l) (hB : B ≤ w.heap.size) (hs : Still w w') : RowS w' B A n c l := ⟨h.reads.still hB hs, h.fit, h.cap, h.nil⟩
theorem RowS.dropk {w : World} {B n c k : Nat} {A : Option Addr} {l : List UInt8} (h : RowS w B A n c l) (hk : k ≤ n) : RowS w B (A.map (·.add k)) (n - k) (c - k) (l.drop k) :=
  ⟨h.reads.dropk hk, by have := h.fit; omega, by have := h.cap; omega, fun e => by
    have e2 : A = none := by simpa using e
    have := h.nil e2
    omega⟩
theorem RowS.endk {w : World} {B n c : Nat} {A : Option Addr} {l : List UInt8} (h : RowS w B A n c l) {k : Nat} (hk : n ≤ k) : RowS w B A 0 0 (l.drop k) := by
  have e : l.drop k = [] := List.drop_of_length_le (by have := h.reads.1; omega)
  rw [e]
  exact ⟨⟨rfl, fun h => by omega⟩, by omega, by omega, fun _ => ⟨rfl, rfl⟩⟩
/-- A row that came in, cut. -/
theorem cut_row {w : World} {A : Option Addr} {n0 c0 : Nat} {z : List Int} (h : RowIn .u8 w A n0 c0 z) (k : Nat) (hk : 1 ≤ k) :
    ∃ n l, RowS w w.heap.size A n c0 l ∧ n ≤ k ∧ Calls Tryz.prog 97 #[.slice A n0 c0, .int .i64 k] w fun e w' => e = .returned (.slice A n c0) ∧ w = w' := by
  obtain ⟨l0, r0, hc0, hm0, hA0⟩ := reads_of_row h
  exact ⟨_, _, ⟨r0.take k, by omega, hm0, fun e => ⟨by have := (hA0 e).1; omega, (hA0 e).2⟩⟩, by omega, cut_any A n0 c0 k l0 w _ r0 hc0 hm0 hk⟩
end Go.Proofs.YtljacdbdjacbkaaGreatDoor

/- Slices of bytes in blocks of a kind. It proves no statement. -/


namespace Go.Proofs.YtljacdbdjacbkaaGreatDoor
open Go.RowKit
set_option linter.unusedVariables false
set_option linter.unusedSimpArgs false

/-- A slice of bytes in a block of P. -/
structure RowP (w : World) (P : Nat → Prop) (A : Option Addr) (n c : Nat) (l : List UInt8) : Prop where
  len : l.length = n
  fit : n ≤ c
  cap : c ≤ 9223372036854775807
  nil : A = none → n = 0 ∧ c = 0
  at_ : 0 < n → ∃ b o, A = some ⟨b, o, none⟩ ∧ P b ∧ b < w.heap.size ∧ ∀ i, i < n → w.cell? ⟨b, o + i, none⟩ = some (Value.int .u8 ((l.getD i 0).toNat : Int))
section
variable {w w' : World} {P Q : Nat → Prop} {A : Option Addr} {n c k : Nat} {l : List UInt8}
theorem RowP.reads (h : RowP w P A n c l) : Reads w w.heap.size A n l :=
  ⟨h.len, fun hn => by obtain ⟨b, o, e, _, hb, hc⟩ := h.at_ hn; exact ⟨b, o, e, hb, hc⟩⟩
theorem RowP.rowS (h : RowP w P A n c l) : RowS w w.heap.size A n c l := ⟨h.reads, h.fit, h.cap, h.nil⟩
theorem RowP.none_ : RowP w P none 0 0 [] := ⟨rfl, Nat.le_refl _, by omega, fun _ => ⟨rfl, rfl⟩, fun h => absurd h (by omega)⟩
theorem RowP.keep (h : RowP w P A n c l) (hk : ∀ b, P b → b < w.heap.size → w'.heap[b]? = w.heap[b]?) (hs : w.heap.size ≤ w'.heap.size) : RowP w' P A n c l :=
  ⟨h.len, h.fit, h.cap, h.nil, fun hn => by
    obtain ⟨b, o, e, hp, hb, hc⟩ := h.at_ hn
    exact ⟨b, o, e, hp, by omega, fun i hi => (World.cell?_of_block (w := w) (hk b hp hb)).trans (hc i hi)⟩⟩
theorem RowP.chg {S : Nat → Prop} (h : RowP w P A n c l) (g : Chg w w' S) (hS : ∀ b, P b → b < w.heap.size → ¬ S b) : RowP w' P A n c l := h.keep (fun b hp hb => g.block b hb (hS b hp hb)) g.size
theorem RowP.still (h : RowP w P A n c l) (s : Still w w') : RowP w' P A n c l := h.keep (fun b _ hb => s.block b hb) s.size
theorem RowP.mono (h : RowP w P A n c l) (hP : ∀ b, P b → b < w.heap.size → Q b) : RowP w Q A n c l :=
  ⟨h.len, h.fit, h.cap, h.nil, fun hn => by obtain ⟨b, o, e, hp, hb, hc⟩ := h.at_ hn; exact ⟨b, o, e, hP b hp hb, hb, hc⟩⟩
theorem RowP.of_rowS {B : Nat} (h : RowS w B A n c l) (hB : B ≤ w.heap.size) : RowP w (fun b => b < B) A n c l :=
  ⟨h.reads.1, h.fit, h.cap, h.nil, fun hn => by obtain ⟨b, o, e, hb, hc⟩ := h.reads.2 hn; exact ⟨b, o, e, hb, by omega, hc⟩⟩
theorem RowP.of_own {base : Nat} (h : w.ownsRow base 5 1 (.slice A n c) n (bytesV l)) : RowP w (fun b => base ≤ b ∧ (Value.slice A n c).ownBlock = some b) A n c l := by
  have hr := Reads.of_own h
  obtain ⟨A', c', e, h1, h2, h3⟩ := own_form h
  injection e with e1 e2 e3
  subst e1
  subst e3
  refine ⟨hr.1, h1, h2, h3, fun hn => ?_⟩
  obtain ⟨b, o, rfl, hb, hc⟩ := hr.2 hn
  refine ⟨b, o, rfl, ⟨?_, rfl⟩, hb, hc⟩
  rcases h.2 with ⟨_, h0⟩ | ⟨g, cp, cur, hv, hg, _⟩
  · omega
  · injection hv with hv1
    cases hv1
    exact hg
theorem RowP.dropk (h : RowP w P A n c l) (hk : k ≤ n) : RowP w P (A.map (·.add k)) (n - k) (c - k) (l.drop k) :=
  ⟨by rw [List.length_drop, h.len], by have := h.fit; omega, by have := h.cap; omega, fun e => by
    have e2 : A = none := by simpa using e
    have := h.nil e2
    omega, fun hn => by
    obtain ⟨b, o, rfl, hp, hb, hc⟩ := h.at_ (by omega)
    refine ⟨b, o + k, by simp [Addr.add_lit], hp, hb, fun i hi => ?_⟩
    have := hc (k + i) (by omega)
    rw [Nat.add_assoc, this]
    simp [List.getD]⟩
theorem RowP.endk (h : RowP w P A n c l) (hk : n ≤ k) : RowP w P A 0 0 (l.drop k) := by
  have e : l.drop k = [] := List.drop_of_length_le (by have := h.len; omega)
  rw [e]
  exact ⟨rfl, by omega, by omega, fun _ => ⟨rfl, rfl⟩, fun h => by omega⟩
theorem RowP.takek (h : RowP w P A n c l) (hk : k ≤ n) : RowP w P A k c (l.take k) :=
  ⟨by rw [List.length_take, h.len]; omega, by have := h.fit; omega, h.cap, fun e => by have := h.nil e; omega, fun hn => by
    obtain ⟨b, o, e, hp, hb, hc⟩ := h.at_ (by omega)
    refine ⟨b, o, e, hp, hb, fun i hi => ?_⟩
    rw [hc i (by omega)]
    have : (l.take k).getD i 0 = l.getD i 0 := by simp [List.getD, List.getElem?_take, hi]
    rw [this]⟩
end
end Go.Proofs.YtljacdbdjacbkaaGreatDoor
