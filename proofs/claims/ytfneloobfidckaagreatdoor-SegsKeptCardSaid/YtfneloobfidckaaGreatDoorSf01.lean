/- Contracts and facts, several texts in one. It proves no statement. -/
import Derived.Test.YtfneloobfidckaaGreatDoorSf00
import Derived.Outline
import Derived.Deep.DeepMust
import Derived.Deep.QuietTactic
import Derived.BigQuiet
import Derived.RegionTactic
import Derived.ChangeAlike
import Derived.BigRegion

/- Rows of bytes, and parts of them. It proves no statement. -/








namespace Go.Proofs.YtfneloobfidckaaGreatDoor
open Go.RowKit
set_option linter.unusedVariables false
set_option linter.unusedSimpArgs false

theorem still_drewN {a w : World} (h : Still a w) (n : Nat) : Still a (w.drewN n) := ⟨h.os, h.tape, h.output, h.size, h.block⟩

/-- Integers that came in. -/
theorem ints_of_row {w : World} {a : Option Addr} {len cap : Nat} {zs : List Int} (h : RowIn .i64 w a len cap zs) :
    len ≤ 9223372036854775807 ∧ (∀ i, i < len → ∃ b o y, a = some ⟨b, o, none⟩ ∧ b < w.heap.size ∧ w.cell? ⟨b, o + i, none⟩ = some (.int .i64 y)) := by
  rcases h with ⟨rfl, rfl, rfl, rfl⟩ | ⟨x, rfl, hl, hm, hz, hc, hw⟩
  · exact ⟨by omega, fun i hi => by omega⟩
  · unfold maxLen at hm
    refine ⟨by omega, fun i hi => ?_⟩
    obtain ⟨b, o, sp⟩ := x
    have h00 := hc 0 (by omega)
    have hsp : sp = none := by simpa [Addr.add] using World.cell?_spot h00
    subst hsp
    have h0 := hc i (by omega)
    rw [Addr.add_lit] at h0
    exact ⟨b, o, zs.getD i 0, rfl, by simpa using World.block_lt_of_cell? w _ h0, h0⟩

theorem Reads.dropk {w : World} {B n k : Nat} {A : Option Addr} {l : List UInt8} (h : Reads w B A n l) (hk : k ≤ n) : Reads w B (A.map (·.add k)) (n - k) (l.drop k) := by
  refine ⟨by rw [List.length_drop, h.1], fun hn => ?_⟩
  obtain ⟨b, o, rfl, hb, hc⟩ := h.2 (by omega)
  refine ⟨b, o + k, by simp [Addr.add_lit], hb, fun i hi => ?_⟩
  have := hc (k + i) (by omega)
  rw [Nat.add_assoc, this]
  simp [List.getD]
theorem Reads.takek {w : World} {B n k : Nat} {A : Option Addr} {l : List UInt8} (h : Reads w B A n l) (hk : k ≤ n) : Reads w B A k (l.take k) := by
  have := h.take k
  rwa [show min n k = k by omega] at this
end Go.Proofs.YtfneloobfidckaaGreatDoor

/- Rows outside a block that is written. It proves no statement. -/

namespace Go.Proofs.YtfneloobfidckaaGreatDoor
open Go.RowKit
set_option linter.unusedVariables false

theorem grownBy_drew {w w' : World} {r : Option Nat} (h : w.grownBy w' r) : w.grownBy w'.drew r := ⟨h.os, h.tape, h.output, h.size, h.block⟩
theorem grownBy_drewN {w w' : World} {r : Option Nat} (h : w.grownBy w' r) (n : Nat) : w.grownBy (w'.drewN n) r := ⟨h.os, h.tape, h.output, h.size, h.block⟩
theorem grownBy_set (w : World) (g o : Nat) (u : Value) : w.grownBy (w.setCell ⟨g, o, none⟩ u) (some g) := ⟨rfl, rfl, rfl, by simp [World.setCell], fun k _ hk => Below.heap_setCell _ _ _ _ (fun e => hk (by rw [e]))⟩
/-- A row that reads and lies outside block g. -/
def Far (g : Nat) (A : Option Addr) (n : Nat) : Prop := ∀ ad, A = some ad → 0 < n → ad.block ≠ g
theorem Reads.grown {w w' : World} {B g n : Nat} {A : Option Addr} {l : List UInt8} (h : Reads w B A n l) (hf : Far g A n) (hg : w.grownBy w' (some g)) : Reads w' B A n l := by
  refine ⟨h.1, fun hn => ?_⟩
  obtain ⟨b, o, e, hb, hc⟩ := h.2 hn
  refine ⟨b, o, e, hb, fun i hi => ?_⟩
  have hne := hf _ e hn
  rw [hg.cell_far ⟨b, o + i, none⟩ (World.block_lt_of_cell? w _ (hc i hi)) (fun e2 => hne (Option.some.inj e2))]
  exact hc i hi
theorem still_grown {w w1 w2 : World} {g : Nat} (s : Still w w1) (gr : w1.grownBy w2 (some g)) (hg : w.heap.size ≤ g) : Still w w2 := s.grown gr s.size (fun k hk => by cases hk; exact hg)
theorem far_low {w : World} {B g n : Nat} {A : Option Addr} {l : List UInt8} (h : Reads w B A n l) (hB : B ≤ g) : Far g A n := by
  intro ad e hn
  obtain ⟨b, o, e2, hb, _⟩ := h.2 hn
  rw [e2] at e
  cases e
  show b ≠ g
  omega
theorem far_own {w : World} {base g n c : Nat} {A : Option Addr} {xs : List Value} (h : w.ownsRow base 5 1 (.slice A n c) n xs) (hg : g < base) : Far g A n := by
  intro ad e hn
  subst e
  rcases h.2 with ⟨_, h0⟩ | ⟨b, cap, cur, hv, hb, _⟩
  · omega
  · injection hv with hv1
    cases hv1
    show b ≠ g
    omega
end Go.Proofs.YtfneloobfidckaaGreatDoor

/- Contract: a change of names, done. It proves no statement. -/


namespace Go.Proofs.YtfneloobfidckaaGreatDoor
open Go.RowKit Go.Maps Go.WideMaps
set_option linter.unusedVariables false
set_option linter.unusedSimpArgs false

/-- What a change of names makes of a map. -/
def nmDo (D : DataW Unit) (s t : ByteArray) (f : Int) : DataW Unit := if f < 0 then D.del (kl s) else (D.del (kl s)).put (kl t) (fd f)
theorem box_kept {w w1 : World} {cs : Array Value} {ty : TypeId} {b : Nat} (ht : (w.alloc (.cells cs ty)).grownBy w1 (some b)) (hb : b < w.heap.size) (i : Nat) : w1.cell? ⟨w.heap.size, i, none⟩ = cs[i]? := by
  have h1 := ht.block w.heap.size (by simp) (fun e => by injection e with e; omega)
  exact cell_of_row w1 w.heap.size i cs ty (0, 0) (h1.trans (heap_alloc_new w _))
set_option maxRecDepth 100000 in
set_option maxHeartbeats 800000 in
theorem naming_do (s t : ByteArray) (f : Int) (hf : f = -1 ∨ 0 ≤ f) (b n : Nat) (D : DataW Unit) (w : World) (hown : NM w b n D) (hn : n ≤ 1048576) (hs : s.size ≤ maxLen) (ht : t.size ≤ maxLen) :
    Calls Tryz.prog 161 #[.agg #[.string s, .string t, pv f], .map (some b)] w fun e w' => e = .returned (.tuple #[]) ∧ NM w' b (n + 1) (nmDo D s t f) ∧ w.grownBy w' (some b) := by
  have hk1 := key_of s hs
  have hk2 := key_of t ht
  have HM := Lib.hid (show n < maxLen by unfold maxLen; omega)
  have HO := Lib.hid (fun ob => hown.alloc ob)
  have HB := Lib.hid (show b < w.heap.size from hown.lt)
  clear hown hn
  rcases hf with rfl | hf
  · have E : nmDo D s t (-1) = D.del (kl s) := by unfold nmDo; rw [if_pos (by decide)]
    rw [E, pv_nil]
    clear E
    go_enter Tryz.func161, Tryz.ntmps161
    go_wp2_with (at_delete; go_must (refine wpList_delete_own _ rfl _ _ 144 9 rfl 185 mapLaw underNames ptrElem b n D rfl (HO.out _) _ _ rfl hk1 ?_; intro w1 hown1 hturn1; have q2 : w1.cell? ⟨w.heap.size, 2, none⟩ = some (.pointer none) := box_kept hturn1.grown HB.out 2))
    go_end0
    exact ⟨rfl, hown1.mono (by omega), (World.grownBy_alloc w _ _).trans hturn1.grown⟩
  · obtain ⟨m, rfl⟩ := Int.eq_ofNat_of_zero_le hf
    have E : nmDo D s t (m : Int) = (D.del (kl s)).put (kl t) (fd (m : Int)) := by unfold nmDo; rw [if_neg (by omega)]
    rw [E, pv_at]
    clear E hf
    go_enter Tryz.func161, Tryz.ntmps161
    go_wp2_with (first
      | (at_delete; go_must (refine wpList_delete_own _ rfl _ _ 144 9 rfl 185 mapLaw underNames ptrElem b n D rfl (HO.out _) _ _ rfl hk1 ?_; intro w1 hown1 hturn1; have q2 : w1.cell? ⟨w.heap.size, 2, none⟩ = some (.pointer (some ⟨m, 0, none⟩)) := box_kept hturn1.grown HB.out 2; have q1 : w1.cell? ⟨w.heap.size, 1, none⟩ = some (.string t) := box_kept hturn1.grown HB.out 1))
      | (at_mapUpdate; go_must (refine wpList_mapUpdate_own _ rfl _ _ _ 144 rfl 9 185 mapLaw underNames ptrElem b n _ rfl hown1 HM.out _ _ (kl t) rfl rfl hk2 (fd (m : Int)) [] (ptrElem_at m) ?_; intro w2 hown2 hgrow2)))
    go_end0
    exact ⟨rfl, hown2, ((World.grownBy_alloc w _ _).trans hturn1.grown).trans hgrow2⟩
end Go.Proofs.YtfneloobfidckaaGreatDoor

/- Contracts: a medium that New made: New, works, step. It proves no statement. -/


namespace Go.Proofs.YtfneloobfidckaaGreatDoor
open Go.RowKit Go.Maps Go.WideMaps
set_option linter.unusedVariables false
set_option linter.unusedSimpArgs false

/-- A medium's block. -/
def MedB (w : World) (g : Nat) (room : Int) (bn bf : Nat) (wv : Value) (left : Int) (off : Bool) : Prop := Blk w g 147 #[.int .i64 room, .map (some bn), .map (some bf), wv, .int .i64 left, .bool off, .bool true]
theorem MedB.still {w w' : World} {g : Nat} {room : Int} {bn bf : Nat} {wv : Value} {left : Int} {off : Bool} (h : MedB w g room bn bf wv left off) (s : Still w w') : MedB w' g room bn bf wv left off := Blk.still h s
theorem isRoom_any (x : Int) (w : World) : Calls Tryz.prog 75 #[.int .i64 x] w fun e w' => e = .returned (.bool (decide (0 ≤ x ∧ x ≤ 16777216))) ∧ w = w' := by
  by_cases h1 : 0 ≤ x
  · by_cases h2 : x ≤ 16777216
    · rw [decide_eq_true ⟨h1, h2⟩]
      go_enter Tryz.func75, Tryz.ntmps75
      go_wp2_with fail
      go_ret
      exact ⟨rfl, rfl⟩
    · rw [decide_eq_false (fun h => h2 h.2)]
      go_enter Tryz.func75, Tryz.ntmps75
      go_wp2_with fail
      go_ret
      exact ⟨by first | rfl | (simp; omega), rfl⟩
  · rw [decide_eq_false (fun h => h1 h.1)]
    go_enter Tryz.func75, Tryz.ntmps75
    go_wp2_with fail
    go_ret
    exact ⟨by first | rfl | (simp; omega), rfl⟩
theorem new_no (x : Int) (w : World) (h : ¬ (0 ≤ x ∧ x ≤ 16777216)) : Calls Tryz.prog 16 #[.int .i64 x] w fun e w' => e = .returned (.tuple #[.pointer none, .int .i64 2]) ∧ w = w' := by
  have HR := Lib.hid (isRoom_any x w)
  rw [decide_eq_false h] at HR
  clear h
  go_enter Tryz.func16, Tryz.ntmps16
  go_wp2_with fail
  refine HR.out.mono ?_
  rintro e w1 ⟨rfl, rfl⟩
  go_wp2_with fail
  go_ret2
  exact ⟨rfl, rfl⟩
set_option maxRecDepth 100000 in
set_option maxHeartbeats 800000 in
theorem new_yes (x : Int) (w : World) (h : 0 ≤ x ∧ x ≤ 16777216) : Calls Tryz.prog 16 #[.int .i64 x] w fun e w' => ∃ g bn bf, e = .returned (.tuple #[.pointer (some ⟨g, 0, none⟩), .int .i64 0]) ∧ MedB w' g x bn bf (.slice none 0 0) (-1) false ∧ NM w' bn 0 (.map []) ∧ NM w' bf 0 (.map []) ∧ w.heap.size ≤ bn ∧ w.heap.size ≤ bf ∧ w.heap.size ≤ g ∧ bn ≠ bf ∧ Still w w' := by
  have HR := Lib.hid (isRoom_any x w)
  rw [decide_eq_true h] at HR
  have hmm := @run_makeMap Tryz.prog
  clear h
  go_enter Tryz.func16, Tryz.ntmps16
  go_wp2_with fail
  refine HR.out.mono ?_
  rintro e w1 ⟨rfl, rfl⟩
  go_wp2_with fail
  go_ret2
  have S1 : Still w (w.alloc (.map #[] 0)) := (Still.refl w).alloc (Nat.le_refl _) _
  have S2 : Still (w.alloc (.map #[] 0)) ((w.alloc (.map #[] 0)).alloc (.map #[] 0)) := (Still.refl _).alloc (Nat.le_refl _) _
  have e1 : (w.alloc (.map #[] 0)).heap.size = w.heap.size + 1 := by simp
  have e2 : ((w.alloc (.map #[] 0)).alloc (.map #[] 0)).heap.size = w.heap.size + 1 + 1 := by simp
  refine ⟨w.heap.size + 1 + 1, w.heap.size, w.heap.size + 1, rfl, ?_, (((World.ownsMap_made w _ _ _).alloc _).alloc _), ?_, Nat.le_refl _, by omega, by omega, by omega, (S1.trans S2).trans ((Still.refl _).alloc (Nat.le_refl _) _)⟩
  · have h := Blk.new ((w.alloc (.map #[] 0)).alloc (.map #[] 0)) 147 #[.int .i64 x, .map (some w.heap.size), .map (some (w.heap.size + 1)), .slice none 0 0, .int .i64 (-1), .bool false, .bool true]
    rw [e2] at h
    exact h
  · have h := (World.ownsMap_made (w.alloc (.map #[] 0)) Tryz.prog 9 ptrElem).alloc (.cells #[.int .i64 x, .map (some w.heap.size), .map (some (w.heap.size + 1)), .slice none 0 0, .int .i64 (-1), .bool false, .bool true] 147)
    rw [e1] at h
    exact h
theorem works_yes {w : World} {g : Nat} {room : Int} {bn bf : Nat} {wv : Value} {left : Int} {off : Bool} (h : MedB w g room bn bf wv left off) :
    Calls Tryz.prog 98 #[.pointer (some ⟨g, 0, none⟩)] w fun e w' => e = .returned (.int .i64 (if off = true then 12 else 0)) ∧ w = w' := by
  have c5 : w.cell? ⟨g, 5, none⟩ = some (.bool off) := Blk.cell h 5
  have c6 : w.cell? ⟨g, 6, none⟩ = some (.bool true) := Blk.cell h 6
  have HB := Lib.hid h
  clear h
  cases off
  · go_enter Tryz.func98, Tryz.ntmps98
    go_wp2
    go_ret
    exact ⟨rfl, rfl⟩
  · go_enter Tryz.func98, Tryz.ntmps98
    go_wp2
    go_ret
    exact ⟨rfl, rfl⟩
theorem MedB.setc {w : World} {g : Nat} {room : Int} {bn bf : Nat} {wv : Value} {left : Int} {off : Bool} (h : MedB w g room bn bf wv left off) (left' : Int) : MedB (w.setCell ⟨g, 4, none⟩ (.int .i64 left')) g room bn bf wv left' off := Blk.setc h 4 _
theorem MedB.setoff {w : World} {g : Nat} {room : Int} {bn bf : Nat} {wv : Value} {left : Int} {off : Bool} (h : MedB w g room bn bf wv left off) (off' : Bool) : MedB (w.setCell ⟨g, 5, none⟩ (.bool off')) g room bn bf wv left off' := Blk.setc h 5 _
theorem MedB.setwait {w : World} {g : Nat} {room : Int} {bn bf : Nat} {wv : Value} {left : Int} {off : Bool} (h : MedB w g room bn bf wv left off) (wv' : Value) : MedB (w.setCell ⟨g, 3, none⟩ wv') g room bn bf wv' left off := Blk.setc h 3 _
/-- What a step leaves: the counter, the power, the error. -/
def stepR (left : Int) (off : Bool) : Int × Bool × Int := if left = 0 then (left, true, 12) else if 0 < left then (left - 1, off, 0) else (left, off, 0)
theorem step_yes {w : World} {g : Nat} {room : Int} {bn bf : Nat} {wv : Value} {left : Int} {off : Bool} (h : MedB w g room bn bf wv left off) (hl : left ≤ 9223372036854775807) :
    Calls Tryz.prog 149 #[.pointer (some ⟨g, 0, none⟩)] w fun e w' => e = .returned (.int .i64 (stepR left off).2.2) ∧ MedB w' g room bn bf wv (stepR left off).1 (stepR left off).2.1 ∧ w.grownBy w' (some g) := by
  have c4 : w.cell? ⟨g, 4, none⟩ = some (.int .i64 left) := Blk.cell h 4
  have c5 : w.cell? ⟨g, 5, none⟩ = some (.bool off) := Blk.cell h 5
  have f4 := Blk.frozen h 4
  have f5 := Blk.frozen h 5
  by_cases h0 : left = 0
  · have E : stepR left off = (left, true, 12) := by unfold stepR; rw [if_pos h0]
    rw [E]
    have M := Lib.hid (h.setoff true)
    subst h0
    clear h E
    go_enter Tryz.func149, Tryz.ntmps149
    go_wp2
    go_ret
    exact ⟨rfl, M.out, grownBy_set _ _ _ _⟩
  · have b0 : (left == 0) = false := by simpa using h0
    by_cases h1 : 0 < left
    · have E : stepR left off = (left - 1, off, 0) := by unfold stepR; rw [if_neg h0, if_pos h1]
      rw [E]
      have M := Lib.hid (h.setc (left - 1))
      clear h E
      go_enter Tryz.func149, Tryz.ntmps149
      go_wp2
      go_ret
      exact ⟨rfl, M.out, grownBy_set _ _ _ _⟩
    · have E : stepR left off = (left, off, 0) := by unfold stepR; rw [if_neg h0, if_neg h1]
      rw [E]
      have M := Lib.hid h
      clear h E
      go_enter Tryz.func149, Tryz.ntmps149
      go_wp2
      go_ret
      exact ⟨rfl, M.out, World.grownBy.refl _ _⟩
end Go.Proofs.YtfneloobfidckaaGreatDoor

/- Worlds in which only some blocks have turned. It proves no statement. -/


namespace Go.Proofs.YtfneloobfidckaaGreatDoor
open Go.RowKit
set_option linter.unusedVariables false
set_option linter.unusedSimpArgs false

/-- From w to w' only blocks of S, and new ones, have turned. -/
structure Chg (w w' : World) (S : Nat → Prop) : Prop where
  os : w'.os = w.os
  tape : w'.tape = w.tape
  output : w'.output = w.output
  size : w.heap.size ≤ w'.heap.size
  block : ∀ k, k < w.heap.size → ¬ S k → w'.heap[k]? = w.heap[k]?
theorem Chg.refl (w : World) (S : Nat → Prop) : Chg w w S := ⟨rfl, rfl, rfl, Nat.le_refl _, fun _ _ _ => rfl⟩
theorem Chg.trans {a b c : World} {S T : Nat → Prop} (h : Chg a b S) (k : Chg b c T) (hT : ∀ x, x < a.heap.size → T x → S x) : Chg a c S :=
  ⟨k.os.trans h.os, k.tape.trans h.tape, k.output.trans h.output, Nat.le_trans h.size k.size, fun x hx hS => (k.block x (Nat.lt_of_lt_of_le hx h.size) (fun ht => hS (hT x hx ht))).trans (h.block x hx hS)⟩
theorem Chg.mono {a b : World} {S T : Nat → Prop} (h : Chg a b S) (hT : ∀ x, x < a.heap.size → S x → T x) : Chg a b T := ⟨h.os, h.tape, h.output, h.size, fun x hx hS => h.block x hx (fun hs => hS (hT x hx hs))⟩
theorem Chg.of_grown {a b : World} {r : Option Nat} (h : a.grownBy b r) {S : Nat → Prop} (hr : ∀ k, r = some k → k < a.heap.size → S k) : Chg a b S := ⟨h.os, h.tape, h.output, h.size, fun k hk hS => h.block k hk (fun e => hS (hr k e.symm hk))⟩
theorem Chg.of_still {a b : World} (h : Still a b) (S : Nat → Prop) : Chg a b S := ⟨h.os, h.tape, h.output, h.size, fun k hk _ => h.block k hk⟩
theorem Chg.of_below {a b : World} {lo : Nat} (h : Below lo a b) {S : Nat → Prop} (hS : ∀ k, lo ≤ k → k < a.heap.size → S k) : Chg a b S := ⟨h.os, h.tape, h.output, h.size, fun k hk hn => h.block k (by
  rcases Nat.lt_or_ge k lo with h1 | h1
  · exact h1
  · exact absurd (hS k h1 hk) hn)⟩
theorem Chg.below {a b : World} {S : Nat → Prop} (h : Chg a b S) {lo : Nat} (hlo : lo ≤ a.heap.size) (hS : ∀ k, S k → lo ≤ k) : Below lo a b := ⟨h.os, h.tape, h.output, h.size, fun k hk => h.block k (by omega) (fun hs => by have := hS k hs; omega)⟩
theorem Chg.still {a b w0 : World} {S : Nat → Prop} (h : Chg a b S) (s : Still w0 a) (hS : ∀ k, S k → w0.heap.size ≤ k) : Still w0 b := Below.trans s (h.below s.size hS)
theorem Chg.drew (w : World) (S : Nat → Prop) : Chg w w.drew S := ⟨rfl, rfl, rfl, Nat.le_refl _, fun _ _ _ => rfl⟩
/-- What stays. -/
theorem Chg.blk {a b : World} {S : Nat → Prop} (h : Chg a b S) {g : Nat} {t : TypeId} {cs : Array Value} (hb : Blk a g t cs) (hS : ¬ S g) : Blk b g t cs := (h.block g hb.lt hS).trans hb
theorem Chg.own {a b : World} {S : Nat → Prop} (h : Chg a b S) {base z n : Nat} {e : TypeId} {v : Value} {xs : List Value} (ho : a.ownsRow base e z v n xs) (hS : ∀ k, v.ownBlock = some k → ¬ S k) : b.ownsRow base e z v n xs := by
  refine ⟨ho.1, ?_⟩
  rcases ho.2 with h0 | ⟨g, c, cur, h1, h2, h3, h4⟩
  · exact .inl h0
  · subst h1
    exact .inr ⟨g, c, cur, rfl, h2, (h.block g (Array.getElem?_eq_some_iff.1 h3).1 (hS g rfl)).trans h3, h4⟩
theorem Chg.reads {a b : World} {S : Nat → Prop} (h : Chg a b S) {B n : Nat} {A : Option Addr} {l : List UInt8} (hr : Reads a B A n l) (hB : B ≤ a.heap.size) (hS : ∀ ad, A = some ad → ¬ S ad.block) : Reads b B A n l := by
  refine ⟨hr.1, fun hn => ?_⟩
  obtain ⟨bb, o, e, hlt, hc⟩ := hr.2 hn
  refine ⟨bb, o, e, hlt, fun i hi => ?_⟩
  exact (World.cell?_of_block (w := a) (h.block bb (by omega) (hS _ e))).trans (hc i hi)
end Go.Proofs.YtfneloobfidckaaGreatDoor

/- Worlds in which only some blocks have turned: maps. It proves no statement. -/


namespace Go.Proofs.YtfneloobfidckaaGreatDoor
open Go.RowKit Go.Maps Go.WideMaps
set_option linter.unusedVariables false
set_option linter.unusedSimpArgs false

theorem Chg.nm {a b : World} {S : Nat → Prop} (h : Chg a b S) {m n : Nat} {D : DataW Unit} (hm : NM a m n D) (hS : ¬ S m) : NM b m n D := by
  have hlt := hm.lt
  obtain ⟨es, clock, hb, F, hs, hD⟩ := hm
  exact ⟨es, clock, (h.block m hlt hS).trans hb, F, hs, hD⟩
end Go.Proofs.YtfneloobfidckaaGreatDoor
