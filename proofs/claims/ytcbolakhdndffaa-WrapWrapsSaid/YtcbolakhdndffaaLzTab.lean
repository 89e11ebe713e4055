/- Contracts: the hash of four bytes, the program's and the document's; the table of places in memory; how many bytes two texts have alike. It proves no statement. -/
import Derived.Test.YtcbolakhdndffaaLzMath
import Derived.Test.YtcbolakhdndffaaGet1
import Derived.Test.YtcbolakhdndffaaBlk
import Derived.Test.YtcbolakhdndffaaAllocArr
namespace Go.Proofs.Ytcbolakhdndffaa
open Go.RowKit
set_option linter.unusedVariables false
set_option linter.unusedSimpArgs false

theorem leNum4 (l : List UInt8) (h : l.length = 4) : leNum l < 4294967296 := by have := leNum_lt l; rw [h] at this; simpa using this
theorem hash_any (A : Option Addr) (c : Nat) (l : List UInt8) (w : World) (B : Nat) (h : Reads w B A 4 l) :
    Calls Try.prog 50 #[.slice A 4 c] w fun e w' => e = .returned (.int .u32 (hsh l : Nat)) ∧ w = w' := by
  have hl := leNum4 l h.1
  have G := Lib.hid (get_yes A 4 c l w B h (by omega) (by omega))
  obtain ⟨x, hx⟩ : ∃ x, x = leNum l := ⟨_, rfl⟩
  rw [← hx] at G hl
  have hh : hsh l = x * 2654435761 % 4294967296 / 1048576 := by rw [hx]; rfl
  have HH := Lib.hid hh
  clear hh hx h
  go_enter Try.func50, Try.ntmps50
  go_wp2_with fail
  refine G.out.mono ?_
  rintro e w1 ⟨rfl, rfl⟩
  go_wp2_with fail
  go_ret
  refine ⟨?_, rfl⟩
  rw [HH.out]
  refine congrArg (fun z : Int => Ending.returned (.int .u32 z)) ?_
  show (x : Int) * 2654435761 % 4294967296 / 1048576 = _
  omega
theorem rhash_any (A : Option Addr) (n c i : Nat) (l : List UInt8) (w : World) (B : Nat) (h : Reads w B A n l) (hi : i + 4 ≤ n) (hc : n ≤ c) (hm : c ≤ 9223372036854775807) (hn : n ≤ 1048576) :
    Calls Try.prog 32 #[.slice A n c, .int .i64 i] w fun e w' => e = .returned (.int .i64 (hsh ((l.drop i).take 4) : Nat)) ∧ w = w' := by
  have r4 : Reads w B (A.map (·.add i)) 4 ((l.drop i).take 4) := (h.dropk (k := i) (by omega)).takek (by omega)
  obtain ⟨b, o, rfl, hb, _⟩ := h.at_ (by omega)
  have r5 : Reads w B (some ⟨b, o + i, none⟩) 4 ((l.drop i).take 4) := by simpa [Addr.add_lit] using r4
  have hl := leNum4 _ r5.1
  have G := Lib.hid (fun c => rget_yes (some ⟨b, o + i, none⟩) 4 c _ w B r5 (by omega) (by omega))
  obtain ⟨x, hx⟩ : ∃ x, x = leNum ((l.drop i).take 4) := ⟨_, rfl⟩
  rw [← hx] at G hl
  have hh : hsh ((l.drop i).take 4) = x * 2654435761 % 4294967296 / 1048576 := by rw [hx]; rfl
  have HH := Lib.hid hh
  clear hh hx h r4 r5
  have d1 : (i : Int) + 4 ≤ (c : Int) := by omega
  go_enter Try.func32, Try.ntmps32
  go_wp2_with fail
  refine (G.out _).mono ?_
  rintro e w1 ⟨rfl, rfl⟩
  go_wp2_with fail
  go_ret
  refine ⟨?_, rfl⟩
  rw [HH.out]
  refine congrArg (fun z : Int => Ending.returned (.int .i64 z)) ?_
  show (x : Int) * 2654435761 % 4294967296 / 1048576 = _
  omega

/-- The table of places at block g: at each hash one more than a place, or 0. -/
def Tab (w : World) (g : Nat) (t : TypeId) (f : Nat → Nat) : Prop := ∃ cs, Blk w g t cs ∧ cs.size = 4096 ∧ ∀ j, j < 4096 → cs[j]? = some (.int .i64 (f j : Nat))
section
variable {w w' : World} {g : Nat} {t : TypeId} {f : Nat → Nat}
theorem Tab.lt (h : Tab w g t f) : g < w.heap.size := by obtain ⟨cs, hb, _⟩ := h; exact hb.lt
theorem Tab.cell (h : Tab w g t f) (j : Nat) (hj : j < 4096) : w.cell? ⟨g, j, none⟩ = some (.int .i64 (f j : Nat)) := by obtain ⟨cs, hb, hs, hc⟩ := h; rw [hb.cell, hc j hj]
theorem Tab.frozen (h : Tab w g t f) (j : Nat) : w.frozen? ⟨g, j, none⟩ = false := by obtain ⟨cs, hb, hs, hc⟩ := h; exact hb.frozen j
theorem Tab.set (h : Tab w g t f) (j x : Nat) (hj : j < 4096) : Tab (w.setCell ⟨g, j, none⟩ (.int .i64 x)) g t (fun k => if k = j then x else f k) := by
  obtain ⟨cs, hb, hs, hc⟩ := h
  refine ⟨_, hb.setc j _, by simpa using hs, fun k hk => ?_⟩
  rw [Array.getElem?_setIfInBounds]
  by_cases e : j = k
  · subst e
    simp [hs, hj]
  · have e2 : ¬ k = j := fun x => e x.symm
    simp only [if_neg e, if_neg e2]
    exact hc k hk
theorem Tab.block (h : Tab w g t f) (e : w'.heap[g]? = w.heap[g]?) : Tab w' g t f := by obtain ⟨cs, hb, r⟩ := h; exact ⟨cs, e.trans hb, r⟩
theorem Tab.still (h : Tab w g t f) (s : Still w w') : Tab w' g t f := h.block (s.block g h.lt)
end

/-- Whether a type's zero value is 4096 noughts. -/
def zeroV : Value → Bool | .int .i64 (.ofNat 0) => true | _ => false
def zeroT : Option (Option Value × Nat) → Bool | some (some (.agg cs), n) => n == 4096 && cs.size == 4096 && cs.toList.all zeroV | _ => false
theorem zeroT_is {z : Option (Option Value × Nat)} (h : zeroT z = true) : ∃ cs : Array Value, z = some (some (.agg cs), 4096) ∧ cs.size = 4096 ∧ ∀ j, j < 4096 → cs[j]? = some (.int .i64 ((fun _ => 0 : Nat → Nat) j : Nat)) := by
  unfold zeroT at h
  split at h
  · rename_i cs n
    simp only [Bool.and_eq_true, beq_iff_eq, List.all_eq_true] at h
    obtain ⟨⟨rfl, hs⟩, ha⟩ := h
    refine ⟨cs, rfl, hs, fun j hj => ?_⟩
    have hlt : j < cs.size := by omega
    have := ha cs[j] (by simp)
    rw [Array.getElem?_eq_getElem hlt]
    generalize cs[j] = v at *
    unfold zeroV at this
    split at this
    · rfl
    · cases this
  · cases h
set_option maxRecDepth 1000000 in
theorem zeroP : zeroT ((Try.prog.info? 65).map (fun i => (i.zero, i.size))) = true := by kernel_rfl
set_option maxRecDepth 1000000 in
theorem zeroR : zeroT ((Try.prog.info? 55).map (fun i => (i.zero, i.size))) = true := by kernel_rfl
theorem Tab.new {t : TypeId} (w : World) (cs : Array Value) (hs : cs.size = 4096) (hc : ∀ j, j < 4096 → cs[j]? = some (.int .i64 ((fun _ => 0 : Nat → Nat) j : Nat))) : Tab (w.alloc (.cells cs t)) w.heap.size t (fun _ => 0) :=
  ⟨cs, Blk.new _ _ _, hs, hc⟩
set_option maxRecDepth 100000 in
set_option maxHeartbeats 800000 in
theorem put_places {w : World} {g : Nat} {f : Nat → Nat} (A : Option Addr) (c i : Nat) (l : List UInt8) (B : Nat) (T : Tab w g 65 f) (h : Reads w B A 4 l) (hf : f (hsh l) ≤ 1048576) (hi : i ≤ 1048576) :
    Calls Try.prog 44 #[.pointer (some ⟨g, 0, none⟩), .slice A 4 c, .int .i64 i] w fun e w' => e = .returned (.tuple #[.int .i64 ((f (hsh l) : Nat) - 1 : Int), .bool (decide (0 < f (hsh l)))]) ∧ w' = w.setCell ⟨g, hsh l, none⟩ (.int .i64 (i + 1 : Nat)) := by
  have HA := Lib.hid (hash_any A c l w B h)
  have hlt := hsh_lt l
  obtain ⟨q, hq⟩ : ∃ q, q = hsh l := ⟨_, rfl⟩
  rw [← hq] at hlt hf HA ⊢
  have c1 := T.cell q hlt
  have f1 := T.frozen q
  obtain ⟨y, hy⟩ : ∃ y, y = f q := ⟨_, rfl⟩
  rw [← hy] at c1 hf ⊢
  have hw : w.heap[g]?.isSome := by simp [T.lt]
  clear hq hy T h
  go_enter Try.func44, Try.ntmps44
  go_wp2_with fail
  refine HA.out.mono ?_
  rintro e w1 ⟨rfl, rfl⟩
  go_wp2_with fail
  go_ret2
  exact ⟨rfl, rfl⟩

set_option maxRecDepth 100000 in
set_option maxHeartbeats 1600000 in
theorem alike_any (A A' : Option Addr) (n n' c c' : Nat) (l l' : List UInt8) (w : World) (B B' : Nat) (h : Reads w B A n l) (h' : Reads w B' A' n' l') (hn : n ≤ 1048576) (hn' : n' ≤ 1048576) (hp : 0 < n) (hp' : 0 < n') (hB : B ≤ w.heap.size) (hB' : B' ≤ w.heap.size) :
    Calls Try.prog 45 #[.slice A n c, .slice A' n' c'] w fun e w' => e = .returned (.int .i64 (alk l l' : Nat)) ∧ ∃ m, w' = w.drewN m := by
  obtain ⟨b, o, rfl, hb, hc⟩ := h.at_ hp
  obtain ⟨b', o', rfl, hb', hc'⟩ := h'.at_ hp'
  have L := Lib.hid (And.intro h.1 h'.1)
  have C1 := Lib.hid hc
  have C2 := Lib.hid hc'
  clear h h' hc hc'
  go_enter Try.func45, Try.ntmps45
  go_wp2_with fail
  go_loopw [5] (fun iv wr => ∃ k : Nat, iv = .int .i64 k ∧ k ≤ n ∧ k ≤ n' ∧ Hid (alk l l' = k + alk (l.drop k) (l'.drop k) ∧ ∃ m, wr = w.drewN m)) (fun iv _ => n - (intOf iv).toNat)
  case atStart => exact ⟨0, rfl, by omega, by omega, by simp, 0, rfl⟩
  case round =>
    obtain ⟨k, rfl, hk, hk', hs⟩ := hrel
    obtain ⟨mm, hwm⟩ := hs.out.2
    have ST : Still w wr := by rw [hwm]; exact still_drewN (Still.refl w) mm
    have HWM := Lib.hid hwm
    have SS := Lib.hid ST
    clear hwm ST
    by_cases hlt : k < n ∧ k < n' ∧ l.getD k 0 = l'.getD k 0
    · obtain ⟨h1, h2, h3⟩ := hlt
      have q1 := (SS.out.cell (p := ⟨b, o + k, none⟩) (by show b < w.heap.size; omega)).trans (C1.out k h1)
      have q2 := (SS.out.cell (p := ⟨b', o' + k, none⟩) (by show b' < w.heap.size; omega)).trans (C2.out k h2)
      rw [← h3] at q2
      have AS := Lib.hid (alk_step l l' k (by have := L.out; omega) (by have := L.out; omega) h3)
      clear h3
      obtain ⟨x, hx⟩ : ∃ x : Int, x = ((l.getD k 0).toNat : Int) := ⟨_, rfl⟩
      rw [← hx] at q1 q2
      clear hx
      go_wp2_with fail
      go_quiet (fail)
      go_wp2_with fail
      go_roundw
      case rel => exact ⟨k + 1, by go_num, by omega, by omega, by have h := hs.out.1; have := AS.out; omega, ⟨mm + nq, by rw [HWM.out, World.drewN_drewN]⟩⟩
      case measure => simp [intOf]; omega
    · have AS := Lib.hid (alk_stop l l' k (fun a b e => hlt ⟨by have := L.out; omega, by have := L.out; omega, e⟩))
      have key : (k = n) ∨ (k < n ∧ k = n') ∨ (k < n ∧ k < n' ∧ ∃ x y : Int, x = ((l.getD k 0).toNat : Int) ∧ y = ((l'.getD k 0).toNat : Int) ∧ (x == y) = false) := by
        by_cases h1 : k < n
        · by_cases h2 : k < n'
          · refine .inr (.inr ⟨h1, h2, _, _, rfl, rfl, ?_⟩)
            rw [beq_eq_false_iff_ne]
            intro e
            exact hlt ⟨h1, h2, UInt8.toNat_inj.1 (by omega)⟩
          · exact .inr (.inl ⟨h1, by omega⟩)
        · exact .inl (by omega)
      clear hlt
      rcases key with rfl | ⟨h1, rfl⟩ | ⟨h1, h2, x, y, hx, hy, hxy⟩
      · go_wp2_with fail
        go_quiet (fail)
        go_wp2_with fail
        go_ret
        exact ⟨by have h := hs.out.1; rw [AS.out] at h; rw [h]; rfl, ⟨mm + nq, by rw [HWM.out, World.drewN_drewN]⟩⟩
      · go_wp2_with fail
        go_quiet (fail)
        go_wp2_with fail
        go_ret
        exact ⟨by have h := hs.out.1; rw [AS.out] at h; rw [h]; rfl, ⟨mm + nq, by rw [HWM.out, World.drewN_drewN]⟩⟩
      · have q1 := (SS.out.cell (p := ⟨b, o + k, none⟩) (by show b < w.heap.size; omega)).trans (C1.out k h1)
        have q2 := (SS.out.cell (p := ⟨b', o' + k, none⟩) (by show b' < w.heap.size; omega)).trans (C2.out k h2)
        rw [← hx] at q1
        rw [← hy] at q2
        clear hx hy
        go_wp2_with fail
        go_quiet (fail)
        go_wp2_with fail
        go_ret
        exact ⟨by have h := hs.out.1; rw [AS.out] at h; rw [h]; rfl, ⟨mm + nq, by rw [HWM.out, World.drewN_drewN]⟩⟩
end Go.Proofs.Ytcbolakhdndffaa
