/- Contracts: the other reader, by which readings are told. It proves no statement. -/
import Derived.Test.YtammhjkdjkgpdaaBitsPiecesWalk
namespace Go.Proofs.Ytammhjkdjkgpdaa
open Go.RowKit
set_option linter.unusedVariables false
set_option linter.unusedSimpArgs false

structure RRd (w : World) (B g : Nat) (A : Option Addr) (n c : Nat) (L : List UInt8) (at_ : Nat) (x : Int) : Prop where
  blk : Blk w g 43 #[.slice A n c, .int .i64 at_, .int .i64 x]
  high : B ≤ g
  reads : Reads w B A n L
  here : at_ ≤ n
  fit : n ≤ c
  cap : c ≤ 9223372036854775807
  small : n ≤ 140737488355328
  nil : A = none → n = 0 ∧ c = 0

theorem RRd.drewN {w : World} {B g : Nat} {A : Option Addr} {n c : Nat} {L : List UInt8} {at_ : Nat} {x : Int} (h : RRd w B g A n c L at_ x) (k : Nat) : RRd (w.drewN k) B g A n c L at_ x :=
  ⟨h.blk, h.high, h.reads, h.here, h.fit, h.cap, h.small, h.nil⟩
theorem RRd.set {w : World} {B g : Nat} {A : Option Addr} {n c : Nat} {L : List UInt8} {at_ : Nat} {x : Int} (h : RRd w B g A n c L at_ x) (y : Int) :
    RRd (w.setCell ⟨g, 2, none⟩ (.int .i64 y)) B g A n c L at_ y ∧ w.grownBy (w.setCell ⟨g, 2, none⟩ (.int .i64 y)) (some g) :=
  ⟨⟨h.blk.setc 2 _, h.high, h.reads.keep fun p hp => World.cell?_of_block (w := w) (Below.heap_setCell w ⟨g, 2, none⟩ _ _ (by have := h.high; simp; omega)), h.here, h.fit, h.cap, h.small, h.nil⟩,
    ⟨rfl, rfl, rfl, by simp [World.setCell], fun k _ hk => Below.heap_setCell _ _ _ _ (fun e => hk (by rw [e]))⟩⟩
theorem RRd.setAt {w : World} {B g : Nat} {A : Option Addr} {n c : Nat} {L : List UInt8} {at_ : Nat} {x : Int} (h : RRd w B g A n c L at_ x) (k : Nat) (hk : k ≤ n) :
    RRd (w.setCell ⟨g, 1, none⟩ (.int .i64 k)) B g A n c L k x ∧ w.grownBy (w.setCell ⟨g, 1, none⟩ (.int .i64 k)) (some g) :=
  ⟨⟨h.blk.setc 1 _, h.high, h.reads.keep fun p hp => World.cell?_of_block (w := w) (Below.heap_setCell w ⟨g, 1, none⟩ _ _ (by have := h.high; simp; omega)), hk, h.fit, h.cap, h.small, h.nil⟩,
    ⟨rfl, rfl, rfl, by simp [World.setCell], fun k _ hk => Below.heap_setCell _ _ _ _ (fun e => hk (by rw [e]))⟩⟩
theorem RRd.still {w w' : World} {B g : Nat} {A : Option Addr} {n c : Nat} {L : List UInt8} {at_ : Nat} {x : Int} (h : RRd w B g A n c L at_ x) (hs : Still w w') : RRd w' B g A n c L at_ x :=
  ⟨h.blk.still hs, h.high, h.reads.still (by have := h.blk.lt; have := h.high; omega) hs, h.here, h.fit, h.cap, h.small, h.nil⟩

theorem rend_any {w : World} {B g : Nat} {A : Option Addr} {n c : Nat} {L : List UInt8} {at_ : Nat} {x : Int} (h : RRd w B g A n c L at_ x) :
    Calls Try.prog 35 #[.pointer (some ⟨g, 0, none⟩)] w fun e w' => e = .returned (.int .i64 (endOf (n - at_) x)) ∧ Still w w' := by
  have c0 : w.cell? ⟨g, 0, none⟩ = some (.slice A n c) := h.blk.cell 0
  have c1 : w.cell? ⟨g, 1, none⟩ = some (.int .i64 at_) := h.blk.cell 1
  have c2 : w.cell? ⟨g, 2, none⟩ = some (.int .i64 x) := h.blk.cell 2
  by_cases hx : x = 0
  · subst hx
    by_cases hn : n - at_ = 0
    · have e : endOf (n - at_) 0 = 0 := by simp [endOf, hn]
      rw [e]
      have hf : decide ((at_ : Int) < n) = false := by simp; omega
      go_enter Try.func35, Try.ntmps35
      go_wp2_with fail
      go_quiet (fail)
      go_wp2_with fail
      go_ret
      exact ⟨rfl, still_drewN (Below.refl _ _) _⟩
    · have e : endOf (n - at_) 0 = 6 := by simp [endOf, hn]
      rw [e]
      have hf : (at_ : Int) < n := by omega
      go_enter Try.func35, Try.ntmps35
      go_wp2_with fail
      go_quiet (fail)
      go_wp2_with fail
      go_ret
      exact ⟨rfl, still_drewN (Below.refl _ _) _⟩
  · have e : endOf (n - at_) x = x := by simp [endOf, hx]
    rw [e]
    have hb : (x == 0) = false := by simpa using hx
    go_enter Try.func35, Try.ntmps35
    go_wp2_with fail
    go_quiet (fail)
    go_wp2_with fail
    go_ret
    exact ⟨rfl, still_drewN (Below.refl _ _) _⟩

/-- What Take leaves. -/
def Took (w w' : World) (B g : Nat) (A : Option Addr) (n c : Nat) (L : List UInt8) (st : (List UInt8 × Int) × List UInt8) (v : Value) : Prop :=
  w'.ownsRow w.heap.size 5 1 v st.2.length (bytesV st.2) ∧ (∃ at', RRd w' B g A n c L at' st.1.2 ∧ L.drop at' = st.1.1) ∧ w.grownBy w' (some g)

theorem rtake_err {w : World} {B g : Nat} {A : Option Addr} {n c : Nat} {L : List UInt8} {at_ : Nat} {x : Int} (h : RRd w B g A n c L at_ x) (hx : x ≠ 0) (y : Int) (num : Bool) :
    Calls Try.prog 28 #[.pointer (some ⟨g, 0, none⟩), .int .i64 y, .bool num] w fun e w' => ∃ v, e = .returned v ∧ Took w w' B g A n c L (rstep (L.drop at_) x y num) v := by
  rw [rstep_err _ _ _ _ hx]
  have hb : (x != 0) = true := by simpa using hx
  have c2 : w.cell? ⟨g, 2, none⟩ = some (.int .i64 x) := h.blk.cell 2
  go_enter Try.func28, Try.ntmps28
  go_wp2_with fail
  go_ret
  exact ⟨_, rfl, World.ownsRow_nil _ _ _ _, ⟨at_, h, rfl⟩, World.grownBy.refl _ _⟩
theorem rtake_arg {w : World} {B g : Nat} {A : Option Addr} {n c : Nat} {L : List UInt8} {at_ : Nat} (h : RRd w B g A n c L at_ 0) (y : Int) (num : Bool) (hy : y < 0 ∨ (num = true ∧ (y < 1 ∨ 8 < y))) :
    Calls Try.prog 28 #[.pointer (some ⟨g, 0, none⟩), .int .i64 y, .bool num] w fun e w' => ∃ v, e = .returned v ∧ Took w w' B g A n c L (rstep (L.drop at_) 0 y num) v := by
  rw [rstep_arg _ _ _ hy]
  have c2 : w.cell? ⟨g, 2, none⟩ = some (.int .i64 0) := h.blk.cell 2
  have f2 := h.blk.frozen 2
  obtain ⟨r2, g2⟩ := h.set 2
  by_cases y0 : y < 0
  · go_enter Try.func28, Try.ntmps28
    go_wp2_with fail
    go_ret
    exact ⟨_, rfl, World.ownsRow_nil _ _ _ _, ⟨at_, r2, rfl⟩, g2⟩
  · obtain ⟨rfl, hy⟩ : num = true ∧ (y < 1 ∨ 8 < y) := by
      rcases hy with hy | hy
      · omega
      · exact hy
    have d0 : decide (y < 0) = false := by simp; omega
    by_cases y1 : y < 1
    · go_enter Try.func28, Try.ntmps28
      go_wp2_with fail
      go_ret
      exact ⟨_, rfl, World.ownsRow_nil _ _ _ _, ⟨at_, r2, rfl⟩, g2⟩
    · have d1 : decide (y < 1) = false := by simp; omega
      have y8 : 8 < y := by omega
      go_enter Try.func28, Try.ntmps28
      go_wp2_with fail
      go_ret
      exact ⟨_, rfl, World.ownsRow_nil _ _ _ _, ⟨at_, r2, rfl⟩, g2⟩
theorem rtake_short {w : World} {B g : Nat} {A : Option Addr} {n c : Nat} {L : List UInt8} {at_ : Nat} (h : RRd w B g A n c L at_ 0) (y : Int) (num : Bool) (hy : ¬ (y < 0 ∨ (num = true ∧ (y < 1 ∨ 8 < y)))) (hs : ((L.drop at_).length : Int) < y) :
    Calls Try.prog 28 #[.pointer (some ⟨g, 0, none⟩), .int .i64 y, .bool num] w fun e w' => ∃ v, e = .returned v ∧ Took w w' B g A n c L (rstep (L.drop at_) 0 y num) v := by
  rw [rstep_short _ _ _ hy hs]
  have hln := h.reads.1
  have hle := h.here
  rw [List.length_drop, hln] at hs
  have c0 : w.cell? ⟨g, 0, none⟩ = some (.slice A n c) := h.blk.cell 0
  have c1 : w.cell? ⟨g, 1, none⟩ = some (.int .i64 at_) := h.blk.cell 1
  have c2 : w.cell? ⟨g, 2, none⟩ = some (.int .i64 0) := h.blk.cell 2
  have f2 := h.blk.frozen 2
  have hs' : (n : Int) - at_ < y := by omega
  have hsm := h.small
  have d0 : decide (y < 0) = false := by simp; omega
  have r3 := fun k => (h.drewN k).set 3
  have R3 := Lib.hid r3
  clear r3 hs hln
  cases num
  · clear hy
    go_enter Try.func28, Try.ntmps28
    go_wp2_with fail
    go_quiet (fail)
    go_wp2_with fail
    go_ret
    rename_i nq _
    obtain ⟨r, gr⟩ := R3.out nq
    exact ⟨_, rfl, World.ownsRow_nil _ _ _ _, ⟨at_, r, rfl⟩, ⟨gr.os, gr.tape, gr.output, gr.size, gr.block⟩⟩
  · have hy' : ¬ (y < 0 ∨ (y < 1 ∨ 8 < y)) := by simpa using hy
    have d1 : decide (y < 1) = false := by simp; omega
    have d8 : decide (8 < y) = false := by simp; omega
    clear hy hy'
    go_enter Try.func28, Try.ntmps28
    go_wp2_with fail
    go_quiet (fail)
    go_wp2_with fail
    go_ret
    rename_i nq _
    obtain ⟨r, gr⟩ := R3.out nq
    exact ⟨_, rfl, World.ownsRow_nil _ _ _ _, ⟨at_, r, rfl⟩, ⟨gr.os, gr.tape, gr.output, gr.size, gr.block⟩⟩

/-- The bytes that Take copies, told as the walk tells them. -/
theorem rtake_ok {w : World} {B g : Nat} {A : Option Addr} {n c : Nat} {L : List UInt8} {at_ : Nat} (h : RRd w B g A n c L at_ 0) (k : Nat) (num : Bool) (hy : ¬ ((k : Int) < 0 ∨ (num = true ∧ ((k : Int) < 1 ∨ 8 < (k : Int))))) (hs : at_ + k ≤ n) :
    Calls Try.prog 28 #[.pointer (some ⟨g, 0, none⟩), .int .i64 k, .bool num] w fun e w' => ∃ v, e = .returned v ∧ Took w w' B g A n c L (rstep (L.drop at_) 0 k num) v := by
  have hln := h.reads.1
  rw [rstep_ok _ k num hy (by rw [List.length_drop, hln]; omega)]
  have c0 : w.cell? ⟨g, 0, none⟩ = some (.slice A n c) := h.blk.cell 0
  have c1 : w.cell? ⟨g, 1, none⟩ = some (.int .i64 at_) := h.blk.cell 1
  have c2 : w.cell? ⟨g, 2, none⟩ = some (.int .i64 0) := h.blk.cell 2
  have f1 := h.blk.frozen 1
  have hsm := h.small
  have hfit := h.fit
  have hcap := h.cap
  have hs' : (k : Int) ≤ (n : Int) - at_ := by omega
  have hs2 : decide ((n : Int) - at_ < k) = false := by simp; omega
  have hz : (at_ : Int) + k ≤ n := by omega
  have hlt : g < w.heap.size := h.blk.lt
  by_cases hc : c = at_
  · have hk0 : k = 0 := by omega
    subst hk0
    have hnum : num = false := by
      cases num
      · rfl
      · simp at hy
    subst hnum
    have hcn : c = n := by omega
    subst hcn
    have hca : at_ = c := by omega
    subst hca
    have H := Lib.hid h
    have LN := Lib.hid hln
    clear hy hc h hln hfit hs hs' hz
    rw [show ((0 : Nat) : Int) = 0 from rfl]
    have v1 : (0 : Int) ≤ (at_ : Int) := by omega
    go_enter Try.func28, Try.ntmps28
    go_wp2_with fail
    go_quiet (fail)
    go_wp2_with fail
    have v6 : IntKind.i64.wrap (at_ : Int) = at_ := IntWalk.i64_in _ (by omega)
    go_region_held3 (fun w' => w'.cell? ⟨g, 0, none⟩ = some (.slice A at_ at_) ∧ w'.cell? ⟨g, 1, none⟩ = some (.int .i64 at_)) (first | go_keep | (go_split_ands; exact ⟨by assumption, by assumption⟩))
      ((go_at_call 18; refine (copy_any _ 0 _ [] _ B Reads.nil0 (by omega) (by simp)).mono ?_; rintro e w2 ⟨⟨v, rfl, own2⟩, st2⟩; have d0 : w2.cell? ⟨g, 0, none⟩ = some (.slice A at_ at_) := (st2.cell (p := ⟨g, 0, none⟩) hlt).trans c0; have d1 : w2.cell? ⟨g, 1, none⟩ = some (.int .i64 at_) := (st2.cell (p := ⟨g, 1, none⟩) hlt).trans c1; have e1 : w2.frozen? ⟨g, 1, none⟩ = false := (st2.frozen (p := ⟨g, 1, none⟩) hlt).trans f1))
    have s2 : Still w w2 := ⟨st2.os, st2.tape, st2.output, st2.size, st2.block⟩
    have own2' : w2.ownsRow w.heap.size 5 1 v 0 (bytesV []) := own2
    have rr := (H.out.still s2).setAt at_ (Nat.le_refl _)
    have own3 := ownsRow_setCell_below own2' (a := ⟨g, 1, none⟩) hlt (.int .i64 (at_ : Int))
    have O3 := Lib.hid own3
    have R3 := Lib.hid rr
    have S2 := Lib.hid s2
    clear own2 own2' own3 rr st2 s2
    go_wp2_with fail
    go_ret
    refine ⟨v, rfl, ?_, ⟨at_, R3.out.1, by simp⟩, ?_⟩
    · simpa using O3.out
    · have g1 := R3.out.2
      have s2 := S2.out
      exact ⟨g1.os.trans s2.os, g1.tape.trans s2.tape, g1.output.trans s2.output, Nat.le_trans s2.size g1.size, fun j hj hne => (g1.block j (Nat.lt_of_lt_of_le hj s2.size) hne).trans (s2.block j hj)⟩
  · have rd := (h.reads.dropk (k := at_) h.here).takek (k := k) (by omega)
    have rdn : ∀ m, Reads (w.drewN m) B (A.map (·.add at_)) k ((L.drop at_).take k) := fun m => rd
    have nn : A.map (·.add at_) = none → k = 0 ∧ c - at_ = 0 := fun e => by
      have e2 : A = none := by simpa using e
      have := h.nil e2
      omega
    have R := Lib.hid rdn
    have N := Lib.hid nn
    have H := Lib.hid h
    clear rd rdn nn hln h
    cases num
    · clear hy
      go_enter Try.func28, Try.ntmps28
      go_wp2_with fail
      go_quiet (fail)
      go_wp2_with fail
      have v1 : (0 : Int) ≤ (at_ : Int) := by omega
      have v2 : (at_ : Int) ≤ (at_ : Int) + k := by omega
      have v3 : (at_ : Int) + k ≤ c := by omega
      have v4 : (0 : Int) ≤ (at_ : Int) + k := by omega
      have v7 : at_ + k - at_ = k := by omega
      have v5 : ((at_ : Int) + k).toNat = at_ + k := by omega
      have v6 : IntKind.i64.wrap ((at_ : Int) + k) = at_ + k := IntWalk.i64_in _ (by omega)
      go_region_held3 (fun w' => w'.cell? ⟨g, 0, none⟩ = some (.slice A n c) ∧ w'.cell? ⟨g, 1, none⟩ = some (.int .i64 at_)) (first | go_keep | (go_split_ands; exact ⟨by assumption, by assumption⟩))
        ((go_at_call 18; refine (copy_any _ k _ ((L.drop at_).take k) _ B (R.out _) (by omega) (by simpa using N.out)).mono ?_; rintro e w2 ⟨⟨v, rfl, own2⟩, st2⟩; have d0 : w2.cell? ⟨g, 0, none⟩ = some (.slice A n c) := (st2.cell (p := ⟨g, 0, none⟩) hlt).trans c0; have d1 : w2.cell? ⟨g, 1, none⟩ = some (.int .i64 at_) := (st2.cell (p := ⟨g, 1, none⟩) hlt).trans c1; have e1 : w2.frozen? ⟨g, 1, none⟩ = false := (st2.frozen (p := ⟨g, 1, none⟩) hlt).trans f1))
      clear v1 v2 v3 v4 v5 v6 v7
      have s2 : Still w w2 := ⟨st2.os, st2.tape, st2.output, st2.size, st2.block⟩
      have own2' : w2.ownsRow w.heap.size 5 1 v k (bytesV ((L.drop at_).take k)) := own2
      have rr := (H.out.still s2).setAt (at_ + k) hs
      have own3 := ownsRow_setCell_below own2' (a := ⟨g, 1, none⟩) hlt (.int .i64 ((at_ + k : Nat) : Int))
      have lk : ((L.drop at_).take k).length = k := by simp only [List.length_take, List.length_drop]; have := H.out.reads.1; omega
      have O3 := Lib.hid own3
      have R3 := Lib.hid rr
      have S2 := Lib.hid s2
      have LK := Lib.hid lk
      clear own2 own2' own3 rr st2 s2 lk
      go_wp2_with fail
      go_ret
      refine ⟨v, rfl, ?_, ⟨at_ + k, R3.out.1, by rw [List.drop_drop]⟩, ?_⟩
      · rw [LK.out]; exact O3.out
      · have g1 := R3.out.2
        have s2 := S2.out
        exact ⟨g1.os.trans s2.os, g1.tape.trans s2.tape, g1.output.trans s2.output, Nat.le_trans s2.size g1.size, fun j hj hne => (g1.block j (Nat.lt_of_lt_of_le hj s2.size) hne).trans (s2.block j hj)⟩
    · have hy' : ¬ ((k : Int) < 0 ∨ ((k : Int) < 1 ∨ 8 < (k : Int))) := by simpa using hy
      have d1 : decide ((k : Int) < 1) = false := by simp; omega
      have d8 : decide (8 < (k : Int)) = false := by simp; omega
      clear hy hy'
      go_enter Try.func28, Try.ntmps28
      go_wp2_with fail
      go_quiet (fail)
      go_wp2_with fail
      have v1 : (0 : Int) ≤ (at_ : Int) := by omega
      have v2 : (at_ : Int) ≤ (at_ : Int) + k := by omega
      have v3 : (at_ : Int) + k ≤ c := by omega
      have v4 : (0 : Int) ≤ (at_ : Int) + k := by omega
      have v7 : at_ + k - at_ = k := by omega
      have v5 : ((at_ : Int) + k).toNat = at_ + k := by omega
      have v6 : IntKind.i64.wrap ((at_ : Int) + k) = at_ + k := IntWalk.i64_in _ (by omega)
      go_region_held3 (fun w' => w'.cell? ⟨g, 0, none⟩ = some (.slice A n c) ∧ w'.cell? ⟨g, 1, none⟩ = some (.int .i64 at_)) (first | go_keep | (go_split_ands; exact ⟨by assumption, by assumption⟩))
        ((go_at_call 18; refine (copy_any _ k _ ((L.drop at_).take k) _ B (R.out _) (by omega) (by simpa using N.out)).mono ?_; rintro e w2 ⟨⟨v, rfl, own2⟩, st2⟩; have d0 : w2.cell? ⟨g, 0, none⟩ = some (.slice A n c) := (st2.cell (p := ⟨g, 0, none⟩) hlt).trans c0; have d1 : w2.cell? ⟨g, 1, none⟩ = some (.int .i64 at_) := (st2.cell (p := ⟨g, 1, none⟩) hlt).trans c1; have e1 : w2.frozen? ⟨g, 1, none⟩ = false := (st2.frozen (p := ⟨g, 1, none⟩) hlt).trans f1))
      clear v1 v2 v3 v4 v5 v6 v7
      have s2 : Still w w2 := ⟨st2.os, st2.tape, st2.output, st2.size, st2.block⟩
      have own2' : w2.ownsRow w.heap.size 5 1 v k (bytesV ((L.drop at_).take k)) := own2
      have rr := (H.out.still s2).setAt (at_ + k) hs
      have own3 := ownsRow_setCell_below own2' (a := ⟨g, 1, none⟩) hlt (.int .i64 ((at_ + k : Nat) : Int))
      have lk : ((L.drop at_).take k).length = k := by simp only [List.length_take, List.length_drop]; have := H.out.reads.1; omega
      have O3 := Lib.hid own3
      have R3 := Lib.hid rr
      have S2 := Lib.hid s2
      have LK := Lib.hid lk
      clear own2 own2' own3 rr st2 s2 lk
      go_wp2_with fail
      go_ret
      refine ⟨v, rfl, ?_, ⟨at_ + k, R3.out.1, by rw [List.drop_drop]⟩, ?_⟩
      · rw [LK.out]; exact O3.out
      · have g1 := R3.out.2
        have s2 := S2.out
        exact ⟨g1.os.trans s2.os, g1.tape.trans s2.tape, g1.output.trans s2.output, Nat.le_trans s2.size g1.size, fun j hj hne => (g1.block j (Nat.lt_of_lt_of_le hj s2.size) hne).trans (s2.block j hj)⟩
end Go.Proofs.Ytammhjkdjkgpdaa
