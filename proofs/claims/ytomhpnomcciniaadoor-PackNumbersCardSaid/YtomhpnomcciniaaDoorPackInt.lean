/- Contracts: a number as a value, encoded. It proves no statement. -/
import Derived.Test.YtomhpnomcciniaaDoorPackNumber
import Derived.Deep.RegionHeld3
import Derived.Deep.DeepCutAuto
namespace Go.Proofs.YtomhpnomcciniaaDoor
open Go.RowKit
set_option linter.unusedVariables false
set_option linter.unusedSimpArgs false

/-- A value's six cells. -/
def cellsI (x : Int) : Array Value := #[.int .i64 3, .int .i64 x, .slice none 0 0, .string ⟨#[]⟩, .slice none 0 0, .slice none 0 0]
theorem underValue : ∃ fs, Tryd.prog.underlying 26 = some (.struct fs) := by
  exact ⟨_, Tryd.underlying26⟩
theorem sizeValue : (Tryd.prog.info? 26).map (·.size) = some 6 := by kernel_rfl

set_option maxRecDepth 100000 in
set_option maxHeartbeats 800000 in
theorem of_any (x : Int) (w : World) : Calls Tryd.prog 23 #[.int .i64 x] w fun e w' => e = .returned (.agg (cellsI x)) ∧ Still w w' := by
  obtain ⟨fs, hu⟩ := underValue
  have HU := Lib.hid hu
  clear hu
  go_enter Tryd.func23, Tryd.ntmps23
  go_wp2_with fail
  refine bodyPost_ret (results_cell_row rfl _ _ w.heap.size _ _ _ _ rfl (heap_alloc_new w _) HU.out rfl (by rw [sizeValue]; rfl)) rfl ?_
  exact ⟨rfl, (Still.refl w).alloc (Nat.le_refl _) _⟩

set_option maxRecDepth 100000 in
set_option maxHeartbeats 800000 in
theorem can_leaf (k i : Int) (b t ks l : Value) (w : World) (d : Int) (hd : d ≤ 16) (h1 : 0 ≤ k) (h2 : k ≤ 5) :
    Calls Tryd.prog 25 #[.agg #[.int .i64 k, .int .i64 i, b, t, ks, l], .int .i64 d] w fun e w' => e = .returned (.bool true) ∧ Still w w' := by
  have d1 : ¬ 16 < d := by omega
  have d2 : ¬ k < 0 := by omega
  have d3 : ¬ 7 < k := by omega
  have d4 : (k == 7) = false := by simp; omega
  have d5 : (k != 7) = true := by simp; omega
  have d6 : (k != 6) = true := by simp; omega
  clear hd h1 h2
  go_enter Tryd.func25, Tryd.ntmps25
  go_wp2_with fail
  go_ret
  exact ⟨rfl, ((Still.refl w).alloc (Nat.le_refl _) _).alloc (by simp) _⟩

/-- The 64 bits of a number. -/
def ux (x : Int) : Nat := (x % 18446744073709551616).toNat
theorem ux_lt (x : Int) : ux x < 18446744073709551616 := by unfold ux; omega
theorem ux_cast (x : Int) : IntKind.u64.wrap x = (ux x : Int) := by rw [IntKind.wrap_u64]; unfold ux; omega
theorem pk_lt (x a : Nat) (h : a ≤ 208) : pk x a < 256 := by unfold pk; split <;> (try split) <;> (try split) <;> omega
theorem nt_lt (x : Int) : nt x < 256 := by
  unfold nt
  split
  · omega
  · split <;> exact pk_lt _ _ (by omega)

set_option maxRecDepth 100000 in
set_option maxHeartbeats 800000 in
theorem value_int {w : World} {lo g : Nat} {R : Option Nat} {s : List UInt8 × Bool} (h : Wr w lo g R s) (x : Int) (b t ks l : Value) (h1 : -9223372036854775808 ≤ x) (h2 : x ≤ 9223372036854775807) :
    Calls Tryd.prog 26 #[.pointer (some ⟨g, 0, none⟩), .agg #[.int .i64 3, .int .i64 x, b, t, ks, l]] w fun e w' => e = .returned (.tuple #[]) ∧ Wrote w w' lo g R (layN s (nt x) (ux x)) := by
  obtain ⟨cs, hcs⟩ : ∃ cs : Array Value, cs = #[.int .i64 3, .int .i64 x, b, t, ks, l] := ⟨_, rfl⟩
  obtain ⟨wA, hA⟩ : ∃ wA, wA = w.alloc (.cells #[.int .i64 3, .int .i64 x, b, t, ks, l] 26) := ⟨_, rfl⟩
  have sA : Still w wA := by rw [hA]; exact (Still.refl w).alloc (Nat.le_refl _) _
  have bA : Blk wA w.heap.size 26 #[.int .i64 3, .int .i64 x, b, t, ks, l] := by rw [hA]; exact Blk.new _ _ _
  have c0 : wA.cell? ⟨w.heap.size, 0, none⟩ = some (.int .i64 3) := bA.cell 0
  have hlt := h.lt
  have NT := Lib.hid (fun w => numTag_any x w h1 h2)
  have ntl := nt_lt x
  obtain ⟨y, hy⟩ : ∃ y, y = nt x := ⟨_, rfl⟩
  obtain ⟨u, hu⟩ : ∃ u, u = ux x := ⟨_, rfl⟩
  have e1 : IntKind.u64.wrap x = (u : Int) := by rw [hu]; exact ux_cast x
  have hul : u < 18446744073709551616 := by rw [hu]; exact ux_lt x
  rw [← hy] at NT ntl ⊢
  rw [← hu]
  have NU := Lib.hid (fun (w' : World) (hs : Still wA w') => number_any ((h.below sA).below hs) y u ntl hul)
  have V1 := Lib.hid (Via.of_still (g := g) (R := R) sA)
  have ne1 : w.heap.size ≠ g := by omega
  have ne2 : R ≠ some w.heap.size := fun e => by have := h.row _ e; omega
  have CL : Hid (∀ W, Still wA W → W.cell? ⟨w.heap.size, 1, none⟩ = some (.int .i64 x)) := Lib.hid fun W s => (bA.still s).cell 1
  have CV : Hid (∀ W W' (R' : Option Nat) , Still wA W → Via g R R' W W' → W'.cell? ⟨w.heap.size, 1, none⟩ = some (.int .i64 x)) := Lib.hid fun W W' R' s v => (v.blk (bA.still s) ne1 ne2).cell 1
  have HA := Lib.hid hA
  clear hA sA bA hcs hlt h1 h2 ntl hy hu hul ne1 ne2 h
  go_enter Tryd.func26, Tryd.ntmps26
  go_upto_region 1 with fail
  rw [← HA.out]
  clear HA
  go_wp2_with fail
  go_region_held3 (fun w' => w'.cell? ⟨w.heap.size, 1, none⟩ = some (.int .i64 x)) (first | exact CL.out _ ((Still.refl _).drew) | exact CV.out _ _ _ s1' v2 | exact CL.out _ s1')
    (first
      | (go_at_call 42; refine (NT.out _).mono ?_; rintro e w1 ⟨rfl, s1⟩; have s1' : Still wA w1 := Still.trans ((Still.refl wA).drew) s1)
      | (go_at_call 41; refine (NU.out _ s1').mono ?_; rintro e w2 ⟨rfl, R2, wr2, v2⟩))
  go_wp2_with fail
  first | go_end0 | refine bodyPost_ret (results_none rfl _ _ _) rfl ?_
  exact ⟨rfl, R2, wr2, V1.out.trans ((Via.of_still s1').trans v2)⟩
end Go.Proofs.YtomhpnomcciniaaDoor
