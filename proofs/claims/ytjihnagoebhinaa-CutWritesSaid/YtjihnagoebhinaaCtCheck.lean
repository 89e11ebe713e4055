/- Contracts: whether a shape is right, by the program and by the document's own answer. It proves no statement. -/
import Derived.Test.YtjihnagoebhinaaCut
import Derived.Test.YtjihnagoebhinaaBlk
import Derived.Test.YtjihnagoebhinaaCtMath
namespace Go.Proofs.Ytjihnagoebhinaa
open Go.RowKit
set_option linter.unusedVariables false
set_option linter.unusedSimpArgs false

/-- Whether a shape is right. -/
def okZ (x y z u : Int) : Bool := decide (1 ≤ u) && decide (u ≤ 63) && decide (u ≤ x) && decide (x ≤ y) && decide (y ≤ 8192) && decide (0 ≤ z) && decide (z ≤ 20)
set_option maxRecDepth 100000 in
set_option maxHeartbeats 1600000 in
theorem check_any (x y z u sd : Int) (w : World) :
    Calls Try.prog 15 #[.agg #[.int .i64 x, .int .i64 y, .int .i64 z, .int .i64 u, .int .u32 sd]] w fun e w' => e = .returned (.int .i64 (if okZ x y z u = true then 0 else 2)) ∧ Still w w' := by
  have st := (Still.refl w).alloc (Nat.le_refl _) (.cells #[.int .i64 x, .int .i64 y, .int .i64 z, .int .i64 u, .int .u32 sd] 24)
  have hb := Blk.new w 24 #[.int .i64 x, .int .i64 y, .int .i64 z, .int .i64 u, .int .u32 sd]
  have b0 : (w.alloc (.cells #[.int .i64 x, .int .i64 y, .int .i64 z, .int .i64 u, .int .u32 sd] 24)).cell? ⟨w.heap.size, 0, none⟩ = some (.int .i64 x) := hb.cell 0
  have b1 : (w.alloc (.cells #[.int .i64 x, .int .i64 y, .int .i64 z, .int .i64 u, .int .u32 sd] 24)).cell? ⟨w.heap.size, 1, none⟩ = some (.int .i64 y) := hb.cell 1
  have b2 : (w.alloc (.cells #[.int .i64 x, .int .i64 y, .int .i64 z, .int .i64 u, .int .u32 sd] 24)).cell? ⟨w.heap.size, 2, none⟩ = some (.int .i64 z) := hb.cell 2
  have b3 : (w.alloc (.cells #[.int .i64 x, .int .i64 y, .int .i64 z, .int .i64 u, .int .u32 sd] 24)).cell? ⟨w.heap.size, 3, none⟩ = some (.int .i64 u) := hb.cell 3
  clear hb
  by_cases h0 : u < 1
  · have g0 : ¬ 1 ≤ u := by omega
    rw [show okZ x y z u = false by simp [okZ]; omega]
    go_enter Try.func15, Try.ntmps15
    go_wp2_with fail
    (try simp only [Exit.inBlock, Exit.then])
    go_ret
    exact ⟨rfl, st⟩
  have g0 : 1 ≤ u := by omega
  by_cases h1 : 63 < u
  · have g1 : ¬ u ≤ 63 := by omega
    rw [show okZ x y z u = false by simp [okZ]; omega]
    go_enter Try.func15, Try.ntmps15
    go_wp2_with fail
    (try simp only [Exit.inBlock, Exit.then])
    go_ret
    exact ⟨rfl, st⟩
  have g1 : u ≤ 63 := by omega
  by_cases h2 : x < u
  · have g2 : ¬ u ≤ x := by omega
    rw [show okZ x y z u = false by simp [okZ]; omega]
    go_enter Try.func15, Try.ntmps15
    go_wp2_with fail
    (try simp only [Exit.inBlock, Exit.then])
    go_ret
    exact ⟨rfl, st⟩
  have g2 : u ≤ x := by omega
  by_cases h3 : y < x
  · have g3 : ¬ x ≤ y := by omega
    rw [show okZ x y z u = false by simp [okZ]; omega]
    go_enter Try.func15, Try.ntmps15
    go_wp2_with fail
    (try simp only [Exit.inBlock, Exit.then])
    go_ret
    exact ⟨rfl, st⟩
  have g3 : x ≤ y := by omega
  by_cases h4 : 8192 < y
  · have g4 : ¬ y ≤ 8192 := by omega
    rw [show okZ x y z u = false by simp [okZ]; omega]
    go_enter Try.func15, Try.ntmps15
    go_wp2_with fail
    (try simp only [Exit.inBlock, Exit.then])
    go_ret
    exact ⟨rfl, st⟩
  have g4 : y ≤ 8192 := by omega
  by_cases h5 : z < 0
  · have g5 : ¬ 0 ≤ z := by omega
    rw [show okZ x y z u = false by simp [okZ]; omega]
    go_enter Try.func15, Try.ntmps15
    go_wp2_with fail
    (try simp only [Exit.inBlock, Exit.then])
    go_ret
    exact ⟨rfl, st⟩
  have g5 : 0 ≤ z := by omega
  by_cases h6 : 20 < z
  · have g6 : ¬ z ≤ 20 := by omega
    rw [show okZ x y z u = false by simp [okZ]; omega]
    go_enter Try.func15, Try.ntmps15
    go_wp2_with fail
    (try simp only [Exit.inBlock, Exit.then])
    go_ret
    exact ⟨rfl, st⟩
  have g6 : z ≤ 20 := by omega
  rw [show okZ x y z u = true by simp [okZ]; omega]
  go_enter Try.func15, Try.ntmps15
  go_wp2_with fail
  (try simp only [Exit.inBlock, Exit.then])
  go_ret
  exact ⟨rfl, st⟩
set_option maxRecDepth 100000 in
set_option maxHeartbeats 1600000 in
theorem rcheck_any (x y z u sd : Int) (w : World) :
    Calls Try.prog 14 #[.agg #[.int .i64 x, .int .i64 y, .int .i64 z, .int .i64 u, .int .u32 sd]] w fun e w' => e = .returned (.bool (okZ x y z u)) ∧ Still w w' := by
  have st := (Still.refl w).alloc (Nat.le_refl _) (.cells #[.int .i64 x, .int .i64 y, .int .i64 z, .int .i64 u, .int .u32 sd] 24)
  have hb := Blk.new w 24 #[.int .i64 x, .int .i64 y, .int .i64 z, .int .i64 u, .int .u32 sd]
  have b0 : (w.alloc (.cells #[.int .i64 x, .int .i64 y, .int .i64 z, .int .i64 u, .int .u32 sd] 24)).cell? ⟨w.heap.size, 0, none⟩ = some (.int .i64 x) := hb.cell 0
  have b1 : (w.alloc (.cells #[.int .i64 x, .int .i64 y, .int .i64 z, .int .i64 u, .int .u32 sd] 24)).cell? ⟨w.heap.size, 1, none⟩ = some (.int .i64 y) := hb.cell 1
  have b2 : (w.alloc (.cells #[.int .i64 x, .int .i64 y, .int .i64 z, .int .i64 u, .int .u32 sd] 24)).cell? ⟨w.heap.size, 2, none⟩ = some (.int .i64 z) := hb.cell 2
  have b3 : (w.alloc (.cells #[.int .i64 x, .int .i64 y, .int .i64 z, .int .i64 u, .int .u32 sd] 24)).cell? ⟨w.heap.size, 3, none⟩ = some (.int .i64 u) := hb.cell 3
  clear hb
  by_cases h0 : u < 1
  · have g0 : ¬ 1 ≤ u := by omega
    rw [show okZ x y z u = false by simp [okZ]; omega]
    go_enter Try.func14, Try.ntmps14
    go_wp2_with fail
    (try simp only [Exit.inBlock, Exit.then])
    go_ret
    exact ⟨rfl, st⟩
  have g0 : 1 ≤ u := by omega
  by_cases h1 : 63 < u
  · have g1 : ¬ u ≤ 63 := by omega
    rw [show okZ x y z u = false by simp [okZ]; omega]
    go_enter Try.func14, Try.ntmps14
    go_wp2_with fail
    (try simp only [Exit.inBlock, Exit.then])
    go_ret
    exact ⟨rfl, st⟩
  have g1 : u ≤ 63 := by omega
  by_cases h2 : x < u
  · have g2 : ¬ u ≤ x := by omega
    rw [show okZ x y z u = false by simp [okZ]; omega]
    go_enter Try.func14, Try.ntmps14
    go_wp2_with fail
    (try simp only [Exit.inBlock, Exit.then])
    go_ret
    exact ⟨rfl, st⟩
  have g2 : u ≤ x := by omega
  by_cases h3 : y < x
  · have g3 : ¬ x ≤ y := by omega
    rw [show okZ x y z u = false by simp [okZ]; omega]
    go_enter Try.func14, Try.ntmps14
    go_wp2_with fail
    (try simp only [Exit.inBlock, Exit.then])
    go_ret
    exact ⟨rfl, st⟩
  have g3 : x ≤ y := by omega
  by_cases h4 : 8192 < y
  · have g4 : ¬ y ≤ 8192 := by omega
    rw [show okZ x y z u = false by simp [okZ]; omega]
    go_enter Try.func14, Try.ntmps14
    go_wp2_with fail
    (try simp only [Exit.inBlock, Exit.then])
    go_ret
    exact ⟨rfl, st⟩
  have g4 : y ≤ 8192 := by omega
  by_cases h5 : z < 0
  · have g5 : ¬ 0 ≤ z := by omega
    rw [show okZ x y z u = false by simp [okZ]; omega]
    go_enter Try.func14, Try.ntmps14
    go_wp2_with fail
    (try simp only [Exit.inBlock, Exit.then])
    go_ret
    exact ⟨rfl, st⟩
  have g5 : 0 ≤ z := by omega
  by_cases h6 : 20 < z
  · have g6 : ¬ z ≤ 20 := by omega
    rw [show okZ x y z u = false by simp [okZ]; omega]
    go_enter Try.func14, Try.ntmps14
    go_wp2_with fail
    (try simp only [Exit.inBlock, Exit.then])
    go_ret
    exact ⟨rfl, st⟩
  have g6 : z ≤ 20 := by omega
  rw [show okZ x y z u = true by simp [okZ]; omega]
  go_enter Try.func14, Try.ntmps14
  go_wp2_with fail
  (try simp only [Exit.inBlock, Exit.then])
  go_ret
  exact ⟨rfl, st⟩
end Go.Proofs.Ytjihnagoebhinaa
