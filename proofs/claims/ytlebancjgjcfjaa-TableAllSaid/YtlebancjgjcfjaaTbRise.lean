/- Contracts: the places of all keys, by rising keys. It proves no statement. -/
import Derived.Test.YtlebancjgjcfjaaTbGet
import Derived.Test.YtlebancjgjcfjaaTbSortM
import Derived.Test.YtlebancjgjcfjaaRowI
import Derived.Test.YtlebancjgjcfjaaSort
import Derived.Sort.OwnSortedInts
import Derived.Shelf.SlSortCmp.QuietGrown
namespace Go.Proofs.Ytlebancjgjcfjaa
open Go.RowKit Go.Sort
set_option linter.unusedVariables false
set_option linter.unusedSimpArgs false

theorem putCells_map {α β : Type} [Inhabited α] [Inhabited β] (e : β → Value) (f : α → β) (off : Nat) (d : Array α) (c : Array Value) : putCells (fun x => e (f x)) off d c = putCells e off (d.map f) c := by
  unfold putCells
  apply Array.ext_getElem?
  intro k
  simp only [Array.getElem?_mapIdx, Array.size_map]
  cases c[k]? with
  | none => rfl
  | some x =>
    simp only [Option.map_some]
    split
    · rename_i h
      have h1 : k - off < d.size := by omega
      rw [getElem!_pos d (k - off) h1, getElem!_pos (d.map f) (k - off) (by simpa using h1)]
      simp
    · rfl
theorem sortWorld_map {α β : Type} [Inhabited α] [Inhabited β] (e : β → Value) (f : α → β) (w : World) (blk off m : Nat) (d : Array α) (os : Array Obj) : sortWorld (fun x => e (f x)) w blk off m d os = sortWorld e w blk off m (d.map f) os := by
  unfold sortWorld putRow mapBlock
  have : putCells (fun x => e (f x)) off d = putCells e off (d.map f) := funext fun c => putCells_map e f off d c
  rw [this]
theorem sortWorld_cell {α : Type} [Inhabited α] (e : α → Value) {w : World} {blk off m : Nat} {d : Array α} {os : Array Obj} {p : Addr} (hp : p.block < w.heap.size) (hne : p.block ≠ blk) : (sortWorld e w blk off m d os).cell? p = w.cell? p := by
  unfold sortWorld
  rw [cell?_grow _ _ _ (by simpa using hp), cell?_putRow_other _ _ _ _ _ _ (.inl hne), cell?_ahead]
theorem cell_grownQ {W : World} {p : Addr} {v : Value} (h : W.cell? p = some v) (n : Nat) (os : Array Obj) : (grow (W.drewN n) os).cell? p = some v :=
  cell_grown (World.block_lt_of_cell? W p h) h n os
set_option maxRecDepth 100000 in
set_option maxHeartbeats 3200000 in
/-- The closure that compares. -/
theorem cmpc_any {W : World} {tb g b n c x y : Nat} {kx ky : List UInt8} (h0 : W.cell? ⟨tb, 0, none⟩ = some (.pointer (some ⟨g, 0, none⟩))) (h1 : W.cell? ⟨g, 0, none⟩ = some (.slice (some ⟨b, 0, none⟩) n c))
    (hx : x < n) (hy : y < n) (hn : n ≤ 17179869184) (rx : W.rangeAt b (x * 34 + 1) (bytesV kx)) (ry : W.rangeAt b (y * 34 + 1) (bytesV ky)) (lx : kx.length = 32) (ly : ky.length = 32) :
    Calls Try.prog 51 #[.int .i64 (x : Nat), .int .i64 (y : Nat), .pointer (some ⟨tb, 0, none⟩)] W fun e w' => e = .returned (.int .i64 (Lib.compareBytes kx ky)) ∧ ∃ q os', w' = grow (W.drewN q) os' := by
  have k0 := fun n os => cell_grownQ h0 n os
  have k1 := fun n os => cell_grownQ h1 n os
  have RX := Lib.hid (fun w' (hw : ∃ p : GrownBy, w' = grow (W.drewN p.n) p.os) => show w'.rangeAt b (x * 34 + 1) (bytesV kx) from by obtain ⟨p, rfl⟩ := hw; exact fun j u hj => cell_grownQ (rx j u hj) _ _)
  have RY := Lib.hid (fun w' (hw : ∃ p : GrownBy, w' = grow (W.drewN p.n) p.os) => show w'.rangeAt b (y * 34 + 1) (bytesV ky) from by obtain ⟨p, rfl⟩ := hw; exact fun j u hj => cell_grownQ (ry j u hj) _ _)
  have CM := Lib.hid (fun w' => compare_any kx ky w' lx ly)
  have H32 := Lib.hid (show (Try.prog.info? 43).map (·.size) = some (bytesV kx).length ∧ (Try.prog.info? 43).map (·.size) = some (bytesV ky).length from ⟨by rw [size32, bytesV_length, lx], by rw [size32, bytesV_length, ly]⟩)
  obtain ⟨vx, hvx⟩ : ∃ v, v = (bytesV kx).toArray := ⟨_, rfl⟩
  obtain ⟨vy, hvy⟩ : ∃ v, v = (bytesV ky).toArray := ⟨_, rfl⟩
  rw [← hvx, ← hvy] at CM
  have HVX := Lib.hid hvx
  have HVY := Lib.hid hvy
  have d1 : (x : Int) < (n : Int) := by omega
  have d2 : (y : Int) < (n : Int) := by omega
  have d3 : (n : Int) ≤ 17179869184 := by omega
  generalize Lib.compareBytes kx ky = z at CM ⊢
  clear h0 h1 rx ry lx ly hvx hvy hn
  go_enter Try.func51, Try.ntmps51
  go_upto_region 1 with fail
  refine wp_region_quiet_grown (by kernel_rfl) (by kernel_rfl) ?_
  repeat (first
    | (guard_target =~ wpQuiet _ _ _ _ (Oper.mk (some 13) _ _ _ _ _ :: _) _; go_must (refine quiet_load_mid (by kernel_rfl) 43 (.tmp 12) rfl b (x * 34 + 1) (by kernel_rfl) (bytesV kx) _ RX.out under32 rfl H32.out.1 ?_); rw [← HVX.out])
    | (guard_target =~ wpQuiet _ _ _ _ (Oper.mk (some 21) _ _ _ _ _ :: _) _; go_must (refine quiet_load_mid (by kernel_rfl) 43 (.tmp 20) rfl b (y * 34 + 1) (by kernel_rfl) (bytesV ky) _ RY.out under32 rfl H32.out.2 ?_); rw [← HVY.out])
    | quiet_step ((go_at_call 38; exact Calls.grown_of (CM.out _))))
  refine wpQuiet_nil ?_
  intro wq hw'
  have SQ := Lib.hid hw'
  clear hw'
  go_wp2_with fail
  go_ret
  refine ⟨rfl, ?_⟩
  obtain ⟨⟨q, os⟩, hq⟩ := SQ.out
  exact ⟨q, os, hq⟩
def natV (l : List Nat) : List Value := l.map fun p : Nat => Value.int .i64 (p : Int)
theorem natV_one (l : List Nat) : ∀ u ∈ natV l, u.oneCell' = true := by
  intro u hu
  obtain ⟨_, _, rfl⟩ := List.mem_map.1 hu
  rfl
theorem holds_map {α β : Type} [Inhabited α] [Inhabited β] (e : β → Value) (f : α → β) {w : World} {blk off : Nat} {d : Array α} (h : Holds e w blk off (d.map f)) : Holds (fun x => e (f x)) w blk off d := by
  intro j hj
  have := h j (by simpa using hj)
  rw [getElem!_pos (d.map f) j (by simpa using hj)] at this
  rw [getElem!_pos d j hj]
  simpa using this
/-- What the sort of places asks and gives. -/
theorem sort_any {w : World} {S : List Sl} {tb g b c base : Nat} {v : Value} (hI : Inv 1 S) (hn : S.length ≤ 17179869184) (h0 : w.cell? ⟨tb, 0, none⟩ = some (.pointer (some ⟨g, 0, none⟩))) (h1 : w.cell? ⟨g, 0, none⟩ = some (.slice (some ⟨b, 0, none⟩) S.length c)) (hb : SlB w b 1 S)
    (hown : w.ownsRow base 3 1 v (idxL S S.length).length (natV (idxL S S.length))) (htb : tb < base) (hg : g < base) (hbb : b < base) (hbase : base ≤ w.heap.size) :
    Calls Try.prog 50 #[v, .func (.func 51) #[] #[.pointer (some ⟨tb, 0, none⟩)]] w fun e w' => e = .returned (.tuple #[]) ∧ w'.ownsRow base 3 1 v (posL S).length (natV (posL S)) ∧ Below base w w' := by
  have hpl : (posL S).length = (idxL S S.length).length := by unfold posL; rw [List.length_map, sortP_len]
  by_cases hz : (idxL S S.length).length = 0
  · have hp0 : (posL S) = [] := List.eq_nil_of_length_eq_zero (by omega)
    have hi0 : idxL S S.length = [] := List.eq_nil_of_length_eq_zero hz
    have hv : ∃ p cap, v = .slice p 0 cap := by
      rcases hown.2 with ⟨hv, _⟩ | ⟨gg, cap, cur, hv, _⟩
      · exact ⟨none, 0, hv⟩
      · exact ⟨_, cap, by rw [hv, hz]⟩
    obtain ⟨p, cap, rfl⟩ := hv
    have hcon := AnyF.slices_SortFunc_none (P := Try.prog) (ρ := Try.sortInt_ren) { Try.sortInt with } p cap (.func (.func 51) #[] #[.pointer (some ⟨tb, 0, none⟩)]) w
    change Calls Try.prog 50 _ _ _ at hcon
    refine hcon.mono ?_
    rintro e w' ⟨he, rfl⟩
    rw [hi0] at hown
    rw [hp0]
    exact ⟨he, hown, Below.refl _ _⟩
  · rcases hown.2 with ⟨_, h⟩ | ⟨blk, cap, cur, rfl, hbk, hheap, hcap, hmax, hcur, htake⟩
    · exact absurd h hz
    · rw [Nat.mul_one] at htake
      have hfl : (fpL S).length = (idxL S S.length).length := by rw [← fpL_val, List.length_map]
      obtain ⟨x0, hx0⟩ : ∃ x, x ∈ fpL S := by
        cases hf : fpL S with
        | nil => rw [hf] at hfl; simp at hfl; omega
        | cons x r => exact ⟨x, by simp⟩
      haveI : Inhabited (FP S) := ⟨x0⟩
      have hblk : blk < w.heap.size := (Array.getElem?_eq_some_iff.1 hheap).1
      have eg : ∀ args w, (callFunc 51 args).run Try.prog w = .ok (.enter 51 args) w := enters_of Try.func51 (by kernel_rfl) rfl
      have hss : (fpL S).map (fun x => ((x.1 : Nat) : Int)) = (idxL S S.length).map (fun p : Nat => (p : Int)) := by
        rw [← fpL_val, List.map_map]; rfl
      have hH : Holds (fun x : FP S => Value.int .i64 ((x.1 : Nat) : Int)) w blk 0 (fpL S).toArray := by
        refine holds_map (Value.int .i64) (fun x : FP S => ((x.1 : Nat) : Int)) ?_
        rw [List.map_toArray, hss]
        refine holds_of_blockI hheap ?_
        rw [List.length_map, htake, List.map_map]
        rfl
      have hkey : ∀ (W : World), (∀ p : Addr, p.block < w.heap.size → p.block ≠ blk → W.cell? p = w.cell? p) → ∀ x : FP S, W.rangeAt b (x.1 * 34 + 1) (bytesV x.key) := fun W hW x j u hj => by
        rw [hW ⟨b, _, none⟩ (by have := hb.lt; simpa using this) (by simp only; omega)]
        have := hb.key x.slot j u (by simpa [Sl.key, FP.key, FP.pr] using hj)
        exact this
      have hcmp : CmpLays1 Try.prog 51 #[.pointer (some ⟨tb, 0, none⟩)] (fun x : FP S => Value.int .i64 ((x.1 : Nat) : Int)) FP.cf blk 0 (fpL S).toArray.size w := fun m os dk hs x y => by
        have hW : ∀ p : Addr, p.block < w.heap.size → p.block ≠ blk → (sortWorld (fun x : FP S => Value.int .i64 ((x.1 : Nat) : Int)) w blk 0 m dk os).cell? p = w.cell? p := fun p hp hne => sortWorld_cell _ hp hne
        have lx := (hI.probe x.1 _ _ x.slot).1
        have ly := (hI.probe y.1 _ _ y.slot).1
        exact cmpc_any (tb := tb) (g := g) (b := b) (n := S.length) (c := c) ((hW ⟨tb, 0, none⟩ (by simp only; omega) (by simp only; omega)).trans h0) ((hW ⟨g, 0, none⟩ (by simp only; omega) (by simp only; omega)).trans h1)
          (List.getElem?_eq_some_iff.1 x.slot).1 (List.getElem?_eq_some_iff.1 y.slot).1 hn (hkey _ hW x) (hkey _ hW y) lx ly
      have hcon := Any.slices_SortFunc_total Try.sortInt (fun x : FP S => Value.int .i64 ((x.1 : Nat) : Int)) (fun _ => rfl) FP.cf FP.swo 51 #[.pointer (some ⟨tb, 0, none⟩)] blk 0 cap (fpL S).toArray w eg hcmp hH hblk (by
        have := idxL_len S S.length
        rw [List.size_toArray, hfl]; omega) (fun x y h h' => FP.anti hI x y h h')
      change Calls Try.prog 50 _ _ _ at hcon
      rw [List.size_toArray, hfl] at hcon
      refine hcon.mono ?_
      rintro e w' ⟨he, n, os, rfl⟩
      have hE : (((fpL S).toArray.toList.mergeSort fun x y => !(ltOf FP.cf) y x).toArray) = (sortP S).toArray := rfl
      rw [hE, sortWorld_map (Value.int .i64) (fun x : FP S => ((x.1 : Nat) : Int)), List.map_toArray]
      have hts : (sortP S).map (fun x => ((x.1 : Nat) : Int)) = (posL S).map (fun p : Nat => (p : Int)) := by unfold posL; rw [List.map_map]; rfl
      rw [hts]
      refine ⟨he, ?_, ?_⟩
      · have h := ownsRow_sortedI (n := n) (os := os) (ss := (idxL S S.length).map (fun p : Nat => (p : Int))) (ts := (posL S).map (fun p : Nat => (p : Int))) (by simp [hpl]) hbk hheap (by simpa using hcap) hmax (by simpa using hcur)
        rw [List.length_map, List.map_map] at h
        rw [hpl]
        exact h
      · exact Below.grown (Below.refl _ _) (grownBy_sortedI _) hbase (fun k hk => by cases hk; exact hbk)
end Go.Proofs.Ytlebancjgjcfjaa
