/- Contract: a change of names, done. It proves no statement. -/
import Derived.Test.YtlddmgofjeibaaaMdRow
import Derived.Test.YtlddmgofjeibaaaFar
namespace Go.Proofs.Ytlddmgofjeibaaa
open Go.RowKit Go.Maps Go.WideMaps
set_option linter.unusedVariables false
set_option linter.unusedSimpArgs false

/-- What a change of names makes of a map. -/
def nmDo (D : DataW Unit) (s t : ByteArray) (f : Int) : DataW Unit := if f < 0 then D.del (kl s) else (D.del (kl s)).put (kl t) (fd f)
theorem box_kept {w w1 : World} {cs : Array Value} {ty : TypeId} {b : Nat} (ht : (w.alloc (.cells cs ty)).grownBy w1 (some b)) (hb : b < w.heap.size) (i : Nat) : w1.cell? ⟨w.heap.size, i, none⟩ = cs[i]? := by
  have h1 := ht.block w.heap.size (by simp) (fun e => by injection e with e; omega)
  exact cell_of_row w1 w.heap.size i cs ty (0, 0) (h1.trans (heap_alloc_new w _))
set_option maxRecDepth 100000 in
set_option maxHeartbeats 800000 in
theorem naming_do (s t : ByteArray) (f : Int) (hf : f = -1 ∨ 0 ≤ f) (b n : Nat) (D : DataW Unit) (w : World) (hown : NM w b n D) (hn : n ≤ 1048576) (hs : s.size ≤ maxLen) (ht : t.size ≤ maxLen) :
    Calls Try.prog 57 #[.agg #[.string s, .string t, pv f], .map (some b)] w fun e w' => e = .returned (.tuple #[]) ∧ NM w' b (n + 1) (nmDo D s t f) ∧ w.grownBy w' (some b) := by
  have hk1 := key_of s hs
  have hk2 := key_of t ht
  have HM := Lib.hid (show n < maxLen by unfold maxLen; omega)
  have HO := Lib.hid (fun ob => hown.alloc ob)
  have HB := Lib.hid (show b < w.heap.size from hown.lt)
  clear hown hn
  rcases hf with rfl | hf
  · have E : nmDo D s t (-1) = D.del (kl s) := by unfold nmDo; rw [if_pos (by decide)]
    rw [E, pv_nil]
    clear E
    go_enter Try.func57, Try.ntmps57
    go_wp2_with (at_delete; go_must (refine wpList_delete_own _ rfl _ _ 61 9 rfl 68 mapLaw underNames ptrElem b n D rfl (HO.out _) _ _ rfl hk1 ?_; intro w1 hown1 hturn1; have q2 : w1.cell? ⟨w.heap.size, 2, none⟩ = some (.pointer none) := box_kept hturn1.grown HB.out 2))
    go_end0
    exact ⟨rfl, hown1.mono (by omega), (World.grownBy_alloc w _ _).trans hturn1.grown⟩
  · obtain ⟨m, rfl⟩ := Int.eq_ofNat_of_zero_le hf
    have E : nmDo D s t (m : Int) = (D.del (kl s)).put (kl t) (fd (m : Int)) := by unfold nmDo; rw [if_neg (by omega)]
    rw [E, pv_at]
    clear E hf
    go_enter Try.func57, Try.ntmps57
    go_wp2_with (first
      | (at_delete; go_must (refine wpList_delete_own _ rfl _ _ 61 9 rfl 68 mapLaw underNames ptrElem b n D rfl (HO.out _) _ _ rfl hk1 ?_; intro w1 hown1 hturn1; have q2 : w1.cell? ⟨w.heap.size, 2, none⟩ = some (.pointer (some ⟨m, 0, none⟩)) := box_kept hturn1.grown HB.out 2; have q1 : w1.cell? ⟨w.heap.size, 1, none⟩ = some (.string t) := box_kept hturn1.grown HB.out 1))
      | (at_mapUpdate; go_must (refine wpList_mapUpdate_own _ rfl _ _ _ 61 rfl 9 68 mapLaw underNames ptrElem b n _ rfl hown1 HM.out _ _ (kl t) rfl rfl hk2 (fd (m : Int)) [] (ptrElem_at m) ?_; intro w2 hown2 hgrow2)))
    go_end0
    exact ⟨rfl, hown2, ((World.grownBy_alloc w _ _).trans hturn1.grown).trans hgrow2⟩
end Go.Proofs.Ytlddmgofjeibaaa
