/- What MediaTears wants besides: fronts, numbers that came in, appends alone. It proves no statement. -/
import Derived.Test.YtlddmgofjeibaaaMdOps3
import Derived.Test.YtlddmgofjeibaaaMdLives
import Derived.Test.YtlddmgofjeibaaaSameAny
import Derived.Test.YtlddmgofjeibaaaRowsIn
namespace Go.Proofs.Ytlddmgofjeibaaa
open Go.RowKit Go.Maps Go.WideMaps Go.Sort
set_option linter.unusedVariables false
set_option linter.unusedSimpArgs false

/-- Each change lays bytes behind all that is there. -/
def AppOnly (b : List UInt8) (W : List Ch) : Prop := ∀ j c, W[j]? = some c → c.fin = (appAll b (W.take j)).length
theorem AppOnly.nil (b : List UInt8) : AppOnly b [] := fun j c h => by simp at h
theorem AppOnly.snoc {b : List UInt8} {W : List Ch} (h : AppOnly b W) (x : List UInt8) : AppOnly b (W ++ [⟨(appAll b W).length, x⟩]) := by
  intro j c hj
  by_cases hlt : j < W.length
  · rw [List.getElem?_append_left hlt] at hj
    rw [List.take_append_of_le_length (by omega)]
    exact h j c hj
  · have hl := (List.getElem?_eq_some_iff.1 hj).1
    have e : j = W.length := by simp at hl; omega
    subst e
    have : c = ⟨(appAll b W).length, x⟩ := by simpa using hj.symm
    subst this
    rw [List.take_left' rfl]
theorem AppOnly.step {b : List UInt8} {W : List Ch} (h : AppOnly b W) (j : Nat) (c : Ch) (hc : W[j]? = some c) : appAll b (W.take (j + 1)) = appAll b (W.take j) ++ c.more := by
  rw [appAll_step b W j c hc, List.take_of_length_le (by have := h j c hc; omega)]
theorem AppOnly.mono {b : List UInt8} {W : List Ch} (h : AppOnly b W) (j k : Nat) : appAll b (W.take j) <+: appAll b (W.take (j + k)) := by
  induction k with
  | zero => exact List.prefix_refl _
  | succ k ih =>
    refine ih.trans ?_
    cases hc : W[j + k]? with
    | none =>
      have := List.getElem?_eq_none_iff.1 hc
      rw [← Nat.add_assoc, List.take_of_length_le (show W.length ≤ j + k by omega), List.take_of_length_le (show W.length ≤ j + k + 1 by omega)]
      exact List.prefix_refl _
    | some c =>
      rw [← Nat.add_assoc, h.step (j + k) c hc]
      exact List.prefix_append _ _
theorem AppOnly.le {b : List UInt8} {W : List Ch} (h : AppOnly b W) {j k : Nat} (hjk : j ≤ k) : appAll b (W.take j) <+: appAll b (W.take k) := by
  have := h.mono j (k - j)
  rwa [show j + (k - j) = k by omega] at this
/-- What a crash leaves is a front of all, with all that was fast. -/
theorem crash_front {b : List UInt8} {W : List Ch} (h : AppOnly b W) (zs : List Int) : b <+: crashL b W zs ∧ crashL b W zs <+: appAll b W := by
  have h0 : b <+: appAll b (W.take (natN zs W.length)) := by
    have := h.le (Nat.zero_le (natN zs W.length))
    rwa [List.take_zero, appAll_nil] at this
  have hn := natN_le zs W.length
  unfold crashL tornOf
  refine ⟨h0.trans (List.prefix_append _ _), ?_⟩
  cases hc : W[natN zs W.length]? with
  | none =>
    simp only [List.take_nil, List.append_nil]
    have := h.le (show natN zs W.length ≤ W.length from hn)
    rwa [List.take_length] at this
  | some c =>
    simp only
    have hlt := (List.getElem?_eq_some_iff.1 hc).1
    have h1 : appAll b (W.take (natN zs W.length)) ++ c.more.take (natN zs.tail c.more.length) <+: appAll b (W.take (natN zs W.length + 1)) := by
      rw [h.step _ c hc]
      exact List.prefix_append_right_inj _ |>.2 (List.take_prefix _ _)
    have h2 := h.le (show natN zs W.length + 1 ≤ W.length from hlt)
    rw [List.take_length] at h2
    exact h1.trans h2
theorem readsI_of_row {w : World} {a : Option Addr} {len cap : Nat} {zs : List Int} (h : RowIn .i64 w a len cap zs) : ∃ ys, ReadsI w (fun b => b < w.heap.size) a len ys ∧ len ≤ cap ∧ cap ≤ 9223372036854775807 ∧ (a = none → len = 0 ∧ cap = 0) := by
  rcases h with ⟨rfl, rfl, rfl, rfl⟩ | ⟨x, rfl, hl, hm, hz, hc, hw⟩
  · exact ⟨[], ⟨rfl, fun h => absurd h (by omega)⟩, by omega, by omega, fun _ => ⟨rfl, rfl⟩⟩
  · refine ⟨zs.take len, ⟨by simp; omega, fun hn => ?_⟩, hl, by unfold maxLen at hm; omega, fun e => by cases e⟩
    obtain ⟨b, o, sp⟩ := x
    have h0 := hc 0 (by omega)
    have hsp : sp = none := by simpa [Addr.add] using World.cell?_spot h0
    subst hsp
    have hbl : b < w.heap.size := by simpa [Addr.add] using World.block_lt_of_cell? w _ h0
    refine ⟨b, o, rfl, hbl, hbl, fun i hi => ?_⟩
    have hi' := hc i (by omega)
    rw [Addr.add_lit] at hi'
    rw [hi']
    simp [List.getD, hi, show i < zs.length by omega]
theorem ReadsI.front {w : World} {B : Nat → Prop} {n k : Nat} {A : Option Addr} {zs : List Int} (h : ReadsI w B A n zs) (hk : k ≤ n) : ReadsI w B A k (zs.take k) := by
  refine ⟨by rw [List.length_take, h.1]; omega, fun hk0 => ?_⟩
  obtain ⟨b, o, e, hb, hbl, hc⟩ := h.2 (by omega)
  refine ⟨b, o, e, hb, hbl, fun i hi => ?_⟩
  rw [hc i (by omega)]
  have hz := h.1
  simp [List.getD, List.getElem?_take, hi]
/-- A row of numbers, cut. -/
theorem numbers_k (A : Option Addr) (n c k : Nat) (w : World) (hk : 1 ≤ k) (hc : n ≤ c) (hm : c ≤ 9223372036854775807) (hA : 0 < n → ∃ b o, A = some ⟨b, o, none⟩) :
    Calls Try.prog 14 #[.slice A n c, .int .i64 (k : Nat)] w fun e w' => e = .returned (.slice A (min n k) c) ∧ w = w' := by
  by_cases hlt : k < n
  · obtain ⟨b, o, rfl⟩ := hA (by omega)
    have hmin : min n k = k := by omega
    have hck : k ≤ c := by omega
    rw [hmin]
    go_enter Try.func14, Try.ntmps14
    go_wp2
    go_ret
    exact ⟨rfl, rfl⟩
  · have hmin : min n k = n := by omega
    rw [hmin]
    go_enter Try.func14, Try.ntmps14
    go_wp2
    go_ret
    exact ⟨rfl, rfl⟩
/-- A front is told to be one. -/
theorem begins_yes (A A' : Option Addr) (n n' c c' : Nat) (l l' : List UInt8) (w : World) (B B' : Nat) (h : Reads w B A n l) (h' : Reads w B' A' n' l') (hp : l <+: l') (hn : n' ≤ 70368744177664) (hc : n' ≤ c') (hcm : c' ≤ 9223372036854775807) :
    Calls Try.prog 26 #[.slice A n c, .slice A' n' c'] w fun e w' => e = .returned (.bool true) ∧ Still w w' := by
  have hl : n ≤ n' := by rw [← h.1, ← h'.1]; exact hp.length_le
  have hr := h'.takek (k := n) hl
  have e1 : l'.take n = l := by rw [← h.1]; exact (List.prefix_iff_eq_take.1 hp).symm
  rw [e1] at hr
  have SM := Lib.hid (fun c' => same_any A A' n n c c' l l w B B' h hr (by omega) (by omega))
  simp only [decide_true] at SM
  have z1 : (n : Int) ≤ (n' : Int) := by omega
  have z2 : (0 : Int) ≤ (n : Int) := by omega
  have z3 : (n : Int) ≤ (c' : Int) := by omega
  have z4 : n ≤ c' := by omega
  clear h h' hr e1 hp
  go_enter Try.func26, Try.ntmps26
  go_wp2_with fail
  refine (SM.out _).mono ?_
  rintro e w1 ⟨rfl, s1⟩
  go_wp2_with fail
  go_ret
  exact ⟨rfl, s1⟩
theorem a_first (gf : Nat) : nmStep [] (⟨#[]⟩, ⟨#[97]⟩, (gf : Int)) = [([97], gf)] := by
  unfold nmStep
  rw [if_neg (by show ¬ ((gf : Int) < 0); omega)]
  rfl
theorem a_found (gf : Nat) : nFind [([97], gf)] [97] = some gf := rfl
theorem a_used {M : Me} {gf : Nat} {F : Fi} (h : M.now = [([97], gf)]) (hF : M.fs gf = some F) : M.used = F.now.length := by
  have hs : M.sz (gf : Int) = F.now.length := by unfold Me.sz; simp [hF]
  unfold Me.used usedOf
  rw [h]
  show sumL M.sz (fun _ => true) [(Lit.string [97], fd (gf : Int))] = _
  simp [sumL, fdOf, fd, hs]
end Go.Proofs.Ytlddmgofjeibaaa
