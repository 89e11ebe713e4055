/- A medium's calls, where nothing stands against them: New, Create. It proves no statement. -/
import Derived.Test.YtlkkkifilgnhmaaMdCrash
import Derived.Test.YtlkkkifilgnhmaaMdAll
namespace Go.Proofs.Ytlkkkifilgnhmaa
open Go.RowKit Go.Maps Go.WideMaps Go.Sort
set_option linter.unusedVariables false
set_option linter.unusedSimpArgs false

theorem ownSize {w : World} {base : Nat} {own : Own} (h : ∀ b, own b ≠ none → base ≤ b ∧ b < w.heap.size) {b : Nat} (hb : w.heap.size ≤ b) : own b = none := by
  cases hq : own b with
  | none => rfl
  | some q => have := (h b (by rw [hq]; simp)).2; omega
/-- A medium that is new. -/
def Me.new (room : Int) : Me := { room := room, left := -1, off := false, now := [], fast := [], wait := [], fs := fun _ => none, cnt := 0 }
theorem Me.new_ok {room : Int} (h : 0 ≤ room ∧ room ≤ 16777216) : (Me.new room).ok where
  rn := Rising.nil
  rf := Rising.nil
  ff := fun p hp => by cases hp
  fw := fun x hx => by cases hx
  eq := rfl
  room := h
  left := ⟨by show (-1 : Int) ≤ -1; omega, by show (-1 : Int) ≤ 9223372036854775807; omega⟩
  len := Nat.le_refl _
theorem new_I (room : Int) (w : World) (h : 0 ≤ room ∧ room ≤ 16777216) :
    Calls Try.prog 13 #[.int .i64 room] w fun e w' => ∃ g own, e = .returned (.tuple #[.pointer (some ⟨g, 0, none⟩), .int .i64 0]) ∧ w.heap.size ≤ g ∧ MedI w' w.heap.size own g (Me.new room) ∧ Still w w' := by
  refine (new_yes room w h).mono ?_
  rintro e w' ⟨g, bn, bf, he, m, n1, n2, l1, l2, l3, hne, s⟩
  have hgb := nm_ne n1 m
  have hgf := nm_ne n2 m
  refine ⟨g, fun b => if b = g then some (g, 0) else if b = bn then some (g, 1) else if b = bf then some (g, 2) else none, he, l3, ⟨⟨bn, bf, .slice none 0 0, [], 0, 0, m, n1, n2, Nat.le_refl _, Nat.le_refl _, World.ownsRow_nil _ _ _ _, HasN.nil, Nat.le_refl _, if_pos rfl, ?_, ?_, (fun b hb => by simp [Value.ownBlock] at hb)⟩, (fun gf F hF => by cases hF), ?_, s.size, rfl⟩, s⟩
  · show (if bn = g then some (g, 0) else if bn = bn then some (g, 1) else if bn = bf then some (g, 2) else none) = _
    rw [if_neg hgb, if_pos rfl]
  · show (if bf = g then some (g, 0) else if bf = bn then some (g, 1) else if bf = bf then some (g, 2) else none) = _
    rw [if_neg hgf, if_neg (fun e => hne e.symm), if_pos rfl]
  · intro b hb
    change (if b = g then some (g, 0) else if b = bn then some (g, 1) else if b = bf then some (g, 2) else none) ≠ none at hb
    split at hb
    · rename_i e; subst e; exact ⟨l3, Blk.lt m⟩
    · split at hb
      · rename_i e; subst e; exact ⟨l1, n1.lt⟩
      · split at hb
        · rename_i e; subst e; exact ⟨l2, n2.lt⟩
        · exact absurd rfl hb
def stepL (left : Int) : Int := (stepR left false).1
theorem stepL_ok {left : Int} (h : -1 ≤ left ∧ left ≤ 9223372036854775807) (h0 : left ≠ 0) : -1 ≤ stepL left ∧ stepL left ≤ 9223372036854775807 := by
  unfold stepL stepR
  rw [if_neg h0]
  split
  · simp only; omega
  · exact h
theorem nmSteps_snoc (N : NT) (X : List (ByteArray × ByteArray × Int)) (x : ByteArray × ByteArray × Int) : nmSteps N (X ++ [x]) = nmStep (nmSteps N X) x := by simp [nmSteps, List.foldl_append]
/-- A change of names. -/
def Me.link (M : Me) (x : ByteArray × ByteArray × Int) (fs : Nat → Option Fi) : Me := { M with left := stepL M.left, now := nmStep M.now x, wait := M.wait ++ [x], fs := fs, cnt := M.cnt + 1 }
theorem Me.link_ok {M : Me} (h : M.ok) (h0 : M.left ≠ 0) (x : ByteArray × ByteArray × Int) (fs : Nat → Option Fi) (hfs : ∀ gf F, M.fs gf = some F → ∃ G, fs gf = some G) (hx : 0 ≤ x.2.2 → ∃ F, fs x.2.2.toNat = some F) : (M.link x fs).ok where
  rn := h.rn.step x
  rf := h.rf
  ff := fun p hp => by obtain ⟨F, hF⟩ := h.ff p hp; exact hfs _ F hF
  fw := fun y hy h1 => by
    rcases List.mem_append.1 hy with hy | hy
    · obtain ⟨F, hF⟩ := h.fw y hy h1; exact hfs _ F hF
    · have : y = x := by simpa using hy
      subst this
      exact hx h1
  eq := by show nmStep M.now x = nmSteps M.fast (M.wait ++ [x]); rw [nmSteps_snoc, h.eq]
  room := h.room
  left := stepL_ok h.left h0
  len := by have := h.len; show M.fast.length + (M.wait ++ [x]).length ≤ M.cnt + 1; rw [List.length_append]; simp; omega
/-- What a change of names leaves in memory. -/
theorem link_dir {w w' : World} {base g bn bf nn nf : Nat} {own own' : Own} {M : Me} {wv wv' : Value} {ns : List Value} {x : ByteArray × ByteArray × Int} {fs : Nat → Option Fi}
    (d3 : NM w bf nf (nmD M.fast)) (d4 : nn ≤ M.cnt) (d5 : nf + M.wait.length ≤ M.cnt) (d7 : HasN M.wait ns) (d8 : M.wait.length ≤ M.cnt) (d9 : own g = some (g, 0)) (d10 : own bn = some (g, 1)) (d11 : own bf = some (g, 2)) (d12 : ∀ b, wv.ownBlock = some b → own b = some (g, 3)) (hb : bn ≠ bf) (hd1 : MedB w g M.room bn bf wv M.left M.off) (hd6 : w.ownsRow base 72 3 wv M.wait.length ns)
    (m : MedB w' g M.room bn bf wv' (stepL M.left) M.off) (r : w'.ownsRow base 72 3 wv' (M.wait.length + 1) (ns ++ nmL x.1 x.2.1 x.2.2)) (q : NM w' bn (nn + 1) (nmDo (nmD M.now) x.1 x.2.1 x.2.2)) (c : Chg w w' (fun y => y = g ∨ y = bn ∨ wv.ownBlock = some y)) (loc : wv'.ownBlock = wv.ownBlock ∨ ∃ j, wv'.ownBlock = some j ∧ w.heap.size ≤ j)
    (hx1 : x.1.size ≤ maxLen) (hx2 : x.2.1.size ≤ maxLen) (hx3 : x.2.2 = -1 ∨ 0 ≤ x.2.2) (o1 : ∀ b, b < w.heap.size → own' b = own b) (o3 : ∀ b, w.heap.size ≤ b → wv'.ownBlock = some b → own' b = some (g, 3)) (hlt : g < w.heap.size ∧ bn < w.heap.size ∧ bf < w.heap.size) :
    DirI w' base own' g (M.link x fs) := by
  rw [nmDo_nm] at q
  have hl : (M.wait ++ [x]).length = M.wait.length + 1 := by simp
  refine ⟨bn, bf, wv', _, nn + 1, nf, m, q, c.nm d3 ?_, by show nn + 1 ≤ M.cnt + 1; omega, by show nf + (M.wait ++ [x]).length ≤ M.cnt + 1; omega, by show w'.ownsRow base _ 3 wv' (M.wait ++ [x]).length _; rw [hl]; exact r, d7.snoc x.1 x.2.1 x.2.2 hx1 hx2 hx3, by show (M.wait ++ [x]).length ≤ M.cnt + 1; omega, by rw [o1 g hlt.1]; exact d9, by rw [o1 bn hlt.2.1]; exact d10, by rw [o1 bf hlt.2.2]; exact d11, ?_⟩
  · rintro (e | e | e)
    · rw [e, d9] at d11; simp at d11
    · exact hb e.symm
    · rw [d12 bf e] at d11; simp at d11
  · intro b hbk
    rcases loc with h | ⟨j, h, hj⟩
    · rw [h] at hbk
      rw [o1 b (hd6.lt b hbk).2]
      exact d12 b hbk
    · rw [h] at hbk
      injection hbk with hbk
      subst hbk
      exact o3 _ hj h
theorem create_I {w : World} {base g : Nat} {own : Own} {M : Me} (s : ByteArray) (h : MedI w base own g M) (hok : M.ok) (hoff : M.off = false) (hl0 : M.left ≠ 0) (hcnt : M.cnt ≤ 900000) (hs : s.size ≤ maxLen) (hnm : nmOK s.data.toList = true) (hno : nFind M.now s.data.toList = none) (hsz : M.now.length < 500) :
    Calls Try.prog 22 #[.pointer (some ⟨g, 0, none⟩), .string s] w fun e w' => e = .returned (.int .i64 0) ∧ Chg w w' (fun b => own b ≠ none) ∧ ∃ (own' : Own) (gf : Nat), (∀ b, b < w.heap.size → own' b = own b) ∧ M.fs gf = none ∧ w.heap.size ≤ gf ∧ MedI w' base own' g (M.link (⟨#[]⟩, s, (gf : Int)) (upd M.fs gf ⟨[], [], []⟩)) := by
  obtain ⟨⟨bn, bf, wv, ns, nn, nf, d1, d2, d3, d4, d5, d6, d7, d8, d9, d10, d11, d12⟩, hfi, hdom, hlow, hnog⟩ := h
  have hlt : g < w.heap.size ∧ bn < w.heap.size ∧ bf < w.heap.size := ⟨Blk.lt d1, d2.lt, d3.lt⟩
  have hbb : bn ≠ bf := fun e => by rw [e, d11] at d10; simp at d10
  have d1' := d1
  rw [hoff] at d1
  refine (create_ok d1 hok.left.2 hl0 s nn M.wait.length base (nmD M.now) ns d2 (by omega) hs d6 (by omega) hlow hnm (by rw [look_nm, hno]) (by rw [size_nm]; exact hsz)).mono ?_
  rintro e w' ⟨he, gf, wv', hgf, fb, m, r, q, c, loc⟩
  have hwv : ∀ b, w.heap.size ≤ b → wv'.ownBlock = some b → (fun b => if b = gf then some (gf, 0) else if w.heap.size ≤ b ∧ wv'.ownBlock = some b then some (g, 3) else own b) b = some (g, 3) := by
    intro b hb hw
    show (if b = gf then some (gf, 0) else if w.heap.size ≤ b ∧ wv'.ownBlock = some b then some (g, 3) else own b) = _
    rw [if_neg (fun e => own_neM fb r (by decide) (by rw [hw, e])), if_pos ⟨hb, hw⟩]
  have ho : ∀ b, b < w.heap.size → (fun b => if b = gf then some (gf, 0) else if w.heap.size ≤ b ∧ wv'.ownBlock = some b then some (g, 3) else own b) b = own b := by
    intro b hb
    show (if b = gf then some (gf, 0) else if w.heap.size ≤ b ∧ wv'.ownBlock = some b then some (g, 3) else own b) = _
    rw [if_neg (by omega), if_neg (fun e => by omega)]
  have hcS : ∀ b, (b = g ∨ b = bn ∨ wv.ownBlock = some b) → ∃ k, own b = some (g, k) := by
    rintro b (rfl | rfl | e)
    · exact ⟨0, d9⟩
    · exact ⟨1, d10⟩
    · exact ⟨3, d12 b e⟩
  have hfg : M.fs gf = none := by
    cases hq : M.fs gf with
    | none => rfl
    | some F => have := (hfi gf F hq).2.2.2.lt; omega
  refine ⟨he, c.mono (fun b _ hs => by obtain ⟨k, hk⟩ := hcS b hs; rw [hk]; simp), _, gf, ho, hfg, hgf, ?_, ?_, ?_, ?_, ?_⟩
  · have m' : MedB w' g M.room bn bf wv' (stepL M.left) M.off := by rw [hoff]; exact m
    exact link_dir (fs := upd M.fs gf ⟨[], [], []⟩) (x := (⟨#[]⟩, s, (gf : Int))) d3 d4 d5 d7 d8 d9 d10 d11 d12 hbb d1' d6 m' r q c loc (by show (⟨#[]⟩ : ByteArray).size ≤ maxLen; decide) hs (.inr (by show (0 : Int) ≤ gf; omega)) ho hwv hlt
  · refine hfi.turn c gf ?_ ho ⟨[], [], []⟩ ⟨Nat.le_trans hlow hgf, ⟨rfl, ChOK.nil (by simp)⟩, by simp, .slice none 0 0, .slice none 0 0, .slice none 0 0, [], fb, World.ownsRow_nil _ _ _ _, World.ownsRow_nil _ _ _ _, World.ownsRow_nil _ _ _ _, HasC.nil _ _ _, if_pos rfl, fun b hb => by simp [Value.ownBlock] at hb, fun b hb => by simp [Value.ownBlock] at hb, fun b hb => by simp [Value.ownBlock] at hb⟩
    intro b x k hs hx hfs e
    obtain ⟨k2, hk2⟩ := hcS b hs
    rw [hk2] at e
    simp at e
    rw [← e.1] at hfs
    exact hfs hnog
  · intro b hb
    change (if b = gf then some (gf, 0) else if w.heap.size ≤ b ∧ wv'.ownBlock = some b then some (g, 3) else own b) ≠ none at hb
    split at hb
    · rename_i e; subst e; exact ⟨Nat.le_trans hlow hgf, Blk.lt fb⟩
    · split at hb
      · rename_i e; exact r.lt b e.2
      · have := hdom b hb; have := c.size; omega
  · exact Nat.le_trans hlow c.size
  · show upd M.fs gf _ g = none
    rw [upd_other _ _ (by omega)]
    exact hnog
end Go.Proofs.Ytlkkkifilgnhmaa
