/- A medium in memory: whose block is whose; what stays when something turns. It proves no statement. -/
import Derived.Test.YtlkkkifilgnhmaaMdModel
import Derived.Test.YtlkkkifilgnhmaaMdSetM
namespace Go.Proofs.Ytlkkkifilgnhmaa
open Go.RowKit Go.Maps Go.WideMaps Go.Sort
set_option linter.unusedVariables false
set_option linter.unusedSimpArgs false

/-- A file: its bytes now, those that are fast, what waits. -/
structure Fi where
  now : List UInt8
  fast : List UInt8
  wait : List Ch
def Fi.ok (F : Fi) : Prop := F.now = appAll F.fast F.wait ∧ ChOK F.fast F.wait
/-- Whose a block is: a file's (or a medium's) and what of it; or nobody's. -/
abbrev Own := Nat → Option (Nat × Nat)
def FileI (w : World) (base : Nat) (own : Own) (gf : Nat) (F : Fi) : Prop :=
  ∃ nv fv wv cs, FileB w gf nv fv wv ∧ w.ownsRow base 5 1 nv F.now.length (bytesV F.now) ∧ w.ownsRow base 5 1 fv F.fast.length (bytesV F.fast) ∧ w.ownsRow base 84 2 wv F.wait.length cs ∧ HasC w base F.wait cs (fun j b => own b = some (gf, 4 + j)) ∧ own gf = some (gf, 0) ∧ (∀ b, nv.ownBlock = some b → own b = some (gf, 1)) ∧ (∀ b, fv.ownBlock = some b → own b = some (gf, 2)) ∧ (∀ b, wv.ownBlock = some b → own b = some (gf, 3))
section
variable {w w' : World} {base gf : Nat} {own own' : Own} {F : Fi} {S : Nat → Prop}
theorem FileI.lt (h : FileI w base own gf F) : gf < w.heap.size := by obtain ⟨nv, fv, wv, cs, h1, _⟩ := h; exact Blk.lt h1
theorem FileI.keep (h : FileI w base own gf F) (c : Chg w w' S) (hS : ∀ b k, S b → own b ≠ some (gf, k)) : FileI w' base own gf F := by
  obtain ⟨nv, fv, wv, cs, h1, h2, h3, h4, h5, h6, h7, h8, h9⟩ := h
  exact ⟨nv, fv, wv, cs, c.blk h1 (fun hs => hS _ _ hs h6), c.own h2 (fun b hb hs => hS _ _ hs (h7 b hb)), c.own h3 (fun b hb hs => hS _ _ hs (h8 b hb)), c.own h4 (fun b hb hs => hS _ _ hs (h9 b hb)), h5.keep c (fun j b hb hs => hS _ _ hs hb), h6, h7, h8, h9⟩
theorem FileI.reown (h : FileI w base own gf F) (ho : ∀ b, b < w.heap.size → own' b = own b) : FileI w base own' gf F := by
  obtain ⟨nv, fv, wv, cs, h1, h2, h3, h4, h5, h6, h7, h8, h9⟩ := h
  exact ⟨nv, fv, wv, cs, h1, h2, h3, h4, h5.mono (fun j b _ hb h => by rw [ho b hb]; exact h), by rw [ho _ (Blk.lt h1)]; exact h6, fun b hb => by rw [ho b (h2.lt b hb).2]; exact h7 b hb, fun b hb => by rw [ho b (h3.lt b hb).2]; exact h8 b hb, fun b hb => by rw [ho b (h4.lt b hb).2]; exact h9 b hb⟩
end
/-- All files. -/
def FilesI (w : World) (base : Nat) (own : Own) (fs : Nat → Option Fi) : Prop := ∀ gf F, fs gf = some F → base ≤ gf ∧ F.ok ∧ F.wait.length ≤ 1000000 ∧ FileI w base own gf F
def upd (fs : Nat → Option Fi) (gf : Nat) (F : Fi) : Nat → Option Fi := fun x => if x = gf then some F else fs x
theorem upd_same (fs : Nat → Option Fi) (gf : Nat) (F : Fi) : upd fs gf F gf = some F := if_pos rfl
theorem upd_other (fs : Nat → Option Fi) {gf x : Nat} (F : Fi) (h : x ≠ gf) : upd fs gf F x = fs x := if_neg h
theorem upd_some {fs : Nat → Option Fi} {gf x : Nat} {F G : Fi} (h : fs x = some G) : ∃ H, upd fs gf F x = some H := by
  by_cases e : x = gf
  · subst e; exact ⟨_, upd_same _ _ _⟩
  · exact ⟨G, by rw [upd_other _ _ e]; exact h⟩
theorem FilesI.keep {w w' : World} {base : Nat} {own : Own} {fs : Nat → Option Fi} {S : Nat → Prop} (h : FilesI w base own fs) (c : Chg w w' S) (hS : ∀ b gf k F, S b → fs gf = some F → own b ≠ some (gf, k)) : FilesI w' base own fs :=
  fun gf F hF => ⟨(h gf F hF).1, (h gf F hF).2.1, (h gf F hF).2.2.1, (h gf F hF).2.2.2.keep c (fun b k hs => hS b gf k F hs hF)⟩
theorem FilesI.turn {w w' : World} {base : Nat} {own own' : Own} {fs : Nat → Option Fi} {S : Nat → Prop} (h : FilesI w base own fs) (c : Chg w w' S) (gf : Nat) (hS : ∀ b x k, S b → x ≠ gf → fs x ≠ none → own b ≠ some (x, k)) (ho : ∀ b, b < w.heap.size → own' b = own b) (F : Fi) (hF : base ≤ gf ∧ F.ok ∧ F.wait.length ≤ 1000000 ∧ FileI w' base own' gf F) : FilesI w' base own' (upd fs gf F) := by
  intro x G hG
  by_cases e : x = gf
  · subst e
    rw [upd_same] at hG
    injection hG with hG
    subst hG
    exact hF
  · rw [upd_other _ _ e] at hG
    obtain ⟨h1, h2, h3, h4⟩ := h x G hG
    have h5 := h4.reown ho
    refine ⟨h1, h2, h3, FileI.keep (own := own') h5 (S := fun b => S b ∧ b < w.heap.size) (c.mono (fun b hb hs => ⟨hs, hb⟩)) (fun b k hs => ?_)⟩
    rw [ho b hs.2]
    exact hS b x k hs.1 e (by rw [hG]; simp)
/-- A medium, apart from its files: room, power, names, what waits. -/
structure Me where
  room : Int
  left : Int
  off : Bool
  now : NT
  fast : NT
  wait : List (ByteArray × ByteArray × Int)
  fs : Nat → Option Fi
  cnt : Nat
def DirI (w : World) (base : Nat) (own : Own) (g : Nat) (M : Me) : Prop :=
  ∃ bn bf wv ns nn nf, MedB w g M.room bn bf wv M.left M.off ∧ NM w bn nn (nmD M.now) ∧ NM w bf nf (nmD M.fast) ∧ nn ≤ M.cnt ∧ nf + M.wait.length ≤ M.cnt ∧ w.ownsRow base 72 3 wv M.wait.length ns ∧ HasN M.wait ns ∧ M.wait.length ≤ M.cnt ∧ own g = some (g, 0) ∧ own bn = some (g, 1) ∧ own bf = some (g, 2) ∧ (∀ b, wv.ownBlock = some b → own b = some (g, 3))
structure MedI (w : World) (base : Nat) (own : Own) (g : Nat) (M : Me) : Prop where
  dir : DirI w base own g M
  files : FilesI w base own M.fs
  dom : ∀ b, own b ≠ none → base ≤ b ∧ b < w.heap.size
  low : base ≤ w.heap.size
  nog : M.fs g = none
section
variable {w w' : World} {base g : Nat} {own own' : Own} {M : Me} {S : Nat → Prop}
theorem DirI.keep (h : DirI w base own g M) (c : Chg w w' S) (hS : ∀ b k, S b → own b ≠ some (g, k)) : DirI w' base own g M := by
  obtain ⟨bn, bf, wv, ns, nn, nf, h1, h2, h3, h4, h5, h6, h7, h8, h9, h10, h11, h12⟩ := h
  exact ⟨bn, bf, wv, ns, nn, nf, c.blk h1 (fun hs => hS _ _ hs h9), c.nm h2 (fun hs => hS _ _ hs h10), c.nm h3 (fun hs => hS _ _ hs h11), h4, h5, c.own h6 (fun b hb hs => hS _ _ hs (h12 b hb)), h7, h8, h9, h10, h11, h12⟩
theorem DirI.reown (h : DirI w base own g M) (ho : ∀ b, b < w.heap.size → own' b = own b) : DirI w base own' g M := by
  obtain ⟨bn, bf, wv, ns, nn, nf, h1, h2, h3, h4, h5, h6, h7, h8, h9, h10, h11, h12⟩ := h
  exact ⟨bn, bf, wv, ns, nn, nf, h1, h2, h3, h4, h5, h6, h7, h8, by rw [ho _ (Blk.lt h1)]; exact h9, by rw [ho _ h2.lt]; exact h10, by rw [ho _ h3.lt]; exact h11, fun b hb => by rw [ho b (h6.lt b hb).2]; exact h12 b hb⟩
theorem DirI.cong {M' : Me} (h : DirI w base own g M) (e1 : M'.room = M.room) (e2 : M'.left = M.left) (e3 : M'.off = M.off) (e4 : M'.now = M.now) (e5 : M'.fast = M.fast) (e6 : M'.wait = M.wait) (e7 : M.cnt ≤ M'.cnt) : DirI w base own g M' := by
  obtain ⟨bn, bf, wv, ns, nn, nf, h1, h2, h3, h4, h5, h6, h7, h8, h9⟩ := h
  exact ⟨bn, bf, wv, ns, nn, nf, by rw [e1, e2, e3]; exact h1, by rw [e4]; exact h2, by rw [e5]; exact h3, by omega, by rw [e6]; omega, by rw [e6]; exact h6, by rw [e6]; exact h7, by rw [e6]; omega, h9⟩
theorem MedI.keep (h : MedI w base own g M) (c : Chg w w' S) (hS : ∀ b, S b → own b = none) : MedI w' base own g M where
  dir := h.dir.keep c (fun b k hs e => by rw [hS b hs] at e; cases e)
  files := h.files.keep c (fun b gf k F hs _ e => by rw [hS b hs] at e; cases e)
  dom := fun b hb => ⟨(h.dom b hb).1, Nat.lt_of_lt_of_le (h.dom b hb).2 c.size⟩
  low := Nat.le_trans h.low c.size
  nog := h.nog
theorem MedI.still (h : MedI w base own g M) (s : Still w w') : MedI w' base own g M := h.keep (Chg.of_still s (fun _ => False)) (fun _ h => h.elim)
end
/-- What lies below is nobody's. -/
theorem MedI.below {w : World} {base g : Nat} {own : Own} {M : Me} (h : MedI w base own g M) : ∀ b, b < base → own b = none ∧ b < w.heap.size := fun b hp => by
  have hl := h.low
  refine ⟨?_, by omega⟩
  cases hq : own b with
  | none => rfl
  | some q => have := (h.dom b (by rw [hq]; simp)).1; omega
/-- A file behind a crash. -/
def Fi.crash (F : Fi) (zs : List Int) : Fi := ⟨crashL F.fast F.wait zs, crashL F.fast F.wait zs, []⟩
theorem Fi.crash_ok {F : Fi} (h : F.ok) (zs : List Int) : (F.crash zs).ok := ⟨rfl, ChOK.nil (crashL_len zs h.2)⟩
theorem fcrash_I {w : World} {base gf gl : Nat} {B : Nat → Prop} {own : Own} {F : Fi} {zs : List Int} (h : FileI w base own gf F) (hok : F.ok) (hb : base ≤ gf) (hw6 : F.wait.length ≤ 1000000) (hlow : base ≤ w.heap.size) (hdom : ∀ b, own b ≠ none → base ≤ b ∧ b < w.heap.size)
    (hT : TK w B gl zs) (hgl : own gl = none) (hB : ¬ B gl) (hBo : ∀ b, B b → own b = none ∧ b < w.heap.size) :
    Calls Try.prog 33 #[.pointer (some ⟨gf, 0, none⟩), .func (.func 48) #[] #[.pointer (some ⟨gl, 0, none⟩)]] w fun e w' => e = .returned (.tuple #[]) ∧ TK w' B gl zs.tail.tail ∧ Chg w w' (fun b => b = gl ∨ ∃ k, own b = some (gf, k)) ∧ ∃ own' : Own, (∀ b, b < w.heap.size → own' b = own b) ∧ (∀ b, own' b ≠ none → base ≤ b ∧ b < w'.heap.size) ∧ FileI w' base own' gf (F.crash zs) := by
  obtain ⟨nv, fv, wv, cs, h1, h2, h3, h4, h5, h6, h7, h8, h9⟩ := h
  refine (fcrash_any gf gl nv fv wv base B F.fast F.wait cs _ zs h1 h4 h5 h3 (fun b hb i e => by rw [h8 b hb] at e; simp at e; omega) (fun i e => by rw [h6] at e; simp at e; omega) (fun i e => by rw [hgl] at e; cases e) hlow hw6 hok.2 hT hB (fun b hb hp => by have := (hBo b hp).1; rw [h8 b hb] at this; cases this) (fun hp => by have := (hBo gf hp).1; rw [h6] at this; cases this) (fun b hp => (hBo b hp).2)).mono ?_
  rintro e w' ⟨he, nv', fv', g1, g2, g3, g4, g5, g6, g7⟩
  have hsz := g5.size
  refine ⟨he, g4, g5.mono ?_, fun b => if nv'.ownBlock = some b then some (gf, 1) else if fv'.ownBlock = some b then some (gf, 2) else own b, ?_, ?_, ?_⟩
  · rintro b hb (rfl | rfl | hs)
    · exact .inr ⟨0, h6⟩
    · exact .inl rfl
    · exact .inr ⟨2, h8 b hs⟩
  · intro b hb
    show (if nv'.ownBlock = some b then some (gf, 1) else if fv'.ownBlock = some b then some (gf, 2) else own b) = own b
    rw [if_neg (fun e => by have := (g2.lt b e).1; omega)]
    split
    · rename_i e
      rcases g6 with h | ⟨j, h, hj⟩
      · rw [h] at e; exact (h8 b e).symm
      · rw [h] at e; injection e with e; omega
    · rfl
  · intro b hb
    change (if nv'.ownBlock = some b then some (gf, 1) else if fv'.ownBlock = some b then some (gf, 2) else own b) ≠ none at hb
    split at hb
    · rename_i e; exact ⟨Nat.le_trans hlow (g2.lt b e).1, (g2.lt b e).2⟩
    · split at hb
      · rename_i e; exact g3.lt b e
      · have := hdom b hb; omega
  · have nsome : ∀ b, nv'.ownBlock = some b → (if nv'.ownBlock = some b then some (gf, 1) else if fv'.ownBlock = some b then some (gf, 2) else own b) = some (gf, 1) := fun b hb => if_pos hb
    refine ⟨nv', fv', .slice none 0 0, [], g1, own_low g2 hlow, g3, World.ownsRow_nil _ _ _ _, HasC.nil _ _ _, ?_, nsome, ?_, fun b hb => by simp [Value.ownBlock] at hb⟩
    · show (if nv'.ownBlock = some gf then some (gf, 1) else if fv'.ownBlock = some gf then some (gf, 2) else own gf) = _
      rw [if_neg (own_neM g1 g2 (by decide)), if_neg (own_neM g1 g3 (by decide))]
      exact h6
    · intro b hb
      show (if nv'.ownBlock = some b then some (gf, 1) else if fv'.ownBlock = some b then some (gf, 2) else own b) = _
      rw [if_neg (fun e => g7 b e hb), if_pos hb]
end Go.Proofs.Ytlkkkifilgnhmaa
