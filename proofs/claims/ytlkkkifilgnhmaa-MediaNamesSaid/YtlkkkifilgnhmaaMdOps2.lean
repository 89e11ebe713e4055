/- A medium's calls, where nothing stands against them: Append, Sync, SyncDir, All. It proves no statement. -/
import Derived.Test.YtlkkkifilgnhmaaMdOps1
namespace Go.Proofs.Ytlkkkifilgnhmaa
open Go.RowKit Go.Maps Go.WideMaps Go.Sort
set_option linter.unusedVariables false
set_option linter.unusedSimpArgs false

/-- How many bytes a file has. -/
def Me.sz (M : Me) (f : Int) : Nat := match M.fs f.toNat with | some F => F.now.length | none => 0
def Me.used (M : Me) : Nat := usedOf M.sz (nmD M.now)
theorem sized_I {w : World} {base g : Nat} {own : Own} {M : Me} (h : MedI w base own g M) (hok : M.ok) : Sized w (nmD M.now) M.sz := by
  intro p hp
  obtain ⟨q, hq, rfl⟩ := List.mem_map.1 (show p ∈ M.now.map fun p => (Lit.string p.1, fd (p.2 : Int)) from hp)
  obtain ⟨F, hF⟩ : ∃ F, M.fs q.2 = some F := by
    have h1 := hok.eq
    rw [h1] at hq
    exact steps_files hok.ff hok.fw q hq
  obtain ⟨nv, fv, wv, cs, h1, h2, _⟩ := (h.files q.2 F hF).2.2.2
  obtain ⟨A, c, rfl, _⟩ := own_form h2
  refine ⟨q.2, rfl, A, c, fv, wv, ?_⟩
  have : M.sz (q.2 : Int) = F.now.length := by unfold Me.sz; simp [hF]
  rw [this]
  exact h1
/-- A file's bytes changed. -/
def Fi.wrote (F : Fi) (c : Ch) : Fi := ⟨c.app F.now, F.fast, F.wait ++ [c]⟩
theorem Fi.wrote_ok {F : Fi} (h : F.ok) (c : Ch) (h1 : c.fin ≤ F.now.length) (h2 : c.more = [] ∨ c.fin = F.now.length) (h3 : c.fin + c.more.length ≤ 16777216) : (F.wrote c).ok := by
  refine ⟨?_, ?_⟩
  · show c.app F.now = appAll F.fast (F.wait ++ [c])
    rw [appAll_snoc, ← h.1]
    rfl
  · exact h.2.snoc c (by rw [← h.1]; exact h1) (by rw [← h.1]; exact h2) h3
def Me.wrote (M : Me) (gf : Nat) (F : Fi) : Me := { M with left := stepL M.left, fs := upd M.fs gf F, cnt := M.cnt + 1 }
theorem Me.wrote_ok {M : Me} (h : M.ok) (h0 : M.left ≠ 0) (gf : Nat) (F : Fi) : (M.wrote gf F).ok where
  rn := h.rn
  rf := h.rf
  ff := fun p hp => by obtain ⟨G, hG⟩ := h.ff p hp; exact upd_some hG
  fw := fun y hy h1 => by obtain ⟨G, hG⟩ := h.fw y hy h1; exact upd_some hG
  eq := h.eq
  room := h.room
  left := stepL_ok h.left h0
  len := by have := h.len; show M.fast.length + M.wait.length ≤ M.cnt + 1; omega
theorem look_found {N : NT} {s : ByteArray} {gf : Nat} (h : nFind N s.data.toList = some gf) : look (nmD N) s = (gf : Int) := by rw [look_nm, h]
set_option maxHeartbeats 800000 in
theorem append_I {w : World} {base g : Nat} {own : Own} {M : Me} (s : ByteArray) (gf : Nat) (F : Fi) (A : Option Addr) (m c B : Nat) (x : List UInt8) (h : MedI w base own g M) (hok : M.ok) (hoff : M.off = false) (hl0 : M.left ≠ 0) (hs : s.size ≤ maxLen) (hlk : nFind M.now s.data.toList = some gf) (hF : M.fs gf = some F) (hk : F.wait.length < 1000000)
    (hr : Reads w B A m x) (hB : B ≤ w.heap.size) (hA : A = none → m = 0 ∧ c = 0) (hu : M.used ≤ 35184372088832) (hroom : (m : Int) + M.used ≤ M.room) (hfm : F.now.length + m ≤ 16777216) :
    Calls Try.prog 23 #[.pointer (some ⟨g, 0, none⟩), .string s, .slice A m c] w fun e w' => e = .returned (.int .i64 0) ∧ Chg w w' (fun b => own b ≠ none) ∧ ∃ own' : Own, (∀ b, b < w.heap.size → own' b = own b) ∧ MedI w' base own' g (M.wrote gf (F.wrote ⟨F.now.length, x⟩)) := by
  have hsz := sized_I h hok
  obtain ⟨hdir, hfi, hdom, hlow, hnog⟩ := h
  have hdir2 := hdir
  obtain ⟨bn, bf, wv, ns, nn, nf, d1, d2, d3, d4, d5, d6, d7, d8, d9, d10, d11, d12⟩ := hdir
  obtain ⟨q1, q2, q3, nv, fv, wtv, cs, f1, f2, f3, f4, f5, f6, f7, f8, f9⟩ := hfi gf F hF
  have hgg : gf ≠ g := fun e => by rw [e, hnog] at hF; cases hF
  have hgl := Blk.lt f1
  have d1' := d1
  rw [hoff] at d1
  refine (append_ok d1 hok.left.2 hl0 s hs nn (nmD M.now) d2 M.sz hsz gf F.now.length base F.wait.length nv fv wtv F.now x cs A m c B (look_found hlk) f1 f2 f4 hlow hr hB hA (by omega) (by omega) hu hroom hok.room.2).mono ?_
  rintro e w' ⟨he, nv', wtv', cv, m1, fb, r1, r2, r3, ch, l1, l2, l3⟩
  have hxl : x.length = m := hr.1
  have hgs : ∀ b, wrS g gf nv wtv b → b = g ∨ ∃ k, own b = some (gf, k) := by
    rintro b (h | h | h | h)
    · exact .inl h
    · exact .inr ⟨0, by rw [h]; exact f6⟩
    · exact .inr ⟨1, f7 b h⟩
    · exact .inr ⟨3, f9 b h⟩
  have hcm : ∀ b, wrS g gf nv wtv b → own b ≠ none := by
    intro b hb
    rcases hgs b hb with rfl | ⟨k, hk⟩
    · rw [d9]; simp
    · rw [hk]; simp
  obtain ⟨own', ho⟩ : ∃ own' : Own, own' = fun b => if w.heap.size ≤ b ∧ nv'.ownBlock = some b then some (gf, 1) else if w.heap.size ≤ b ∧ wtv'.ownBlock = some b then some (gf, 3) else if cv.ownBlock = some b then some (gf, 4 + F.wait.length) else own b := ⟨_, rfl⟩
  have hold : ∀ b, b < w.heap.size → own' b = own b := by
    intro b hb
    rw [ho]
    show (if _ then _ else if _ then _ else if _ then _ else own b) = _
    rw [if_neg (fun e => by omega), if_neg (fun e => by omega), if_neg (fun e => by have := (r3.lt b e).1; omega)]
  have hcv : ∀ b, cv.ownBlock = some b → own' b = some (gf, 4 + F.wait.length) := by
    intro b hb
    rw [ho]
    show (if _ then _ else if _ then _ else if _ then _ else own b) = _
    rw [if_neg (fun e => l3 b e.2 hb), if_neg (fun e => own_own_ne r3 r2 (by decide) b hb e.2), if_pos hb]
  have hnv : ∀ b, nv'.ownBlock = some b → own' b = some (gf, 1) := by
    intro b hb
    rcases l1 with h | ⟨j, h, hj⟩
    · rw [h] at hb
      rw [hold b (f2.lt b hb).2]
      exact f7 b hb
    · have e : j = b := by rw [h] at hb; injection hb
      subst e
      rw [ho]
      show (if _ then _ else _) = _
      rw [if_pos ⟨hj, h⟩]
  have hwt : ∀ b, wtv'.ownBlock = some b → own' b = some (gf, 3) := by
    intro b hb
    rcases l2 with h | ⟨j, h, hj⟩
    · rw [h] at hb
      rw [hold b (f4.lt b hb).2]
      exact f9 b hb
    · have e : j = b := by rw [h] at hb; injection hb
      subst e
      rw [ho]
      show (if _ then _ else if _ then _ else _) = _
      rw [if_neg (fun e => own_own_ne r1 r2 (by decide) j e.2 h), if_pos ⟨hj, h⟩]
  have hdm : ∀ b, own' b ≠ none → base ≤ b ∧ b < w'.heap.size := by
    intro b hb
    rw [ho] at hb
    change (if _ then _ else if _ then _ else if _ then _ else own b) ≠ none at hb
    split at hb
    · rename_i e; exact r1.lt b e.2
    · split at hb
      · rename_i e; exact r2.lt b e.2
      · split at hb
        · rename_i e; exact ⟨Nat.le_trans hlow (r3.lt b e).1, (r3.lt b e).2⟩
        · have := hdom b hb; have := ch.size; omega
  clear ho
  refine ⟨he, ch.mono (fun b _ hb => hcm b hb), own', hold, ⟨?_, ?_, hdm, Nat.le_trans hlow ch.size, ?_⟩⟩
  · have hg' : ∀ b k, own b = some (g, k) → b ≠ g → ¬ wrS g gf nv wtv b := by
      intro b k hb hne hs
      rcases hgs b hs with h | ⟨q, hq⟩
      · exact hne h
      · rw [hb] at hq; simp at hq; exact hgg hq.1.symm
    have hbg : bn ≠ g := nm_ne d2 d1
    have hfg : bf ≠ g := nm_ne d3 d1
    have m2 : MedB w' g M.room bn bf wv (stepL M.left) M.off := by rw [hoff]; exact m1
    refine ⟨bn, bf, wv, ns, nn, nf, m2, ch.nm d2 (hg' bn 1 d10 hbg), ch.nm d3 (hg' bf 2 d11 hfg), by show nn ≤ M.cnt + 1; omega, by show nf + M.wait.length ≤ M.cnt + 1; omega, ch.own d6 (fun b hb => hg' b 3 (d12 b hb) (fun e => own_neM d1 d6 (by decide) (by rw [hb, e]))), d7, by show M.wait.length ≤ M.cnt + 1; omega, by rw [hold g (Blk.lt d1)]; exact d9, by rw [hold bn d2.lt]; exact d10, by rw [hold bf d3.lt]; exact d11, fun b hb => by rw [hold b (d6.lt b hb).2]; exact d12 b hb⟩
  · refine hfi.turn ch gf ?_ hold _ ⟨q1, Fi.wrote_ok q2 _ (Nat.le_refl _) (.inr rfl) (by show F.now.length + x.length ≤ 16777216; omega), by show (F.wait ++ [_]).length ≤ 1000000; simp; omega, ?_⟩
    · intro b y k hs hy hfs e
      rcases hgs b hs with h | ⟨q, hq⟩
      · rw [h, d9] at e; simp at e; rw [← e.1] at hfs; exact hfs hnog
      · rw [hq] at e; simp at e; exact hy e.1.symm
    · have ef : (F.wrote ⟨F.now.length, x⟩).now = F.now ++ x := by show F.now.take F.now.length ++ x = _; rw [List.take_length]
      have el : (F.wait ++ [(⟨F.now.length, x⟩ : Ch)]).length = F.wait.length + 1 := by simp
      have hns : ∀ b k, own b = some (gf, k) → k ≠ 0 → k ≠ 1 → k ≠ 3 → ¬ wrS g gf nv wtv b := by
        intro b k hb k0 k1 k3 hs
        rcases hs with h | h | h | h
        · rw [h, d9] at hb; simp at hb; exact hgg hb.1.symm
        · rw [h, f6] at hb; simp at hb; exact k0 hb.symm
        · rw [f7 b h] at hb; simp at hb; exact k1 hb.symm
        · rw [f9 b h] at hb; simp at hb; exact k3 hb.symm
      refine ⟨nv', fv, wtv', cs ++ [.int .i64 (F.now.length : Int), cv], fb, ?_, ch.own f3 (fun b hb => hns b 2 (f8 b hb) (by omega) (by omega) (by omega)), ?_, ?_, by rw [hold gf hgl]; exact f6, hnv, fun b hb => by rw [hold b (f3.lt b hb).2]; exact f8 b hb, hwt⟩
      · rw [ef, List.length_append, hxl]; exact r1
      · show w'.ownsRow base _ 2 wtv' (F.wait ++ [(⟨F.now.length, x⟩ : Ch)]).length _
        rw [el]; exact r2
      · have f5' : HasC w' base F.wait cs (fun j b => own' b = some (gf, 4 + j)) := by
          have f5a := f5.mono (G := fun j b => own b = some (gf, 4 + j) ∧ b < w.heap.size) (fun j b _ hb h => ⟨h, hb⟩)
          have f5b := f5a.keep ch (fun j b hb => hns b (4 + j) hb.1 (by omega) (by omega) (by omega))
          exact f5b.mono (fun j b _ _ h => by rw [hold b h.2]; exact h.1)
        exact f5'.snoc ⟨F.now.length, x⟩ cv (by rw [show (⟨F.now.length, x⟩ : Ch).more.length = m from hxl]; exact own_low r3 hlow) (fun b hb => hcv b hb)
  · show upd M.fs gf _ g = none
    rw [upd_other _ _ (fun e => hgg e.symm)]
    exact hnog
end Go.Proofs.Ytlkkkifilgnhmaa
