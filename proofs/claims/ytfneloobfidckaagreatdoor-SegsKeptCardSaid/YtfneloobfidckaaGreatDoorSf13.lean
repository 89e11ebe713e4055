/- Contracts and facts, several texts in one. It proves no statement. -/
import Derived.Test.YtfneloobfidckaaGreatDoorSf12

/- A medium's calls, where nothing stands against them: New, Create. It proves no statement. -/


namespace Go.Proofs.YtfneloobfidckaaGreatDoor
open Go.RowKit Go.Maps Go.WideMaps Go.Sort
set_option linter.unusedVariables false
set_option linter.unusedSimpArgs false

theorem ownSize {w : World} {base : Nat} {own : Own} (h : ∀ b, own b ≠ none → base ≤ b ∧ b < w.heap.size) {b : Nat} (hb : w.heap.size ≤ b) : own b = none := by
  cases hq : own b with
  | none => rfl
  | some q => have := (h b (by rw [hq]; simp)).2; omega
/-- A medium that is new. -/
def Me.new (room : Int) : Me := { room := room, left := -1, off := false, now := [], fast := [], wait := [], fs := fun _ => none, cnt := 0 }
theorem Me.new_ok {room : Int} (h : 0 ≤ room ∧ room ≤ 16777216) : (Me.new room).ok where
  rn := Rising.nil
  rf := Rising.nil
  ff := fun p hp => by cases hp
  fw := fun x hx => by cases hx
  eq := rfl
  room := h
  left := ⟨by show (-1 : Int) ≤ -1; omega, by show (-1 : Int) ≤ 9223372036854775807; omega⟩
  len := Nat.le_refl _
theorem new_I (room : Int) (w : World) (h : 0 ≤ room ∧ room ≤ 16777216) :
    Calls Tryz.prog 16 #[.int .i64 room] w fun e w' => ∃ g own, e = .returned (.tuple #[.pointer (some ⟨g, 0, none⟩), .int .i64 0]) ∧ w.heap.size ≤ g ∧ MedI w' w.heap.size own g (Me.new room) ∧ Still w w' := by
  refine (new_yes room w h).mono ?_
  rintro e w' ⟨g, bn, bf, he, m, n1, n2, l1, l2, l3, hne, s⟩
  have hgb := nm_ne n1 m
  have hgf := nm_ne n2 m
  refine ⟨g, fun b => if b = g then some (g, 0) else if b = bn then some (g, 1) else if b = bf then some (g, 2) else none, he, l3, ⟨⟨bn, bf, .slice none 0 0, [], 0, 0, m, n1, n2, Nat.le_refl _, Nat.le_refl _, World.ownsRow_nil _ _ _ _, HasN.nil, Nat.le_refl _, if_pos rfl, ?_, ?_, (fun b hb => by simp [Value.ownBlock] at hb)⟩, (fun gf F hF => by cases hF), ?_, s.size, rfl⟩, s⟩
  · show (if bn = g then some (g, 0) else if bn = bn then some (g, 1) else if bn = bf then some (g, 2) else none) = _
    rw [if_neg hgb, if_pos rfl]
  · show (if bf = g then some (g, 0) else if bf = bn then some (g, 1) else if bf = bf then some (g, 2) else none) = _
    rw [if_neg hgf, if_neg (fun e => hne e.symm), if_pos rfl]
  · intro b hb
    change (if b = g then some (g, 0) else if b = bn then some (g, 1) else if b = bf then some (g, 2) else none) ≠ none at hb
    split at hb
    · rename_i e; subst e; exact ⟨l3, Blk.lt m⟩
    · split at hb
      · rename_i e; subst e; exact ⟨l1, n1.lt⟩
      · split at hb
        · rename_i e; subst e; exact ⟨l2, n2.lt⟩
        · exact absurd rfl hb
def stepL (left : Int) : Int := (stepR left false).1
theorem stepL_ok {left : Int} (h : -1 ≤ left ∧ left ≤ 9223372036854775807) (h0 : left ≠ 0) : -1 ≤ stepL left ∧ stepL left ≤ 9223372036854775807 := by
  unfold stepL stepR
  rw [if_neg h0]
  split
  · simp only; omega
  · exact h
theorem nmSteps_snoc (N : NT) (X : List (ByteArray × ByteArray × Int)) (x : ByteArray × ByteArray × Int) : nmSteps N (X ++ [x]) = nmStep (nmSteps N X) x := by simp [nmSteps, List.foldl_append]
/-- A change of names. -/
def Me.link (M : Me) (x : ByteArray × ByteArray × Int) (fs : Nat → Option Fi) : Me := { M with left := stepL M.left, now := nmStep M.now x, wait := M.wait ++ [x], fs := fs, cnt := M.cnt + 1 }
theorem Me.link_ok {M : Me} (h : M.ok) (h0 : M.left ≠ 0) (x : ByteArray × ByteArray × Int) (fs : Nat → Option Fi) (hfs : ∀ gf F, M.fs gf = some F → ∃ G, fs gf = some G) (hx : 0 ≤ x.2.2 → ∃ F, fs x.2.2.toNat = some F) : (M.link x fs).ok where
  rn := h.rn.step x
  rf := h.rf
  ff := fun p hp => by obtain ⟨F, hF⟩ := h.ff p hp; exact hfs _ F hF
  fw := fun y hy h1 => by
    rcases List.mem_append.1 hy with hy | hy
    · obtain ⟨F, hF⟩ := h.fw y hy h1; exact hfs _ F hF
    · have : y = x := by simpa using hy
      subst this
      exact hx h1
  eq := by show nmStep M.now x = nmSteps M.fast (M.wait ++ [x]); rw [nmSteps_snoc, h.eq]
  room := h.room
  left := stepL_ok h.left h0
  len := by have := h.len; show M.fast.length + (M.wait ++ [x]).length ≤ M.cnt + 1; rw [List.length_append]; simp; omega
/-- What a change of names leaves in memory. -/
theorem link_dir {w w' : World} {base g bn bf nn nf : Nat} {own own' : Own} {M : Me} {wv wv' : Value} {ns : List Value} {x : ByteArray × ByteArray × Int} {fs : Nat → Option Fi}
    (d3 : NM w bf nf (nmD M.fast)) (d4 : nn ≤ M.cnt) (d5 : nf + M.wait.length ≤ M.cnt) (d7 : HasN M.wait ns) (d8 : M.wait.length ≤ M.cnt) (d9 : own g = some (g, 0)) (d10 : own bn = some (g, 1)) (d11 : own bf = some (g, 2)) (d12 : ∀ b, wv.ownBlock = some b → own b = some (g, 3)) (hb : bn ≠ bf) (hd1 : MedB w g M.room bn bf wv M.left M.off) (hd6 : w.ownsRow base 263 3 wv M.wait.length ns)
    (m : MedB w' g M.room bn bf wv' (stepL M.left) M.off) (r : w'.ownsRow base 263 3 wv' (M.wait.length + 1) (ns ++ nmL x.1 x.2.1 x.2.2)) (q : NM w' bn (nn + 1) (nmDo (nmD M.now) x.1 x.2.1 x.2.2)) (c : Chg w w' (fun y => y = g ∨ y = bn ∨ wv.ownBlock = some y)) (loc : wv'.ownBlock = wv.ownBlock ∨ ∃ j, wv'.ownBlock = some j ∧ w.heap.size ≤ j)
    (hx1 : x.1.size ≤ maxLen) (hx2 : x.2.1.size ≤ maxLen) (hx3 : x.2.2 = -1 ∨ 0 ≤ x.2.2) (o1 : ∀ b, b < w.heap.size → own' b = own b) (o3 : ∀ b, w.heap.size ≤ b → wv'.ownBlock = some b → own' b = some (g, 3)) (hlt : g < w.heap.size ∧ bn < w.heap.size ∧ bf < w.heap.size) :
    DirI w' base own' g (M.link x fs) := by
  rw [nmDo_nm] at q
  have hl : (M.wait ++ [x]).length = M.wait.length + 1 := by simp
  refine ⟨bn, bf, wv', _, nn + 1, nf, m, q, c.nm d3 ?_, by show nn + 1 ≤ M.cnt + 1; omega, by show nf + (M.wait ++ [x]).length ≤ M.cnt + 1; omega, by show w'.ownsRow base _ 3 wv' (M.wait ++ [x]).length _; rw [hl]; exact r, d7.snoc x.1 x.2.1 x.2.2 hx1 hx2 hx3, by show (M.wait ++ [x]).length ≤ M.cnt + 1; omega, by rw [o1 g hlt.1]; exact d9, by rw [o1 bn hlt.2.1]; exact d10, by rw [o1 bf hlt.2.2]; exact d11, ?_⟩
  · rintro (e | e | e)
    · rw [e, d9] at d11; simp at d11
    · exact hb e.symm
    · rw [d12 bf e] at d11; simp at d11
  · intro b hbk
    rcases loc with h | ⟨j, h, hj⟩
    · rw [h] at hbk
      rw [o1 b (hd6.lt b hbk).2]
      exact d12 b hbk
    · rw [h] at hbk
      injection hbk with hbk
      subst hbk
      exact o3 _ hj h
theorem create_I {w : World} {base g : Nat} {own : Own} {M : Me} (s : ByteArray) (h : MedI w base own g M) (hok : M.ok) (hoff : M.off = false) (hl0 : M.left ≠ 0) (hcnt : M.cnt ≤ 900000) (hs : s.size ≤ maxLen) (hnm : nmOK s.data.toList = true) (hno : nFind M.now s.data.toList = none) (hsz : M.now.length < 500) :
    Calls Tryz.prog 121 #[.pointer (some ⟨g, 0, none⟩), .string s] w fun e w' => e = .returned (.int .i64 0) ∧ Chg w w' (fun b => own b ≠ none) ∧ ∃ (own' : Own) (gf : Nat), (∀ b, b < w.heap.size → own' b = own b) ∧ M.fs gf = none ∧ w.heap.size ≤ gf ∧ MedI w' base own' g (M.link (⟨#[]⟩, s, (gf : Int)) (upd M.fs gf ⟨[], [], []⟩)) := by
  obtain ⟨⟨bn, bf, wv, ns, nn, nf, d1, d2, d3, d4, d5, d6, d7, d8, d9, d10, d11, d12⟩, hfi, hdom, hlow, hnog⟩ := h
  have hlt : g < w.heap.size ∧ bn < w.heap.size ∧ bf < w.heap.size := ⟨Blk.lt d1, d2.lt, d3.lt⟩
  have hbb : bn ≠ bf := fun e => by rw [e, d11] at d10; simp at d10
  have d1' := d1
  rw [hoff] at d1
  refine (create_ok d1 hok.left.2 hl0 s nn M.wait.length base (nmD M.now) ns d2 (by omega) hs d6 (by omega) hlow hnm (by rw [look_nm, hno]) (by rw [size_nm]; exact hsz)).mono ?_
  rintro e w' ⟨he, gf, wv', hgf, fb, m, r, q, c, loc⟩
  have hwv : ∀ b, w.heap.size ≤ b → wv'.ownBlock = some b → (fun b => if b = gf then some (gf, 0) else if w.heap.size ≤ b ∧ wv'.ownBlock = some b then some (g, 3) else own b) b = some (g, 3) := by
    intro b hb hw
    show (if b = gf then some (gf, 0) else if w.heap.size ≤ b ∧ wv'.ownBlock = some b then some (g, 3) else own b) = _
    rw [if_neg (fun e => own_neM fb r (by decide) (by rw [hw, e])), if_pos ⟨hb, hw⟩]
  have ho : ∀ b, b < w.heap.size → (fun b => if b = gf then some (gf, 0) else if w.heap.size ≤ b ∧ wv'.ownBlock = some b then some (g, 3) else own b) b = own b := by
    intro b hb
    show (if b = gf then some (gf, 0) else if w.heap.size ≤ b ∧ wv'.ownBlock = some b then some (g, 3) else own b) = _
    rw [if_neg (by omega), if_neg (fun e => by omega)]
  have hcS : ∀ b, (b = g ∨ b = bn ∨ wv.ownBlock = some b) → ∃ k, own b = some (g, k) := by
    rintro b (rfl | rfl | e)
    · exact ⟨0, d9⟩
    · exact ⟨1, d10⟩
    · exact ⟨3, d12 b e⟩
  have hfg : M.fs gf = none := by
    cases hq : M.fs gf with
    | none => rfl
    | some F => have := (hfi gf F hq).2.2.2.lt; omega
  refine ⟨he, c.mono (fun b _ hs => by obtain ⟨k, hk⟩ := hcS b hs; rw [hk]; simp), _, gf, ho, hfg, hgf, ?_, ?_, ?_, ?_, ?_⟩
  · have m' : MedB w' g M.room bn bf wv' (stepL M.left) M.off := by rw [hoff]; exact m
    exact link_dir (fs := upd M.fs gf ⟨[], [], []⟩) (x := (⟨#[]⟩, s, (gf : Int))) d3 d4 d5 d7 d8 d9 d10 d11 d12 hbb d1' d6 m' r q c loc (by show (⟨#[]⟩ : ByteArray).size ≤ maxLen; decide) hs (.inr (by show (0 : Int) ≤ gf; omega)) ho hwv hlt
  · refine hfi.turn c gf ?_ ho ⟨[], [], []⟩ ⟨Nat.le_trans hlow hgf, ⟨rfl, ChOK.nil (by simp)⟩, by simp, .slice none 0 0, .slice none 0 0, .slice none 0 0, [], fb, World.ownsRow_nil _ _ _ _, World.ownsRow_nil _ _ _ _, World.ownsRow_nil _ _ _ _, HasC.nil _ _ _, if_pos rfl, fun b hb => by simp [Value.ownBlock] at hb, fun b hb => by simp [Value.ownBlock] at hb, fun b hb => by simp [Value.ownBlock] at hb⟩
    intro b x k hs hx hfs e
    obtain ⟨k2, hk2⟩ := hcS b hs
    rw [hk2] at e
    simp at e
    rw [← e.1] at hfs
    exact hfs hnog
  · intro b hb
    change (if b = gf then some (gf, 0) else if w.heap.size ≤ b ∧ wv'.ownBlock = some b then some (g, 3) else own b) ≠ none at hb
    split at hb
    · rename_i e; subst e; exact ⟨Nat.le_trans hlow hgf, Blk.lt fb⟩
    · split at hb
      · rename_i e; exact r.lt b e.2
      · have := hdom b hb; have := c.size; omega
  · exact Nat.le_trans hlow c.size
  · show upd M.fs gf _ g = none
    rw [upd_other _ _ (by omega)]
    exact hnog
end Go.Proofs.YtfneloobfidckaaGreatDoor

/- A medium's calls, where nothing stands against them: Append, Sync, SyncDir, All. It proves no statement. -/

namespace Go.Proofs.YtfneloobfidckaaGreatDoor
open Go.RowKit Go.Maps Go.WideMaps Go.Sort
set_option linter.unusedVariables false
set_option linter.unusedSimpArgs false

/-- How many bytes a file has. -/
def Me.sz (M : Me) (f : Int) : Nat := match M.fs f.toNat with | some F => F.now.length | none => 0
def Me.used (M : Me) : Nat := usedOf M.sz (nmD M.now)
theorem sized_I {w : World} {base g : Nat} {own : Own} {M : Me} (h : MedI w base own g M) (hok : M.ok) : Sized w (nmD M.now) M.sz := by
  intro p hp
  obtain ⟨q, hq, rfl⟩ := List.mem_map.1 (show p ∈ M.now.map fun p => (Lit.string p.1, fd (p.2 : Int)) from hp)
  obtain ⟨F, hF⟩ : ∃ F, M.fs q.2 = some F := by
    have h1 := hok.eq
    rw [h1] at hq
    exact steps_files hok.ff hok.fw q hq
  obtain ⟨nv, fv, wv, cs, h1, h2, _⟩ := (h.files q.2 F hF).2.2.2
  obtain ⟨A, c, rfl, _⟩ := own_form h2
  refine ⟨q.2, rfl, A, c, fv, wv, ?_⟩
  have : M.sz (q.2 : Int) = F.now.length := by unfold Me.sz; simp [hF]
  rw [this]
  exact h1
/-- A file's bytes changed. -/
def Fi.wrote (F : Fi) (c : Ch) : Fi := ⟨c.app F.now, F.fast, F.wait ++ [c]⟩
theorem Fi.wrote_ok {F : Fi} (h : F.ok) (c : Ch) (h1 : c.fin ≤ F.now.length) (h2 : c.more = [] ∨ c.fin = F.now.length) (h3 : c.fin + c.more.length ≤ 16777216) : (F.wrote c).ok := by
  refine ⟨?_, ?_⟩
  · show c.app F.now = appAll F.fast (F.wait ++ [c])
    rw [appAll_snoc, ← h.1]
    rfl
  · exact h.2.snoc c (by rw [← h.1]; exact h1) (by rw [← h.1]; exact h2) h3
def Me.wrote (M : Me) (gf : Nat) (F : Fi) : Me := { M with left := stepL M.left, fs := upd M.fs gf F, cnt := M.cnt + 1 }
theorem Me.wrote_ok {M : Me} (h : M.ok) (h0 : M.left ≠ 0) (gf : Nat) (F : Fi) : (M.wrote gf F).ok where
  rn := h.rn
  rf := h.rf
  ff := fun p hp => by obtain ⟨G, hG⟩ := h.ff p hp; exact upd_some hG
  fw := fun y hy h1 => by obtain ⟨G, hG⟩ := h.fw y hy h1; exact upd_some hG
  eq := h.eq
  room := h.room
  left := stepL_ok h.left h0
  len := by have := h.len; show M.fast.length + M.wait.length ≤ M.cnt + 1; omega
theorem look_found {N : NT} {s : ByteArray} {gf : Nat} (h : nFind N s.data.toList = some gf) : look (nmD N) s = (gf : Int) := by rw [look_nm, h]
set_option maxHeartbeats 800000 in
theorem append_I {w : World} {base g : Nat} {own : Own} {M : Me} (s : ByteArray) (gf : Nat) (F : Fi) (A : Option Addr) (m c B : Nat) (x : List UInt8) (h : MedI w base own g M) (hok : M.ok) (hoff : M.off = false) (hl0 : M.left ≠ 0) (hs : s.size ≤ maxLen) (hlk : nFind M.now s.data.toList = some gf) (hF : M.fs gf = some F) (hk : F.wait.length < 1000000)
    (hr : Reads w B A m x) (hB : B ≤ w.heap.size) (hA : A = none → m = 0 ∧ c = 0) (hu : M.used ≤ 35184372088832) (hroom : (m : Int) + M.used ≤ M.room) (hfm : F.now.length + m ≤ 16777216) :
    Calls Tryz.prog 123 #[.pointer (some ⟨g, 0, none⟩), .string s, .slice A m c] w fun e w' => e = .returned (.int .i64 0) ∧ Chg w w' (fun b => own b ≠ none) ∧ ∃ own' : Own, (∀ b, b < w.heap.size → own' b = own b) ∧ MedI w' base own' g (M.wrote gf (F.wrote ⟨F.now.length, x⟩)) := by
  have hsz := sized_I h hok
  obtain ⟨hdir, hfi, hdom, hlow, hnog⟩ := h
  have hdir2 := hdir
  obtain ⟨bn, bf, wv, ns, nn, nf, d1, d2, d3, d4, d5, d6, d7, d8, d9, d10, d11, d12⟩ := hdir
  obtain ⟨q1, q2, q3, nv, fv, wtv, cs, f1, f2, f3, f4, f5, f6, f7, f8, f9⟩ := hfi gf F hF
  have hgg : gf ≠ g := fun e => by rw [e, hnog] at hF; cases hF
  have hgl := Blk.lt f1
  have d1' := d1
  rw [hoff] at d1
  refine (append_ok d1 hok.left.2 hl0 s hs nn (nmD M.now) d2 M.sz hsz gf F.now.length base F.wait.length nv fv wtv F.now x cs A m c B (look_found hlk) f1 f2 f4 hlow hr hB hA (by omega) (by omega) hu hroom hok.room.2).mono ?_
  rintro e w' ⟨he, nv', wtv', cv, m1, fb, r1, r2, r3, ch, l1, l2, l3⟩
  have hxl : x.length = m := hr.1
  have hgs : ∀ b, wrS g gf nv wtv b → b = g ∨ ∃ k, own b = some (gf, k) := by
    rintro b (h | h | h | h)
    · exact .inl h
    · exact .inr ⟨0, by rw [h]; exact f6⟩
    · exact .inr ⟨1, f7 b h⟩
    · exact .inr ⟨3, f9 b h⟩
  have hcm : ∀ b, wrS g gf nv wtv b → own b ≠ none := by
    intro b hb
    rcases hgs b hb with rfl | ⟨k, hk⟩
    · rw [d9]; simp
    · rw [hk]; simp
  obtain ⟨own', ho⟩ : ∃ own' : Own, own' = fun b => if w.heap.size ≤ b ∧ nv'.ownBlock = some b then some (gf, 1) else if w.heap.size ≤ b ∧ wtv'.ownBlock = some b then some (gf, 3) else if cv.ownBlock = some b then some (gf, 4 + F.wait.length) else own b := ⟨_, rfl⟩
  have hold : ∀ b, b < w.heap.size → own' b = own b := by
    intro b hb
    rw [ho]
    show (if _ then _ else if _ then _ else if _ then _ else own b) = _
    rw [if_neg (fun e => by omega), if_neg (fun e => by omega), if_neg (fun e => by have := (r3.lt b e).1; omega)]
  have hcv : ∀ b, cv.ownBlock = some b → own' b = some (gf, 4 + F.wait.length) := by
    intro b hb
    rw [ho]
    show (if _ then _ else if _ then _ else if _ then _ else own b) = _
    rw [if_neg (fun e => l3 b e.2 hb), if_neg (fun e => own_own_ne r3 r2 (by decide) b hb e.2), if_pos hb]
  have hnv : ∀ b, nv'.ownBlock = some b → own' b = some (gf, 1) := by
    intro b hb
    rcases l1 with h | ⟨j, h, hj⟩
    · rw [h] at hb
      rw [hold b (f2.lt b hb).2]
      exact f7 b hb
    · have e : j = b := by rw [h] at hb; injection hb
      subst e
      rw [ho]
      show (if _ then _ else _) = _
      rw [if_pos ⟨hj, h⟩]
  have hwt : ∀ b, wtv'.ownBlock = some b → own' b = some (gf, 3) := by
    intro b hb
    rcases l2 with h | ⟨j, h, hj⟩
    · rw [h] at hb
      rw [hold b (f4.lt b hb).2]
      exact f9 b hb
    · have e : j = b := by rw [h] at hb; injection hb
      subst e
      rw [ho]
      show (if _ then _ else if _ then _ else _) = _
      rw [if_neg (fun e => own_own_ne r1 r2 (by decide) j e.2 h), if_pos ⟨hj, h⟩]
  have hdm : ∀ b, own' b ≠ none → base ≤ b ∧ b < w'.heap.size := by
    intro b hb
    rw [ho] at hb
    change (if _ then _ else if _ then _ else if _ then _ else own b) ≠ none at hb
    split at hb
    · rename_i e; exact r1.lt b e.2
    · split at hb
      · rename_i e; exact r2.lt b e.2
      · split at hb
        · rename_i e; exact ⟨Nat.le_trans hlow (r3.lt b e).1, (r3.lt b e).2⟩
        · have := hdom b hb; have := ch.size; omega
  clear ho
  refine ⟨he, ch.mono (fun b _ hb => hcm b hb), own', hold, ⟨?_, ?_, hdm, Nat.le_trans hlow ch.size, ?_⟩⟩
  · have hg' : ∀ b k, own b = some (g, k) → b ≠ g → ¬ wrS g gf nv wtv b := by
      intro b k hb hne hs
      rcases hgs b hs with h | ⟨q, hq⟩
      · exact hne h
      · rw [hb] at hq; simp at hq; exact hgg hq.1.symm
    have hbg : bn ≠ g := nm_ne d2 d1
    have hfg : bf ≠ g := nm_ne d3 d1
    have m2 : MedB w' g M.room bn bf wv (stepL M.left) M.off := by rw [hoff]; exact m1
    refine ⟨bn, bf, wv, ns, nn, nf, m2, ch.nm d2 (hg' bn 1 d10 hbg), ch.nm d3 (hg' bf 2 d11 hfg), by show nn ≤ M.cnt + 1; omega, by show nf + M.wait.length ≤ M.cnt + 1; omega, ch.own d6 (fun b hb => hg' b 3 (d12 b hb) (fun e => own_neM d1 d6 (by decide) (by rw [hb, e]))), d7, by show M.wait.length ≤ M.cnt + 1; omega, by rw [hold g (Blk.lt d1)]; exact d9, by rw [hold bn d2.lt]; exact d10, by rw [hold bf d3.lt]; exact d11, fun b hb => by rw [hold b (d6.lt b hb).2]; exact d12 b hb⟩
  · refine hfi.turn ch gf ?_ hold _ ⟨q1, Fi.wrote_ok q2 _ (Nat.le_refl _) (.inr rfl) (by show F.now.length + x.length ≤ 16777216; omega), by show (F.wait ++ [_]).length ≤ 1000000; simp; omega, ?_⟩
    · intro b y k hs hy hfs e
      rcases hgs b hs with h | ⟨q, hq⟩
      · rw [h, d9] at e; simp at e; rw [← e.1] at hfs; exact hfs hnog
      · rw [hq] at e; simp at e; exact hy e.1.symm
    · have ef : (F.wrote ⟨F.now.length, x⟩).now = F.now ++ x := by show F.now.take F.now.length ++ x = _; rw [List.take_length]
      have el : (F.wait ++ [(⟨F.now.length, x⟩ : Ch)]).length = F.wait.length + 1 := by simp
      have hns : ∀ b k, own b = some (gf, k) → k ≠ 0 → k ≠ 1 → k ≠ 3 → ¬ wrS g gf nv wtv b := by
        intro b k hb k0 k1 k3 hs
        rcases hs with h | h | h | h
        · rw [h, d9] at hb; simp at hb; exact hgg hb.1.symm
        · rw [h, f6] at hb; simp at hb; exact k0 hb.symm
        · rw [f7 b h] at hb; simp at hb; exact k1 hb.symm
        · rw [f9 b h] at hb; simp at hb; exact k3 hb.symm
      refine ⟨nv', fv, wtv', cs ++ [.int .i64 (F.now.length : Int), cv], fb, ?_, ch.own f3 (fun b hb => hns b 2 (f8 b hb) (by omega) (by omega) (by omega)), ?_, ?_, by rw [hold gf hgl]; exact f6, hnv, fun b hb => by rw [hold b (f3.lt b hb).2]; exact f8 b hb, hwt⟩
      · rw [ef, List.length_append, hxl]; exact r1
      · show w'.ownsRow base _ 2 wtv' (F.wait ++ [(⟨F.now.length, x⟩ : Ch)]).length _
        rw [el]; exact r2
      · have f5' : HasC w' base F.wait cs (fun j b => own' b = some (gf, 4 + j)) := by
          have f5a := f5.mono (G := fun j b => own b = some (gf, 4 + j) ∧ b < w.heap.size) (fun j b _ hb h => ⟨h, hb⟩)
          have f5b := f5a.keep ch (fun j b hb => hns b (4 + j) hb.1 (by omega) (by omega) (by omega))
          exact f5b.mono (fun j b _ _ h => by rw [hold b h.2]; exact h.1)
        exact f5'.snoc ⟨F.now.length, x⟩ cv (by rw [show (⟨F.now.length, x⟩ : Ch).more.length = m from hxl]; exact own_low r3 hlow) (fun b hb => hcv b hb)
  · show upd M.fs gf _ g = none
    rw [upd_other _ _ (fun e => hgg e.symm)]
    exact hnog
end Go.Proofs.YtfneloobfidckaaGreatDoor

/- A medium's calls, where nothing stands against them: Sync, SyncDir, All. It proves no statement. -/

namespace Go.Proofs.YtfneloobfidckaaGreatDoor
open Go.RowKit Go.Maps Go.WideMaps Go.Sort
set_option linter.unusedVariables false
set_option linter.unusedSimpArgs false

/-- A file whose bytes are fast. -/
def Fi.synced (F : Fi) : Fi := ⟨F.now, F.now, []⟩
theorem Fi.len {F : Fi} (h : F.ok) : F.now.length ≤ 16777216 := by rw [h.1]; exact h.2.len
theorem Fi.synced_ok {F : Fi} (h : F.ok) : F.synced.ok := ⟨rfl, ChOK.nil (Fi.len h)⟩
set_option maxHeartbeats 800000 in
theorem sync_I {w : World} {base g : Nat} {own : Own} {M : Me} (s : ByteArray) (gf : Nat) (F : Fi) (h : MedI w base own g M) (hok : M.ok) (hoff : M.off = false) (hl0 : M.left ≠ 0) (hs : s.size ≤ maxLen) (hlk : nFind M.now s.data.toList = some gf) (hF : M.fs gf = some F) :
    Calls Tryz.prog 88 #[.pointer (some ⟨g, 0, none⟩), .string s] w fun e w' => e = .returned (.int .i64 0) ∧ Chg w w' (fun b => own b ≠ none) ∧ ∃ own' : Own, (∀ b, b < w.heap.size → own' b = own b) ∧ MedI w' base own' g (M.wrote gf F.synced) := by
  obtain ⟨hdir, hfi, hdom, hlow, hnog⟩ := h
  obtain ⟨bn, bf, wv, ns, nn, nf, d1, d2, d3, d4, d5, d6, d7, d8, d9, d10, d11, d12⟩ := hdir
  obtain ⟨q1, q2, q3, nv, fv, wtv, cs, f1, f2, f3, f4, f5, f6, f7, f8, f9⟩ := hfi gf F hF
  have hgg : gf ≠ g := fun e => by rw [e, hnog] at hF; cases hF
  have hgl := Blk.lt f1
  obtain ⟨Aw, cw, rfl⟩ := own_formV f4
  rw [hoff] at d1
  have key : ∀ b k, own b = some (gf, k) → b ≠ g := fun b k hb e => by rw [e, d9] at hb; simp at hb; exact hgg hb.1.symm
  refine (sync_ok d1 hok.left.2 hl0 s hs nn (nmD M.now) d2 gf F.wait.length cw Aw nv fv (look_found hlk) f1 hgg (fun W w' => ∃ fv', FileB w' gf nv fv' (.slice none 0 0) ∧ w'.ownsRow base 5 1 fv' F.now.length (bytesV F.now) ∧ Chg W w' (fun b => b = gf ∨ fv.ownBlock = some b) ∧ (fv'.ownBlock = fv.ownBlock ∨ ∃ j, fv'.ownBlock = some j ∧ W.heap.size ≤ j)) ?_).mono ?_
  · intro W c
    have hs := fsettle_all (w := W) gf nv fv (.slice Aw F.wait.length cw) base F.wait.length F.wait.length F.fast F.wait cs (fun j b => own b = some (gf, 4 + j)) (c.blk f1 hgg) (c.own f4 (fun b hb => key b 3 (f9 b hb))) (f5.keep c (fun j b hb => key b _ hb)) rfl (c.own f3 (fun b hb => key b 2 (f8 b hb))) (fun b hb i e => by rw [f8 b hb] at e; simp at e; omega) (fun i e => by rw [f6] at e; simp at e; omega) (Nat.le_trans hlow c.size) (Nat.le_refl _) q3 q2.2
    rw [List.take_length, ← q2.1] at hs
    exact hs
  · rintro e w' ⟨he, W, m1, c1, fv', fb, r1, c2, l1⟩
    have ch : Chg w w' (fun b => b = g ∨ b = gf ∨ fv.ownBlock = some b) := (c1.mono (fun b _ h => .inl h)).trans c2 (fun b _ h => .inr h)
    have hgs : ∀ b, (b = g ∨ b = gf ∨ fv.ownBlock = some b) → b = g ∨ ∃ k, own b = some (gf, k) ∧ (k = 0 ∨ k = 2) := by
      rintro b (h | h | h)
      · exact .inl h
      · exact .inr ⟨0, by rw [h]; exact f6, .inl rfl⟩
      · exact .inr ⟨2, f8 b h, .inr rfl⟩
    have hg2 : ∀ b k, own b = some (g, k) → ¬ (b = gf ∨ fv.ownBlock = some b) := by
      rintro b k hb (h | h)
      · rw [h, f6] at hb; simp at hb; exact hgg hb.1
      · rw [f8 b h] at hb; simp at hb; exact hgg hb.1
    obtain ⟨own', ho⟩ : ∃ own' : Own, own' = fun b => if w.heap.size ≤ b ∧ fv'.ownBlock = some b then some (gf, 2) else own b := ⟨_, rfl⟩
    have hold : ∀ b, b < w.heap.size → own' b = own b := by
      intro b hb
      rw [ho]
      show (if _ then _ else own b) = _
      rw [if_neg (fun e => by omega)]
    have hfv : ∀ b, fv'.ownBlock = some b → own' b = some (gf, 2) := by
      intro b hb
      rcases l1 with h | ⟨j, h, hj⟩
      · rw [h] at hb
        rw [hold b (f3.lt b hb).2]
        exact f8 b hb
      · have e : j = b := by rw [h] at hb; injection hb
        subst e
        rw [ho]
        show (if _ then _ else _) = _
        rw [if_pos ⟨Nat.le_trans c1.size hj, h⟩]
    have hdm : ∀ b, own' b ≠ none → base ≤ b ∧ b < w'.heap.size := by
      intro b hb
      rw [ho] at hb
      change (if _ then _ else own b) ≠ none at hb
      split at hb
      · rename_i e; exact r1.lt b e.2
      · have := hdom b hb; have := ch.size; omega
    clear ho
    refine ⟨he, ch.mono (fun b _ hb => by rcases hgs b hb with h | ⟨k, h, _⟩; rw [h, d9]; simp; rw [h]; simp), own', hold, ⟨?_, ?_, hdm, Nat.le_trans hlow ch.size, ?_⟩⟩
    · have hg' : ∀ b k, own b = some (g, k) → b ≠ g → ¬ (b = g ∨ b = gf ∨ fv.ownBlock = some b) := by
        rintro b k hb hne (h | h)
        · exact hne h
        · exact hg2 b k hb h
      have m2 : MedB w' g M.room bn bf wv (stepL M.left) M.off := by
        rw [hoff]
        exact c2.blk m1 (hg2 g 0 d9)
      refine ⟨bn, bf, wv, ns, nn, nf, m2, ch.nm d2 (hg' bn 1 d10 (nm_ne d2 d1)), ch.nm d3 (hg' bf 2 d11 (nm_ne d3 d1)), by show nn ≤ M.cnt + 1; omega, by show nf + M.wait.length ≤ M.cnt + 1; omega, ch.own d6 (fun b hb => hg' b 3 (d12 b hb) (fun e => own_neM d1 d6 (by decide) (by rw [hb, e]))), d7, by show M.wait.length ≤ M.cnt + 1; omega, by rw [hold g (Blk.lt d1)]; exact d9, by rw [hold bn d2.lt]; exact d10, by rw [hold bf d3.lt]; exact d11, fun b hb => by rw [hold b (d6.lt b hb).2]; exact d12 b hb⟩
    · refine hfi.turn ch gf ?_ hold _ ⟨q1, Fi.synced_ok q2, by show 0 ≤ 1000000; omega, ?_⟩
      · intro b y k hs hy hfs e
        rcases hgs b hs with h | ⟨q, hq, _⟩
        · rw [h, d9] at e; simp at e; rw [← e.1] at hfs; exact hfs hnog
        · rw [hq] at e; simp at e; exact hy e.1.symm
      · refine ⟨nv, fv', .slice none 0 0, [], fb, ch.own f2 (fun b hb hs => ?_), r1, World.ownsRow_nil _ _ _ _, HasC.nil _ _ _, by rw [hold gf hgl]; exact f6, fun b hb => by rw [hold b (f2.lt b hb).2]; exact f7 b hb, hfv, fun b hb => by simp [Value.ownBlock] at hb⟩
        rcases hgs b hs with h | ⟨q, hq, hq2⟩
        · exact key b 1 (f7 b hb) h
        · rw [f7 b hb] at hq; simp at hq; omega
    · show upd M.fs gf _ g = none
      rw [upd_other _ _ (fun e => hgg e.symm)]
      exact hnog
def Me.syncedDir (M : Me) : Me := { M with left := stepL M.left, fast := M.now, wait := [] }
theorem Me.syncedDir_ok {M : Me} (h : M.ok) (h0 : M.left ≠ 0) : M.syncedDir.ok where
  rn := h.rn
  rf := h.rn
  ff := fun p hp => by
    have hp' : p ∈ M.now := hp
    rw [h.eq] at hp'
    exact steps_files h.ff h.fw p hp'
  fw := fun x hx => by cases hx
  eq := rfl
  room := h.room
  left := stepL_ok h.left h0
  len := by
    have h1 := steps_length M.fast M.wait
    have h2 := h.len
    show M.now.length + 0 ≤ M.cnt
    rw [h.eq]
    omega
theorem syncDir_I {w : World} {base g : Nat} {own : Own} {M : Me} (h : MedI w base own g M) (hok : M.ok) (hoff : M.off = false) (hl0 : M.left ≠ 0) (hcnt : M.cnt ≤ 1000000) :
    Calls Tryz.prog 90 #[.pointer (some ⟨g, 0, none⟩)] w fun e w' => e = .returned (.int .i64 0) ∧ Chg w w' (fun b => own b ≠ none) ∧ MedI w' base own g M.syncedDir := by
  obtain ⟨hdir, hfi, hdom, hlow, hnog⟩ := h
  obtain ⟨bn, bf, wv, ns, nn, nf, d1, d2, d3, d4, d5, d6, d7, d8, d9, d10, d11, d12⟩ := hdir
  obtain ⟨Aw, cw, rfl⟩ := own_formV d6
  rw [hoff] at d1
  have hfg : bf ≠ g := nm_ne d3 d1
  have hbg : bn ≠ g := nm_ne d2 d1
  have hbb : bn ≠ bf := fun e => by rw [e, d11] at d10; simp at d10
  refine (syncDir_ok M.wait.length cw Aw d1 hok.left.2 hl0 (fun W w' => MedB w' g M.room bn bf (.slice none 0 0) (stepR M.left false).1 false ∧ NM w' bf (nf + M.wait.length) (nmD M.now) ∧ Chg W w' (fun b => b = g ∨ b = bf)) ?_).mono ?_
  · intro W m c
    have hs := msettle_all (w := W) base M.wait.length nf M.wait ns M.fast m (c.own d6 (fun b hb e => own_neM d1 d6 (by decide) (by rw [hb, e]))) d7 (c.nm d3 hfg) (by omega) (Nat.le_refl _)
    rw [List.take_length, ← hok.eq] at hs
    exact hs
  · rintro e w' ⟨he, W, m1, c1, m2, n2, c2⟩
    have ch : Chg w w' (fun b => b = g ∨ b = bf) := (c1.mono (fun b _ h => .inl h)).trans c2 (fun b _ h => h)
    have hS : ∀ b, (b = g ∨ b = bf) → ∃ k, own b = some (g, k) := by
      rintro b (rfl | rfl)
      · exact ⟨0, d9⟩
      · exact ⟨2, d11⟩
    refine ⟨he, ch.mono (fun b _ hb => by obtain ⟨k, hk⟩ := hS b hb; rw [hk]; simp), ⟨?_, ?_, fun b hb => ⟨(hdom b hb).1, Nat.lt_of_lt_of_le (hdom b hb).2 ch.size⟩, Nat.le_trans hlow ch.size, hnog⟩⟩
    · have m3 : MedB w' g M.room bn bf (.slice none 0 0) (stepL M.left) M.off := by rw [hoff]; exact m2
      exact ⟨bn, bf, .slice none 0 0, [], nn, nf + M.wait.length, m3, ch.nm d2 (by rintro (h | h); exact hbg h; exact hbb h), n2, d4, by show nf + M.wait.length + 0 ≤ M.cnt; omega, World.ownsRow_nil _ _ _ _, HasN.nil, Nat.zero_le _, d9, d10, d11, fun b hb => by simp [Value.ownBlock] at hb⟩
    · exact hfi.keep ch (fun b gf k F hs hF e => by
        obtain ⟨q, hq⟩ := hS b hs
        rw [hq] at e
        simp at e
        rw [← e.1, hnog] at hF
        cases hF)
theorem all_I {w : World} {base g : Nat} {own : Own} {M : Me} (s : ByteArray) (gf : Nat) (F : Fi) (h : MedI w base own g M) (hoff : M.off = false) (hs : s.size ≤ maxLen) (hlk : nFind M.now s.data.toList = some gf) (hF : M.fs gf = some F) :
    Calls Tryz.prog 115 #[.pointer (some ⟨g, 0, none⟩), .string s] w fun e w' => (∃ v, e = .returned (.tuple #[v, .int .i64 0]) ∧ w'.ownsRow w.heap.size 5 1 v F.now.length (bytesV F.now)) ∧ Still w w' := by
  obtain ⟨hdir, hfi, hdom, hlow, hnog⟩ := h
  obtain ⟨bn, bf, wv, ns, nn, nf, d1, d2, d3, d4, d5, d6, d7, d8, d9, d10, d11, d12⟩ := hdir
  obtain ⟨q1, q2, q3, nv, fv, wtv, cs, f1, f2, f3, f4, f5, f6, f7, f8, f9⟩ := hfi gf F hF
  rw [hoff] at d1
  have := Fi.len q2
  exact all_ok d1 s hs nn (nmD M.now) d2 gf F.now.length base nv fv wtv F.now (look_found hlk) f1 f2 (by omega)
end Go.Proofs.YtfneloobfidckaaGreatDoor
