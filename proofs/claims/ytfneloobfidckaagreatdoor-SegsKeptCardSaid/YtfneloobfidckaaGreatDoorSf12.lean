/- Contracts and facts, several texts in one. It proves no statement. -/
import Derived.Test.YtfneloobfidckaaGreatDoorSf11
import Derived.Test.YtfneloobfidckaaGreatDoorSf03

/- A medium's crash. It proves no statement. -/

namespace Go.Proofs.YtfneloobfidckaaGreatDoor
open Go.RowKit Go.Maps Go.WideMaps Go.Sort
set_option linter.unusedVariables false
set_option linter.unusedSimpArgs false

/-- A medium's settle, where nothing waits. -/
theorem msettle_nil {w : World} {g : Nat} {room : Int} {bn bf : Nat} {left : Int} {off : Bool} (h : MedB w g room bn bf (.slice none 0 0) left off) :
    Calls Tryz.prog 100 #[.pointer (some ⟨g, 0, none⟩), .int .i64 0] w fun e w' => e = .returned (.tuple #[]) ∧ MedB w' g room bn bf (.slice none 0 0) left off ∧ Chg w w' (fun b => b = g) := by
  have c3 : w.cell? ⟨g, 3, none⟩ = some (.slice none 0 0) := Blk.cell h 3
  have kf := Blk.frozen h 3
  have FB := Lib.hid h
  clear h
  go_enter Tryz.func100, Tryz.ntmps100
  go_wp2_with fail
  go_loopw [13] (fun iv wr => iv = .int .i64 0 ∧ wr = w) (fun iv _ => 0)
  case atStart => exact ⟨rfl, rfl⟩
  case round =>
    obtain ⟨rfl, hw⟩ := hrel
    have hw' := hw.symm
    subst hw'
    clear hw
    go_wp2_with fail
    go_end0
    exact ⟨rfl, Blk.setc FB.out 3 _, chg_set _ g 3 _⟩
theorem msettle_all {w : World} {g : Nat} {room : Int} {bn bf : Nat} {left : Int} {off : Bool} {wv : Value} (base n nf : Nat) (X : List (ByteArray × ByteArray × Int)) (cs : List Value) (N : NT) (h : MedB w g room bn bf wv left off) (hw : w.ownsRow base 263 3 wv X.length cs)
    (hx : HasN X cs) (hown : NM w bf nf (nmD N)) (hnf : nf + X.length ≤ 1000000) (hn : n ≤ X.length) :
    Calls Tryz.prog 100 #[.pointer (some ⟨g, 0, none⟩), .int .i64 (n : Int)] w fun e w' => e = .returned (.tuple #[]) ∧ MedB w' g room bn bf (.slice none 0 0) left off ∧ NM w' bf (nf + n) (nmD (nmSteps N (X.take n))) ∧ Chg w w' (fun b => b = g ∨ b = bf) := by
  rcases hw.2 with ⟨rfl, h0⟩ | ⟨q, cap, cur, rfl, h2, h3, h4, _⟩
  · obtain rfl : n = 0 := by omega
    refine (msettle_nil h).mono ?_
    rintro e w' ⟨he, h1, h2⟩
    exact ⟨he, h1, h2.nm hown (fun e => nm_ne hown h e), h2.mono (fun b _ hs => .inl hs)⟩
  · refine (msettle_any base n X.length q cap nf X cs (nmD N) h hw hx rfl hown hnf hn).mono ?_
    rintro e w' ⟨he, h1, h2, h3⟩
    rw [nmAll_nm] at h2
    exact ⟨he, h1, h2, h3⟩
/-! ### What a crash makes of files and names -/
def crSt (s : (Nat → Option Fi) × List Int) (f : Nat) : (Nat → Option Fi) × List Int := (match s.1 f with | some F => upd s.1 f (F.crash s.2) | none => s.1, s.2.tail.tail)
def crAll (fs : Nat → Option Fi) (zs : List Int) (L : List Nat) : (Nat → Option Fi) × List Int := L.foldl crSt (fs, zs)
theorem crAll_snoc (fs : Nat → Option Fi) (zs : List Int) (L : List Nat) (f : Nat) : crAll fs zs (L ++ [f]) = crSt (crAll fs zs L) f := by simp [crAll, List.foldl_append]
theorem crSt_some {s : (Nat → Option Fi) × List Int} {f x : Nat} {F : Fi} (h : s.1 x = some F) : ∃ G, (crSt s f).1 x = some G := by
  unfold crSt
  cases hf : s.1 f with
  | none => exact ⟨F, h⟩
  | some H => exact upd_some h
theorem crFold_some {x : Nat} (L : List Nat) : ∀ (s : (Nat → Option Fi) × List Int) {F : Fi}, s.1 x = some F → ∃ G, (L.foldl crSt s).1 x = some G := by
  induction L with
  | nil => exact fun s F h => ⟨F, h⟩
  | cons f r ih =>
    intro s F h
    obtain ⟨G, hG⟩ := crSt_some (f := f) h
    exact ih _ hG
theorem crAll_some {fs : Nat → Option Fi} {zs : List Int} {x : Nat} {F : Fi} (L : List Nat) (h : fs x = some F) : ∃ G, (crAll fs zs L).1 x = some G := crFold_some L (fs, zs) h
theorem crSt_none {s : (Nat → Option Fi) × List Int} {f x : Nat} (h : s.1 x = none) (hne : ∃ F, s.1 f = some F) : (crSt s f).1 x = none := by
  unfold crSt
  obtain ⟨F, hF⟩ := hne
  rw [hF]
  simp only
  rw [upd_other _ _ (fun e => by subst e; rw [h] at hF; cases hF)]
  exact h
theorem crAll_none {x : Nat} (L : List Nat) : ∀ (s : (Nat → Option Fi) × List Int), (∀ f ∈ L, ∃ F, s.1 f = some F) → s.1 x = none → (L.foldl crSt s).1 x = none := by
  induction L with
  | nil => exact fun s _ h => h
  | cons f r ih =>
    intro s hf h
    refine ih _ (fun q hq => ?_) (crSt_none h (hf f (List.mem_cons_self)))
    obtain ⟨F, hF⟩ := hf q (List.mem_cons_of_mem _ hq)
    exact crSt_some hF
/-- The names that last. -/
def Me.lasts (M : Me) (zs : List Int) : NT := nmSteps M.fast (M.wait.take (natN zs M.wait.length))
def Me.crash (M : Me) (zs : List Int) : Me := { room := M.room, left := -1, off := false, now := M.lasts zs, fast := M.lasts zs, wait := [], fs := (crAll M.fs zs.tail ((M.lasts zs).map (·.2))).1, cnt := M.cnt }
structure Me.ok (M : Me) : Prop where
  rn : Rising M.now
  rf : Rising M.fast
  ff : ∀ p ∈ M.fast, ∃ F, M.fs p.2 = some F
  fw : ∀ x ∈ M.wait, 0 ≤ x.2.2 → ∃ F, M.fs x.2.2.toNat = some F
  eq : M.now = nmSteps M.fast M.wait
  room : 0 ≤ M.room ∧ M.room ≤ 16777216
  left : -1 ≤ M.left ∧ M.left ≤ 9223372036854775807
  len : M.fast.length + M.wait.length ≤ M.cnt
theorem steps_files {fs : Nat → Option Fi} {N : NT} {X : List (ByteArray × ByteArray × Int)} (hN : ∀ p ∈ N, ∃ F, fs p.2 = some F) (hX : ∀ x ∈ X, 0 ≤ x.2.2 → ∃ F, fs x.2.2.toNat = some F) : ∀ p ∈ nmSteps N X, ∃ F, fs p.2 = some F := by
  unfold nmSteps
  induction X generalizing N with
  | nil => exact hN
  | cons x r ih =>
    refine ih (fun p hp => ?_) (fun y hy => hX y (List.mem_cons_of_mem _ hy))
    rcases step_files hp with h | ⟨h0, rfl⟩
    · exact hN p h
    · exact hX x (List.mem_cons_self) h0
theorem ins_length (x : List UInt8 × Nat) (N : NT) : (nIns x N).length = N.length + 1 := by
  induction N with
  | nil => rfl
  | cons y r ih => unfold nIns; split <;> simp [ih]
theorem step_length (N : NT) (x : ByteArray × ByteArray × Int) : (nmStep N x).length ≤ N.length + 1 := by
  have h : ∀ (N : NT) s, (nDel N s).length ≤ N.length := fun N s => List.length_filter_le _ _
  unfold nmStep
  split
  · have := h N x.1.data.toList; omega
  · unfold nPut
    rw [ins_length]
    have := h N x.1.data.toList
    have := h (nDel N x.1.data.toList) x.2.1.data.toList
    omega
theorem steps_length (N : NT) (X : List (ByteArray × ByteArray × Int)) : (nmSteps N X).length ≤ N.length + X.length := by
  unfold nmSteps
  induction X generalizing N with
  | nil => simp
  | cons x r ih =>
    rw [List.foldl_cons]
    have h1 := ih (nmStep N x)
    have h2 := step_length N x
    simp only [List.length_cons]
    omega
theorem Me.lasts_files {M : Me} (h : M.ok) (zs : List Int) : ∀ p ∈ M.lasts zs, ∃ F, M.fs p.2 = some F := steps_files h.ff (fun x hx => h.fw x (List.mem_of_mem_take hx))
theorem Me.lasts_rising {M : Me} (h : M.ok) (zs : List Int) : Rising (M.lasts zs) := h.rf.steps _
theorem Me.lasts_length {M : Me} (h : M.ok) (zs : List Int) : (M.lasts zs).length ≤ M.cnt := by
  have h1 := steps_length M.fast (M.wait.take (natN zs M.wait.length))
  have h2 := h.len
  rw [List.length_take] at h1
  unfold Me.lasts
  omega
theorem Me.crash_ok {M : Me} (h : M.ok) (zs : List Int) : (M.crash zs).ok where
  rn := M.lasts_rising h zs
  rf := M.lasts_rising h zs
  ff := fun p hp => by obtain ⟨F, hF⟩ := M.lasts_files h zs p hp; exact crAll_some _ hF
  fw := fun x hx => by cases hx
  eq := rfl
  room := h.room
  left := ⟨by show (-1 : Int) ≤ -1; omega, by show (-1 : Int) ≤ 9223372036854775807; omega⟩
  len := by have := M.lasts_length h zs; show (M.lasts zs).length + 0 ≤ M.cnt; omega
/-- Behind the first i files. -/
def CrMid (w wr : World) (base g : Nat) (B : Nat → Prop) (gl bn bf nn nf : Nat) (own : Own) (M : Me) (N : NT) (v : Value) (zs : List Int) (i : Nat) : Prop :=
  ∃ own' : Own, (∀ b, b < w.heap.size → own' b = own b) ∧ (∀ b, own' b ≠ none → base ≤ b ∧ b < wr.heap.size) ∧ own' gl = none ∧ (∀ b, v.ownBlock = some b → own' b = none) ∧ FilesI wr base own' (crAll M.fs zs ((N.take i).map (·.2))).1 ∧ TK wr B gl (crAll M.fs zs ((N.take i).map (·.2))).2 ∧
    MedB wr g M.room bn bf (.slice none 0 0) M.left M.off ∧ NM wr bf nf (nmD N) ∧ NM wr bn nn (nmD M.now) ∧ wr.ownsRow w.heap.size 9 1 v N.length (namesV N) ∧ Chg w wr (fun b => own b ≠ none)
theorem crash_step {w wr w' : World} {base g : Nat} {B : Nat → Prop} {gl bn bf nn nf : Nat} {own own' own'' : Own} {M : Me} {N : NT} {v : Value} {zs : List Int} {i gf : Nat} {s : List UInt8} {F : Fi}
    (hgl : w.heap.size ≤ gl) (hg : own g = some (g, 0) ∧ own bn = some (g, 1) ∧ own bf = some (g, 2)) (hdom : ∀ b, own b ≠ none → base ≤ b ∧ b < w.heap.size) (hgf : gf ≠ g) (hi : N[i]? = some (s, gf)) (hF : (crAll M.fs zs ((N.take i).map (·.2))).1 gf = some F)
    (h1 : ∀ b, b < w.heap.size → own' b = own b) (h3 : own' gl = none) (h4 : ∀ b, v.ownBlock = some b → own' b = none) (h5 : FilesI wr base own' (crAll M.fs zs ((N.take i).map (·.2))).1) (h6 : TK wr B gl (crAll M.fs zs ((N.take i).map (·.2))).2)
    (h7 : MedB wr g M.room bn bf (.slice none 0 0) M.left M.off) (h8 : NM wr bf nf (nmD N)) (h9 : NM wr bn nn (nmD M.now)) (h10 : wr.ownsRow w.heap.size 9 1 v N.length (namesV N)) (h11 : Chg w wr (fun b => own b ≠ none))
    (t : TK w' B gl (crAll M.fs zs ((N.take i).map (·.2))).2.tail.tail) (c : Chg wr w' (fun b => b = gl ∨ ∃ k, own' b = some (gf, k))) (o1 : ∀ b, b < wr.heap.size → own'' b = own' b) (o2 : ∀ b, own'' b ≠ none → base ≤ b ∧ b < w'.heap.size) (f : FileI w' base own'' gf (F.crash (crAll M.fs zs ((N.take i).map (·.2))).2)) :
    CrMid w w' base g B gl bn bf nn nf own M N v zs (i + 1) := by
  have e1 : (N.take (i + 1)).map (·.2) = (N.take i).map (·.2) ++ [gf] := by rw [List.take_add_one, hi]; simp
  have e2 : crAll M.fs zs ((N.take (i + 1)).map (·.2)) = (upd (crAll M.fs zs ((N.take i).map (·.2))).1 gf (F.crash (crAll M.fs zs ((N.take i).map (·.2))).2), (crAll M.fs zs ((N.take i).map (·.2))).2.tail.tail) := by
    rw [e1, crAll_snoc]
    unfold crSt
    rw [hF]
  have hwr := h11.size
  have hgs : ∀ b k, own b = some (g, k) → ¬ (b = gl ∨ ∃ k, own' b = some (gf, k)) := by
    intro b k hb
    have hlt := (hdom b (by rw [hb]; simp)).2
    rintro (h | ⟨q, h⟩)
    · omega
    · rw [h1 b hlt, hb] at h
      simp at h
      exact hgf h.1.symm
  have hvb : ∀ b, v.ownBlock = some b → ¬ (b = gl ∨ ∃ k, own' b = some (gf, k)) := by
    intro b hb
    rintro (h | ⟨q, h⟩)
    · obtain ⟨ct, hk⟩ := tk_blk h6
      exact own_neM hk h10 (by decide) (by rw [hb, h])
    · rw [h4 b hb] at h; cases h
  obtain ⟨q1, q2, q3, q4⟩ := h5 gf F hF
  refine ⟨own'', fun b hb => by rw [o1 b (by omega), h1 b hb], o2, ?_, ?_, ?_, ?_, c.blk h7 (hgs _ _ hg.1), c.nm h8 (hgs _ _ hg.2.2), c.nm h9 (hgs _ _ hg.2.1), c.own h10 (fun b hb => hvb b hb), ?_⟩
  · rw [o1 gl (by obtain ⟨ct, hk⟩ := tk_blk h6; exact hk.lt)]; exact h3
  · intro b hb; rw [o1 b (h10.lt b hb).2]; exact h4 b hb
  · rw [e2]
    refine h5.turn c gf ?_ o1 _ ⟨q1, Fi.crash_ok q2 _, by show 0 ≤ 1000000; omega, f⟩
    intro b x k hs hx _ e
    rcases hs with h | ⟨q, h⟩
    · rw [h, h3] at e; cases e
    · rw [h] at e; simp at e; exact hx e.1.symm
  · rw [e2]; exact t
  · refine h11.trans c ?_
    intro x hx hs
    rcases hs with h | ⟨q, h⟩
    · omega
    · rw [h1 x hx] at h; rw [h]; simp
theorem crash_end {w wr w7 : World} {base g bn bf b' nf : Nat} {own own' : Own} {M : Me} {N : NT} {zs : List Int} (hN : N = M.lasts zs) (hok : M.ok) (hnog : M.fs g = none) (hg : own g = some (g, 0) ∧ own bn = some (g, 1) ∧ own bf = some (g, 2)) (hdom : ∀ b, own b ≠ none → base ≤ b ∧ b < w.heap.size) (hb : b' = wr.heap.size) (hlow : base ≤ w.heap.size)
    (h1 : ∀ b, b < w.heap.size → own' b = own b) (h2 : ∀ b, own' b ≠ none → base ≤ b ∧ b < wr.heap.size) (h5 : FilesI wr base own' (crAll M.fs zs.tail (N.map (·.2))).1) (h8 : NM wr bf nf (nmD N)) (h11 : Chg w wr (fun b => own b ≠ none)) (m7 : MedB w7 g M.room bn bf (.slice none 0 0) M.left M.off) (n7 : NM w7 b' nf (nmD N)) (s7 : Still wr w7) (hnf : nf ≤ M.cnt) :
    Chg w (((w7.setCell ⟨g, 1, none⟩ (.map (some b'))).setCell ⟨g, 5, none⟩ (.bool false)).setCell ⟨g, 4, none⟩ (.int .i64 (-1))) (fun b => own b ≠ none) ∧ (∀ b, b < w.heap.size → (fun b => if b = b' then some (g, 1) else own' b) b = own b) ∧
      MedI (((w7.setCell ⟨g, 1, none⟩ (.map (some b'))).setCell ⟨g, 5, none⟩ (.bool false)).setCell ⟨g, 4, none⟩ (.int .i64 (-1))) base (fun b => if b = b' then some (g, 1) else own' b) g (M.crash zs) := by
  have hwr := h11.size
  have hgl := (hdom g (by rw [hg.1]; simp)).2
  have hbl := (hdom bf (by rw [hg.2.2]; simp)).2
  have c10 : Chg w7 (((w7.setCell ⟨g, 1, none⟩ (.map (some b'))).setCell ⟨g, 5, none⟩ (.bool false)).setCell ⟨g, 4, none⟩ (.int .i64 (-1))) (fun b => b = g) :=
    ((chg_set w7 g 1 _).trans (chg_set _ g 5 _) (fun _ _ h => h)).trans (chg_set _ g 4 _) (fun _ _ h => h)
  have cr : Chg wr (((w7.setCell ⟨g, 1, none⟩ (.map (some b'))).setCell ⟨g, 5, none⟩ (.bool false)).setCell ⟨g, 4, none⟩ (.int .i64 (-1))) (fun b => b = g) := (Chg.of_still s7 _).trans c10 (fun _ _ h => h)
  have m10 : MedB (((w7.setCell ⟨g, 1, none⟩ (.map (some b'))).setCell ⟨g, 5, none⟩ (.bool false)).setCell ⟨g, 4, none⟩ (.int .i64 (-1))) g M.room b' bf (.slice none 0 0) (-1) false := ((Blk.setc m7 1 _).setc 5 _).setc 4 _
  generalize ((w7.setCell ⟨g, 1, none⟩ (.map (some b'))).setCell ⟨g, 5, none⟩ (.bool false)).setCell ⟨g, 4, none⟩ (.int .i64 (-1)) = w10 at *
  have ho : ∀ b, b < wr.heap.size → (fun b => if b = b' then some (g, 1) else own' b) b = own' b := fun b hlt => by
    show (if b = b' then some (g, 1) else own' b) = _
    rw [if_neg (by omega)]
  have og : ∀ b k, own b = some (g, k) → (fun b => if b = b' then some (g, 1) else own' b) b = some (g, k) := fun b k hb => by
    have := (hdom b (by rw [hb]; simp)).2
    rw [ho b (by omega), h1 b this, hb]
  refine ⟨h11.trans cr (fun x _ h => by rw [h, hg.1]; simp), fun b hlt => by rw [ho b (by omega), h1 b hlt], ?_⟩
  refine ⟨⟨b', bf, .slice none 0 0, [], nf, nf, m10, ?_, ?_, hnf, by show nf + 0 ≤ M.cnt; omega, World.ownsRow_nil _ _ _ _, HasN.nil, Nat.zero_le _, og _ _ hg.1, if_pos rfl, og _ _ hg.2.2, fun b hb => by simp [Value.ownBlock] at hb⟩, ?_, ?_, ?_, ?_⟩
  · show NM w10 b' nf (nmD (M.lasts zs))
    rw [← hN]
    exact c10.nm n7 (by omega)
  · show NM w10 bf nf (nmD (M.lasts zs))
    rw [← hN]
    exact cr.nm h8 (fun e => by rw [e, hg.1] at hg; have := hg.2.2; simp at this)
  · show FilesI w10 base _ (crAll M.fs zs.tail ((M.lasts zs).map (·.2))).1
    rw [← hN]
    intro gf F hF
    obtain ⟨q1, q2, q3, q4⟩ := h5 gf F hF
    refine ⟨q1, q2, q3, FileI.keep (q4.reown ho) (S := fun b => b = g) cr (fun b k hs e => ?_)⟩
    rw [hs] at e
    have e2 : some (g, 0) = some (gf, k) := (og g 0 hg.1).symm.trans e
    simp at e2
    rw [← e2.1] at hF
    have : (crAll M.fs zs.tail (N.map (·.2))).1 g = none := crAll_none _ _ (fun f hf => by
      obtain ⟨p, hp, rfl⟩ := List.mem_map.1 hf
      rw [hN] at hp
      exact M.lasts_files hok zs p hp) hnog
    rw [hF] at this
    cases this
  · intro b hb2
    change (if b = b' then some (g, 1) else own' b) ≠ none at hb2
    split at hb2
    · rename_i e
      have := n7.lt
      have := c10.size
      omega
    · have := h2 b hb2
      have := cr.size
      omega
  · have := cr.size; omega
  · show (crAll M.fs zs.tail ((M.lasts zs).map (·.2))).1 g = none
    exact crAll_none _ _ (fun f hf => by
      obtain ⟨p, hp, rfl⟩ := List.mem_map.1 hf
      exact M.lasts_files hok zs p hp) hnog
set_option maxRecDepth 100000 in
set_option maxHeartbeats 6400000 in
theorem mcrash_I {w : World} {base g : Nat} {B : Nat → Prop} {own : Own} {M : Me} {A : Option Addr} {n c : Nat} {zs : List Int} (h : MedI w base own g M) (hok : M.ok) (hcnt : M.cnt ≤ 1000000) (hr : ReadsI w B A n zs) (hBo : ∀ b, B b → own b = none ∧ b < w.heap.size) (hc : n ≤ c) (hm : c ≤ 9223372036854775807) :
    Calls Tryz.prog 32 #[.pointer (some ⟨g, 0, none⟩), .slice A n c] w fun e w' => e = .returned (.tuple #[]) ∧ Chg w w' (fun b => own b ≠ none) ∧ ∃ own' : Own, (∀ b, b < w.heap.size → own' b = own b) ∧ MedI w' base own' g (M.crash zs) := by
  obtain ⟨⟨bn, bf, wv, ns, nn, nf, d1, d2, d3, d4, d5, d6, d7, d8, d9, d10, d11, d12⟩, hfi, hdom, hlow, hnog⟩ := h
  have c6 : w.cell? ⟨g, 6, none⟩ = some (.bool true) := Blk.cell d1 6
  have TKR := Lib.hid (taker_any A n c B zs hr hc hm)
  have D := Lib.hid (And.intro d1 (And.intro d2 (And.intro d3 (And.intro d6 d7))))
  have DL := Lib.hid (And.intro d9 (And.intro d10 (And.intro d11 d12)))
  have DN := Lib.hid (And.intro d4 d5)
  have FI := Lib.hid hfi
  have DOM := Lib.hid hdom
  have LOW := Lib.hid (And.intro hlow (And.intro hBo hcnt))
  have OK := Lib.hid hok
  have NOG := Lib.hid hnog
  clear d1 d2 d3 d4 d5 d6 d7 d8 d9 d10 d11 d12 hfi hdom hlow hnog hr hok hBo hcnt
  go_enter Tryz.func32, Tryz.ntmps32
  go_wp2_with fail
  refine TKR.out.mono ?_
  rintro e w1 ⟨gl, rfl, hgl, tk1, s1⟩
  have G1 := Lib.hid (And.intro hgl s1)
  have TK1 := Lib.hid tk1
  clear tk1 s1 hgl TKR c6
  obtain ⟨Aw, cw, rfl⟩ := own_formV D.out.2.2.2.1
  obtain ⟨k, hk⟩ : ∃ k, k = M.wait.length := ⟨_, rfl⟩
  obtain ⟨nk, hnk⟩ : ∃ nk, nk = natN zs M.wait.length := ⟨_, rfl⟩
  have hnk2 : nk ≤ k := by rw [hnk, hk]; exact natN_le _ _
  have D1 := Lib.hid (show MedB w1 g M.room bn bf (.slice Aw M.wait.length cw) M.left M.off from D.out.1.still G1.out.2)
  have TA := Lib.hid (take_any B gl zs (k : Int) TK1.out (fun hp => by have := (LOW.out.2.1 gl hp).2; have := G1.out.1; omega))
  rw [hk, natN_eq, ← hnk] at TA
  have c3 : w1.cell? ⟨g, 3, none⟩ = some (.slice Aw M.wait.length cw) := Blk.cell D1.out 3
  rw [← hk] at c3 TA
  have HK := Lib.hid (And.intro hk hnk)
  clear hk hnk
  go_wp2_with fail
  refine TA.out.mono ?_
  rintro e w2 ⟨rfl, tk2, ch2⟩
  have C2 := Lib.hid (show Chg w w2 (fun _ => False) from (Chg.of_still G1.out.2 _).trans ch2 (fun x hx h => by have := G1.out.1; omega))
  have TK2 := Lib.hid tk2
  have DM := Lib.hid (show MedB w2 g M.room bn bf (.slice Aw M.wait.length cw) M.left M.off from C2.out.blk D.out.1 (fun h => h))
  have SE := Lib.hid (msettle_all base nk nf M.wait ns M.fast DM.out (C2.out.own D.out.2.2.2.1 (fun _ _ h => h)) D.out.2.2.2.2 (C2.out.nm D.out.2.2.1 (fun h => h)) (by have := DN.out.2; have := LOW.out.2.2; omega) (by rw [← HK.out.1]; exact hnk2))
  have NB2 := Lib.hid (C2.out.nm D.out.2.1 (fun h => h))
  clear tk2 ch2 c3 TA D1 TK1
  go_wp2_with fail
  refine SE.out.mono ?_
  rintro e w3 ⟨rfl, m3, f3, ch3⟩
  have NEG := Lib.hid (show ∀ gf F, M.fs gf = some F → gf ≠ g from fun gf F h e => by rw [e, NOG.out] at h; cases h)
  have C3 := Lib.hid (show Chg w w3 (fun b => b = g ∨ b = bf) from (C2.out.mono (fun _ _ h => h.elim)).trans ch3 (fun _ _ h => h))
  have M3 := Lib.hid m3
  obtain ⟨N, hN⟩ : ∃ N, N = M.lasts zs := ⟨_, rfl⟩
  have f3' : NM w3 bf (nf + nk) (nmD N) := by rw [hN]; unfold Me.lasts; rw [← HK.out.2]; exact f3
  have F3 := Lib.hid f3'
  have NR := Lib.hid (show Rising N by rw [hN]; exact M.lasts_rising OK.out zs)
  have NLN := Lib.hid (show N.length ≤ 1000000 by rw [hN]; have := M.lasts_length OK.out zs; have := LOW.out.2.2; omega)
  have NFS := Lib.hid (show ∀ p ∈ N, ∃ F, M.fs p.2 = some F by rw [hN]; exact M.lasts_files OK.out zs)
  have HN := Lib.hid hN
  have NB3 := Lib.hid (show NM w3 bn nn (nmD M.now) from ch3.nm NB2.out (fun h => by
    rcases h with h | h
    · have := DL.out.2.1; rw [h, DL.out.1] at this; simp at this
    · have := DL.out.2.1; rw [h, DL.out.2.2.1] at this; simp at this))
  have TK3 := Lib.hid (show TK w3 B gl zs.tail from TK2.out.chg ch3 (fun b hp hb => by
    have h0 := (LOW.out.2.1 b hp).1
    rcases hb with rfl | rfl
    · rw [DL.out.1] at h0; cases h0
    · rw [DL.out.2.2.1] at h0; cases h0) (fun h => by
    have h1 := (DOM.out g (by rw [DL.out.1]; simp)).2
    have h2 := (DOM.out bf (by rw [DL.out.2.2.1]; simp)).2
    have := G1.out.1
    omega))
  have FI3 := Lib.hid (show FilesI w3 base own M.fs from FI.out.keep C3.out (fun b gf q F hs hF e => by
    have := NEG.out gf F hF
    rcases hs with rfl | rfl
    · rw [DL.out.1] at e; simp at e; exact this e.1.symm
    · rw [DL.out.2.2.1] at e; simp at e; exact this e.1.symm))
  have c2 : w3.cell? ⟨g, 2, none⟩ = some (.map (some bf)) := Blk.cell m3 2
  clear m3 f3 f3' hN ch3 SE DM NB2 TK2 C2
  go_wp2_with fail
  refine (keys_any bf w3).mono ?_
  rintro e w4 ⟨rfl, rfl⟩
  clear c2
  go_wp2_with fail
  refine (sortedkeys_any N NR.out bf (nf + nk) w3 F3.out NLN.out).mono ?_
  rintro e w5 ⟨⟨v, rfl, row5⟩, s5⟩
  obtain ⟨Av, cv, rfl⟩ := own_formV row5
  have ROW := Lib.hid row5
  have S5 := Lib.hid s5
  have VF := Lib.hid (show N.length ≤ cv ∧ cv ≤ 9223372036854775807 ∧ (∀ i, i < N.length → ∃ b, Av = some ⟨b, 0, none⟩) from by
    rcases row5.2 with ⟨h, h0⟩ | ⟨q, cap, cur, h, h2, h3, h4, h5, _⟩
    · injection h with q1 q2 q3
      exact ⟨by omega, by omega, fun i hi => by omega⟩
    · injection h with q1 q2 q3
      subst q1 q3
      exact ⟨h4, by unfold maxLen at h5; omega, fun i hi => ⟨_, rfl⟩⟩)
  clear row5 s5
  have LT := Lib.hid (show (∀ b, own b ≠ none → b < w.heap.size) from fun b hb => (DOM.out b hb).2)
  have ST := Lib.hid (show CrMid w w5 base g B gl bn bf nn (nf + nk) own M N (.slice Av N.length cv) zs.tail 0 from by
    have c5 : Chg w3 w5 (fun _ => False) := Chg.of_still S5.out _
    refine ⟨own, fun _ _ => rfl, fun b hb => ⟨(DOM.out b hb).1, Nat.lt_of_lt_of_le (DOM.out b hb).2 (Nat.le_trans C3.out.size S5.out.size)⟩, ?_, ?_, ?_, ?_, c5.blk M3.out (fun h => h), c5.nm F3.out (fun h => h), c5.nm NB3.out (fun h => h), own_low ROW.out C3.out.size, ?_⟩
    · cases hq : own gl with
      | none => rfl
      | some q => have := LT.out gl (by rw [hq]; simp); have := G1.out.1; omega
    · intro b hb
      cases hq : own b with
      | none => rfl
      | some q => have := LT.out b (by rw [hq]; simp); have := (ROW.out.lt b hb).1; have := C3.out.size; omega
    · exact FI3.out.keep c5 (fun _ _ _ _ h => h.elim)
    · exact TK3.out.chg c5 (fun _ _ h => h) (fun h => h)
    · refine C3.out.trans c5 (fun _ _ h => h.elim) |>.mono ?_
      rintro b hb (rfl | rfl)
      · rw [DL.out.1]; simp
      · rw [DL.out.2.2.1]; simp)
  have HV := Lib.hid (show w.heap.size ≤ gl from G1.out.1)
  have SZ3 := Lib.hid (Nat.le_trans C3.out.size S5.out.size)
  clear M3 F3 NB3 TK3 FI3 S5 ROW FI G1
  go_wp2_with fail
  go_loopw [34, 6] (fun iv sv wr => ∃ i : Nat, iv = .int .i64 i ∧ i ≤ N.length ∧ Hid (CrMid w wr base g B gl bn bf nn (nf + nk) own M N (.slice Av N.length cv) zs.tail i)) (fun iv _ _ => N.length - (intOf iv).toNat)
  case atStart => exact ⟨0, rfl, by omega, ST.out⟩
  case round =>
    obtain ⟨i, rfl, hi, hh⟩ := hrel
    clear ST
    by_cases hlt : i < N.length
    · obtain ⟨⟨s, gf⟩, hp⟩ : ∃ p, N[i]? = some p := ⟨_, List.getElem?_eq_getElem hlt⟩
      obtain ⟨own', h1, h2, h3, h4, h5, h6, h7, h8, h9, h10, h11⟩ := hh.out
      obtain ⟨F0, hF0⟩ := NFS.out (s, gf) (List.mem_of_getElem? hp)
      obtain ⟨F, hF⟩ := crAll_some (zs := zs.tail) ((N.take i).map (·.2)) hF0
      obtain ⟨q1, q2, q3, q4⟩ := h5 gf F hF
      obtain ⟨bv, rfl⟩ := VF.out.2.2 i hlt
      have kc : wr.cell? ⟨bv, i, none⟩ = some (.string ⟨s.toArray⟩) := by
        have h := h10.cellAt i (by omega)
        rw [h]
        exact namesV_get N i (s, gf) hp
      have k2 : wr.cell? ⟨g, 2, none⟩ = some (.map (some bf)) := Blk.cell h7 2
      have CR := Lib.hid (fcrash_I q4 q2 q1 q3 (Nat.le_trans LOW.out.1 h11.size) h2 h6 h3 (fun hp => by have := (LOW.out.2.1 gl hp).2; have := HV.out; omega) (fun b hp => ⟨by rw [h1 b (LOW.out.2.1 b hp).2]; exact (LOW.out.2.1 b hp).1, Nat.lt_of_lt_of_le (LOW.out.2.1 b hp).2 h11.size⟩))
      have LK := Lib.hid (show look (nmD N) ⟨s.toArray⟩ = (gf : Int) by
        rw [look_nm]
        have : nFind N s = some gf := nFind_of_mem NR.out (List.mem_of_getElem? hp)
        simp [this])
      have SZ := Lib.hid (show (⟨s.toArray⟩ : ByteArray).size ≤ maxLen from by
        obtain ⟨es, he, hk⟩ := h8.keysOf
        injection he with he
        obtain ⟨key, hkey⟩ := hk (Lit.string s, fd (gf : Int)) (by rw [← he]; exact List.mem_map.2 ⟨(s, gf), List.mem_of_getElem? hp, rfl⟩)
        obtain ⟨x, _, hx, hxl⟩ := Maps.keyOf_str Tryz.underlying9 hkey
        injection hx with hx
        subst hx
        exact hxl)
      have STEP := Lib.hid (fun w' (t : TK w' B gl _) c own'' o1 o2 f => crash_step (own' := own') (own'' := own'') (w' := w') HV.out ⟨DL.out.1, DL.out.2.1, DL.out.2.2.1⟩ DOM.out (NEG.out gf F0 hF0) hp hF h1 h3 h4 h5 h6 h7 h8 h9 h10 h11 t c o1 o2 f)
      have H8 := Lib.hid h8
      have z1 : (i : Int) < (N.length : Int) := by omega
      have z2 : (0 : Int) ≤ (i : Int) := by omega
      have z4 := NLN.out
      have z3 : IntKind.i64.wrap ((i : Int) + 1) = (i : Int) + 1 := by rw [IntKind.wrap_i64]; omega
      clear hh h1 h2 h3 h4 h5 h6 h7 h8 h9 h10 h11 q1 q2 q3 q4 hF hF0
      go_wp2_with (at_lookup; go_must (refine wpList_look rfl (.tmp 41) (.tmp 42) rfl bf (nf + nk) (nmD N) rfl H8.out ⟨s.toArray⟩ rfl SZ.out ?_; intro f hf hlk; rw [LK.out] at hlk; subst hlk; rw [pv_at]; clear hf))
      refine CR.out.mono ?_
      rintro e w6 ⟨rfl, tk6, ch6, own'', o1, o2, f6⟩
      have FIN := Lib.hid (STEP.out w6 tk6 ch6 own'' o1 o2 f6)
      have HLT := Lib.hid hlt
      clear tk6 ch6 o1 o2 f6 CR STEP kc k2 H8
      go_wp2_with fail
      go_roundw
      case rel => exact ⟨i + 1, by go_num, HLT.out, FIN.out⟩
      case measure => simp [intOf]; have := HLT.out; omega
    · obtain rfl : N.length = i := by omega
      obtain ⟨own', h1, h2, h3, h4, h5, h6, h7, h8, h9, h10, h11⟩ := hh.out
      rw [List.take_length] at h5
      obtain ⟨b', hb'⟩ : ∃ b', b' = wr.heap.size := ⟨_, rfl⟩
      have k2 : wr.cell? ⟨g, 2, none⟩ = some (.map (some bf)) := Blk.cell h7 2
      have CL := Lib.hid (mclone_any N bf (nf + nk) wr h8)
      rw [← hb'] at CL
      have HB := Lib.hid hb'
      have E := Lib.hid (And.intro h1 (And.intro h2 (And.intro h5 (And.intro h7 (And.intro h8 h11)))))
      clear hh h1 h2 h3 h4 h5 h6 h7 h8 h9 h10 h11 hb'
      go_wp2_with fail
      refine CL.out.mono ?_
      rintro e w7 ⟨rfl, nm7, s7⟩
      have M7 : MedB w7 g M.room bn bf (.slice none 0 0) M.left M.off := E.out.2.2.2.1.still s7
      have k1 : w7.cell? ⟨g, 1, none⟩ = some (.map (some bn)) := Blk.cell M7 1
      have k4 : w7.cell? ⟨g, 4, none⟩ = some (.int .i64 M.left) := Blk.cell M7 4
      have k5 : w7.cell? ⟨g, 5, none⟩ = some (.bool M.off) := Blk.cell M7 5
      have f1 := Blk.frozen M7 1
      have f4 := Blk.frozen M7 4
      have f5 := Blk.frozen M7 5
      have N7 := Lib.hid nm7
      have S7 := Lib.hid s7
      have MM := Lib.hid M7
      clear nm7 s7 M7 k2 CL
      go_wp2_with fail
      go_end0
      obtain ⟨e1, e2, e3, e4, e5, e6⟩ := E.out
      have r := crash_end HN.out OK.out NOG.out ⟨DL.out.1, DL.out.2.1, DL.out.2.2.1⟩ DOM.out HB.out LOW.out.1 e1 e2 e3 e5 e6 MM.out N7.out S7.out (by have := DN.out.2; have := HK.out.1; omega)
      exact ⟨rfl, r.1, _, r.2.1, r.2.2⟩
end Go.Proofs.YtfneloobfidckaaGreatDoor

/- Contracts: All and Size of a file that is there. It proves no statement. -/


namespace Go.Proofs.YtfneloobfidckaaGreatDoor
open Go.RowKit Go.Maps Go.WideMaps
set_option linter.unusedVariables false
set_option linter.unusedSimpArgs false

set_option maxRecDepth 100000 in
set_option maxHeartbeats 1600000 in
theorem all_ok {w : World} {g : Nat} {room : Int} {bn bf : Nat} {wv : Value} {left : Int} (h : MedB w g room bn bf wv left false) (s : ByteArray) (hs : s.size ≤ maxLen) (n : Nat) (D : DataW Unit) (hown : NM w bn n D) (gf nf base : Nat) (nv fv wtv : Value) (l : List UInt8) (hlk : look D s = (gf : Int)) (hf : FileB w gf nv fv wtv) (hnv : w.ownsRow base 5 1 nv nf (bytesV l)) (hn : nf ≤ 100000000) :
    Calls Tryz.prog 115 #[.pointer (some ⟨g, 0, none⟩), .string s] w fun e w' => (∃ v, e = .returned (.tuple #[v, .int .i64 0]) ∧ w'.ownsRow w.heap.size 5 1 v nf (bytesV l)) ∧ Still w w' := by
  obtain ⟨A, c, rfl, f1, f2, f3⟩ := own_form hnv
  have FD := Lib.hid (find_yes h s n D hown hs)
  rw [hlk, show findV false (gf : Int) = pv (gf : Int) from rfl, pv_at, show findE false (gf : Int) = if (gf : Int) < 0 then 9 else 0 from rfl, if_neg (by omega)] at FD
  have CL := Lib.hid (bclone_any A nf c l w w.heap.size (Reads.of_own hnv) (Nat.le_refl _) (by omega) f3)
  have c0 : w.cell? ⟨gf, 0, none⟩ = some (.slice A nf c) := Blk.cell hf 0
  clear h hown hs hlk hf hnv hn f1 f2 f3
  go_enter Tryz.func115, Tryz.ntmps115
  go_wp2_with fail
  refine FD.out.mono ?_
  rintro e w2 ⟨rfl, rfl⟩
  go_wp2_with fail
  refine CL.out.mono ?_
  rintro e w3 ⟨⟨v, rfl, o3⟩, s3⟩
  have O3 := Lib.hid o3
  have S3 := Lib.hid s3
  clear o3 s3 CL FD
  go_wp2_with fail
  go_ret2
  exact ⟨⟨_, rfl, O3.out⟩, S3.out⟩
theorem all_none {w : World} {g : Nat} {room : Int} {bn bf : Nat} {wv : Value} {left : Int} {off : Bool} (h : MedB w g room bn bf wv left off) (s : ByteArray) (hs : s.size ≤ maxLen) (n : Nat) (D : DataW Unit) (hown : NM w bn n D) (hno : off = true ∨ look D s = -1) :
    Calls Tryz.prog 115 #[.pointer (some ⟨g, 0, none⟩), .string s] w fun e w' => e = .returned (.tuple #[.slice none 0 0, .int .i64 (findE off (look D s))]) ∧ w = w' := by
  have FD := Lib.hid (find_yes h s n D hown hs)
  have key : findV off (look D s) = .pointer none ∧ (findE off (look D s) != 0) = true := by
    rcases hno with rfl | hno
    · exact ⟨rfl, rfl⟩
    · rw [hno]
      cases off <;> exact ⟨rfl, rfl⟩
  rw [key.1] at FD
  obtain ⟨E, hE⟩ : ∃ E, E = findE off (look D s) := ⟨_, rfl⟩
  rw [← hE] at FD key ⊢
  have b1 := key.2
  clear h hown hs hno key hE
  go_enter Tryz.func115, Tryz.ntmps115
  go_wp2_with fail
  refine FD.out.mono ?_
  rintro e w2 ⟨rfl, rfl⟩
  go_wp2_with fail
  go_ret2
  exact ⟨rfl, rfl⟩
end Go.Proofs.YtfneloobfidckaaGreatDoor
