/- Contracts and facts, several texts in one. It proves no statement. -/
import Derived.Test.YtblgphfdicffcaaGreatDoorHfg
import Derived.Test.YtblgphfdicffcaaGreatDoorHfc

/- A medium's crash. It proves no statement. -/

namespace Go.Proofs.YtblgphfdicffcaaGreatDoor
open Go.RowKit Go.Maps Go.WideMaps Go.Sort
set_option linter.unusedVariables false
set_option linter.unusedSimpArgs false

/-- A medium's settle, where nothing waits. -/
theorem msettle_nil {w : World} {g : Nat} {room : Int} {bn bf : Nat} {left : Int} {off : Bool} (h : MedB w g room bn bf (.slice none 0 0) left off) :
    Calls Tryz.prog 74 #[.pointer (some ⟨g, 0, none⟩), .int .i64 0] w fun e w' => e = .returned (.tuple #[]) ∧ MedB w' g room bn bf (.slice none 0 0) left off ∧ Chg w w' (fun b => b = g) := by
  have c3 : w.cell? ⟨g, 3, none⟩ = some (.slice none 0 0) := Blk.cell h 3
  have kf := Blk.frozen h 3
  have FB := Lib.hid h
  clear h
  go_enter Tryz.func74, Tryz.ntmps74
  go_wp2_with fail
  go_loopw [13] (fun iv wr => iv = .int .i64 0 ∧ wr = w) (fun iv _ => 0)
  case atStart => exact ⟨rfl, rfl⟩
  case round =>
    obtain ⟨rfl, hw⟩ := hrel
    have hw' := hw.symm
    subst hw'
    clear hw
    go_wp2_with fail
    go_end0
    exact ⟨rfl, Blk.setc FB.out 3 _, chg_set _ g 3 _⟩
theorem msettle_all {w : World} {g : Nat} {room : Int} {bn bf : Nat} {left : Int} {off : Bool} {wv : Value} (base n nf : Nat) (X : List (ByteArray × ByteArray × Int)) (cs : List Value) (N : NT) (h : MedB w g room bn bf wv left off) (hw : w.ownsRow base 214 3 wv X.length cs)
    (hx : HasN X cs) (hown : NM w bf nf (nmD N)) (hnf : nf + X.length ≤ 1000000) (hn : n ≤ X.length) :
    Calls Tryz.prog 74 #[.pointer (some ⟨g, 0, none⟩), .int .i64 (n : Int)] w fun e w' => e = .returned (.tuple #[]) ∧ MedB w' g room bn bf (.slice none 0 0) left off ∧ NM w' bf (nf + n) (nmD (nmSteps N (X.take n))) ∧ Chg w w' (fun b => b = g ∨ b = bf) := by
  rcases hw.2 with ⟨rfl, h0⟩ | ⟨q, cap, cur, rfl, h2, h3, h4, _⟩
  · obtain rfl : n = 0 := by omega
    refine (msettle_nil h).mono ?_
    rintro e w' ⟨he, h1, h2⟩
    exact ⟨he, h1, h2.nm hown (fun e => nm_ne hown h e), h2.mono (fun b _ hs => .inl hs)⟩
  · refine (msettle_any base n X.length q cap nf X cs (nmD N) h hw hx rfl hown hnf hn).mono ?_
    rintro e w' ⟨he, h1, h2, h3⟩
    rw [nmAll_nm] at h2
    exact ⟨he, h1, h2, h3⟩
/-! ### What a crash makes of files and names -/
def crSt (s : (Nat → Option Fi) × List Int) (f : Nat) : (Nat → Option Fi) × List Int := (match s.1 f with | some F => upd s.1 f (F.crash s.2) | none => s.1, s.2.tail.tail)
def crAll (fs : Nat → Option Fi) (zs : List Int) (L : List Nat) : (Nat → Option Fi) × List Int := L.foldl crSt (fs, zs)
theorem crAll_snoc (fs : Nat → Option Fi) (zs : List Int) (L : List Nat) (f : Nat) : crAll fs zs (L ++ [f]) = crSt (crAll fs zs L) f := by simp [crAll, List.foldl_append]
theorem crSt_some {s : (Nat → Option Fi) × List Int} {f x : Nat} {F : Fi} (h : s.1 x = some F) : ∃ G, (crSt s f).1 x = some G := by
  unfold crSt
  cases hf : s.1 f with
  | none => exact ⟨F, h⟩
  | some H => exact upd_some h
theorem crFold_some {x : Nat} (L : List Nat) : ∀ (s : (Nat → Option Fi) × List Int) {F : Fi}, s.1 x = some F → ∃ G, (L.foldl crSt s).1 x = some G := by
  induction L with
  | nil => exact fun s F h => ⟨F, h⟩
  | cons f r ih =>
    intro s F h
    obtain ⟨G, hG⟩ := crSt_some (f := f) h
    exact ih _ hG
theorem crAll_some {fs : Nat → Option Fi} {zs : List Int} {x : Nat} {F : Fi} (L : List Nat) (h : fs x = some F) : ∃ G, (crAll fs zs L).1 x = some G := crFold_some L (fs, zs) h
theorem crSt_none {s : (Nat → Option Fi) × List Int} {f x : Nat} (h : s.1 x = none) (hne : ∃ F, s.1 f = some F) : (crSt s f).1 x = none := by
  unfold crSt
  obtain ⟨F, hF⟩ := hne
  rw [hF]
  simp only
  rw [upd_other _ _ (fun e => by subst e; rw [h] at hF; cases hF)]
  exact h
theorem crAll_none {x : Nat} (L : List Nat) : ∀ (s : (Nat → Option Fi) × List Int), (∀ f ∈ L, ∃ F, s.1 f = some F) → s.1 x = none → (L.foldl crSt s).1 x = none := by
  induction L with
  | nil => exact fun s _ h => h
  | cons f r ih =>
    intro s hf h
    refine ih _ (fun q hq => ?_) (crSt_none h (hf f (List.mem_cons_self)))
    obtain ⟨F, hF⟩ := hf q (List.mem_cons_of_mem _ hq)
    exact crSt_some hF
/-- The names that last. -/
def Me.lasts (M : Me) (zs : List Int) : NT := nmSteps M.fast (M.wait.take (natN zs M.wait.length))
def Me.crash (M : Me) (zs : List Int) : Me := { room := M.room, left := -1, off := false, now := M.lasts zs, fast := M.lasts zs, wait := [], fs := (crAll M.fs zs.tail ((M.lasts zs).map (·.2))).1, cnt := M.cnt }
structure Me.ok (M : Me) : Prop where
  rn : Rising M.now
  rf : Rising M.fast
  ff : ∀ p ∈ M.fast, ∃ F, M.fs p.2 = some F
  fw : ∀ x ∈ M.wait, 0 ≤ x.2.2 → ∃ F, M.fs x.2.2.toNat = some F
  eq : M.now = nmSteps M.fast M.wait
  room : 0 ≤ M.room ∧ M.room ≤ 16777216
  left : -1 ≤ M.left ∧ M.left ≤ 9223372036854775807
  len : M.fast.length + M.wait.length ≤ M.cnt
theorem steps_files {fs : Nat → Option Fi} {N : NT} {X : List (ByteArray × ByteArray × Int)} (hN : ∀ p ∈ N, ∃ F, fs p.2 = some F) (hX : ∀ x ∈ X, 0 ≤ x.2.2 → ∃ F, fs x.2.2.toNat = some F) : ∀ p ∈ nmSteps N X, ∃ F, fs p.2 = some F := by
  unfold nmSteps
  induction X generalizing N with
  | nil => exact hN
  | cons x r ih =>
    refine ih (fun p hp => ?_) (fun y hy => hX y (List.mem_cons_of_mem _ hy))
    rcases step_files hp with h | ⟨h0, rfl⟩
    · exact hN p h
    · exact hX x (List.mem_cons_self) h0
theorem ins_length (x : List UInt8 × Nat) (N : NT) : (nIns x N).length = N.length + 1 := by
  induction N with
  | nil => rfl
  | cons y r ih => unfold nIns; split <;> simp [ih]
theorem step_length (N : NT) (x : ByteArray × ByteArray × Int) : (nmStep N x).length ≤ N.length + 1 := by
  have h : ∀ (N : NT) s, (nDel N s).length ≤ N.length := fun N s => List.length_filter_le _ _
  unfold nmStep
  split
  · have := h N x.1.data.toList; omega
  · unfold nPut
    rw [ins_length]
    have := h N x.1.data.toList
    have := h (nDel N x.1.data.toList) x.2.1.data.toList
    omega
theorem steps_length (N : NT) (X : List (ByteArray × ByteArray × Int)) : (nmSteps N X).length ≤ N.length + X.length := by
  unfold nmSteps
  induction X generalizing N with
  | nil => simp
  | cons x r ih =>
    rw [List.foldl_cons]
    have h1 := ih (nmStep N x)
    have h2 := step_length N x
    simp only [List.length_cons]
    omega
theorem Me.lasts_files {M : Me} (h : M.ok) (zs : List Int) : ∀ p ∈ M.lasts zs, ∃ F, M.fs p.2 = some F := steps_files h.ff (fun x hx => h.fw x (List.mem_of_mem_take hx))
theorem Me.lasts_rising {M : Me} (h : M.ok) (zs : List Int) : Rising (M.lasts zs) := h.rf.steps _
theorem Me.lasts_length {M : Me} (h : M.ok) (zs : List Int) : (M.lasts zs).length ≤ M.cnt := by
  have h1 := steps_length M.fast (M.wait.take (natN zs M.wait.length))
  have h2 := h.len
  rw [List.length_take] at h1
  unfold Me.lasts
  omega
theorem Me.crash_ok {M : Me} (h : M.ok) (zs : List Int) : (M.crash zs).ok where
  rn := M.lasts_rising h zs
  rf := M.lasts_rising h zs
  ff := fun p hp => by obtain ⟨F, hF⟩ := M.lasts_files h zs p hp; exact crAll_some _ hF
  fw := fun x hx => by cases hx
  eq := rfl
  room := h.room
  left := ⟨by show (-1 : Int) ≤ -1; omega, by show (-1 : Int) ≤ 9223372036854775807; omega⟩
  len := by have := M.lasts_length h zs; show (M.lasts zs).length + 0 ≤ M.cnt; omega
/-- Behind the first i files. -/
def CrMid (w wr : World) (base g : Nat) (B : Nat → Prop) (gl bn bf nn nf : Nat) (own : Own) (M : Me) (N : NT) (v : Value) (zs : List Int) (i : Nat) : Prop :=
  ∃ own' : Own, (∀ b, b < w.heap.size → own' b = own b) ∧ (∀ b, own' b ≠ none → base ≤ b ∧ b < wr.heap.size) ∧ own' gl = none ∧ (∀ b, v.ownBlock = some b → own' b = none) ∧ FilesI wr base own' (crAll M.fs zs ((N.take i).map (·.2))).1 ∧ TK wr B gl (crAll M.fs zs ((N.take i).map (·.2))).2 ∧
    MedB wr g M.room bn bf (.slice none 0 0) M.left M.off ∧ NM wr bf nf (nmD N) ∧ NM wr bn nn (nmD M.now) ∧ wr.ownsRow w.heap.size 9 1 v N.length (namesV N) ∧ Chg w wr (fun b => own b ≠ none)
theorem crash_step {w wr w' : World} {base g : Nat} {B : Nat → Prop} {gl bn bf nn nf : Nat} {own own' own'' : Own} {M : Me} {N : NT} {v : Value} {zs : List Int} {i gf : Nat} {s : List UInt8} {F : Fi}
    (hgl : w.heap.size ≤ gl) (hg : own g = some (g, 0) ∧ own bn = some (g, 1) ∧ own bf = some (g, 2)) (hdom : ∀ b, own b ≠ none → base ≤ b ∧ b < w.heap.size) (hgf : gf ≠ g) (hi : N[i]? = some (s, gf)) (hF : (crAll M.fs zs ((N.take i).map (·.2))).1 gf = some F)
    (h1 : ∀ b, b < w.heap.size → own' b = own b) (h3 : own' gl = none) (h4 : ∀ b, v.ownBlock = some b → own' b = none) (h5 : FilesI wr base own' (crAll M.fs zs ((N.take i).map (·.2))).1) (h6 : TK wr B gl (crAll M.fs zs ((N.take i).map (·.2))).2)
    (h7 : MedB wr g M.room bn bf (.slice none 0 0) M.left M.off) (h8 : NM wr bf nf (nmD N)) (h9 : NM wr bn nn (nmD M.now)) (h10 : wr.ownsRow w.heap.size 9 1 v N.length (namesV N)) (h11 : Chg w wr (fun b => own b ≠ none))
    (t : TK w' B gl (crAll M.fs zs ((N.take i).map (·.2))).2.tail.tail) (c : Chg wr w' (fun b => b = gl ∨ ∃ k, own' b = some (gf, k))) (o1 : ∀ b, b < wr.heap.size → own'' b = own' b) (o2 : ∀ b, own'' b ≠ none → base ≤ b ∧ b < w'.heap.size) (f : FileI w' base own'' gf (F.crash (crAll M.fs zs ((N.take i).map (·.2))).2)) :
    CrMid w w' base g B gl bn bf nn nf own M N v zs (i + 1) := by
  have e1 : (N.take (i + 1)).map (·.2) = (N.take i).map (·.2) ++ [gf] := by rw [List.take_add_one, hi]; simp
  have e2 : crAll M.fs zs ((N.take (i + 1)).map (·.2)) = (upd (crAll M.fs zs ((N.take i).map (·.2))).1 gf (F.crash (crAll M.fs zs ((N.take i).map (·.2))).2), (crAll M.fs zs ((N.take i).map (·.2))).2.tail.tail) := by
    rw [e1, crAll_snoc]
    unfold crSt
    rw [hF]
  have hwr := h11.size
  have hgs : ∀ b k, own b = some (g, k) → ¬ (b = gl ∨ ∃ k, own' b = some (gf, k)) := by
    intro b k hb
    have hlt := (hdom b (by rw [hb]; simp)).2
    rintro (h | ⟨q, h⟩)
    · omega
    · rw [h1 b hlt, hb] at h
      simp at h
      exact hgf h.1.symm
  have hvb : ∀ b, v.ownBlock = some b → ¬ (b = gl ∨ ∃ k, own' b = some (gf, k)) := by
    intro b hb
    rintro (h | ⟨q, h⟩)
    · obtain ⟨ct, hk⟩ := tk_blk h6
      exact own_neM hk h10 (by decide) (by rw [hb, h])
    · rw [h4 b hb] at h; cases h
  obtain ⟨q1, q2, q3, q4⟩ := h5 gf F hF
  refine ⟨own'', fun b hb => by rw [o1 b (by omega), h1 b hb], o2, ?_, ?_, ?_, ?_, c.blk h7 (hgs _ _ hg.1), c.nm h8 (hgs _ _ hg.2.2), c.nm h9 (hgs _ _ hg.2.1), c.own h10 (fun b hb => hvb b hb), ?_⟩
  · rw [o1 gl (by obtain ⟨ct, hk⟩ := tk_blk h6; exact hk.lt)]; exact h3
  · intro b hb; rw [o1 b (h10.lt b hb).2]; exact h4 b hb
  · rw [e2]
    refine h5.turn c gf ?_ o1 _ ⟨q1, Fi.crash_ok q2 _, by show 0 ≤ 1000000; omega, f⟩
    intro b x k hs hx _ e
    rcases hs with h | ⟨q, h⟩
    · rw [h, h3] at e; cases e
    · rw [h] at e; simp at e; exact hx e.1.symm
  · rw [e2]; exact t
  · refine h11.trans c ?_
    intro x hx hs
    rcases hs with h | ⟨q, h⟩
    · omega
    · rw [h1 x hx] at h; rw [h]; simp
theorem crash_end {w wr w7 : World} {base g bn bf b' nf : Nat} {own own' : Own} {M : Me} {N : NT} {zs : List Int} (hN : N = M.lasts zs) (hok : M.ok) (hnog : M.fs g = none) (hg : own g = some (g, 0) ∧ own bn = some (g, 1) ∧ own bf = some (g, 2)) (hdom : ∀ b, own b ≠ none → base ≤ b ∧ b < w.heap.size) (hb : b' = wr.heap.size) (hlow : base ≤ w.heap.size)
    (h1 : ∀ b, b < w.heap.size → own' b = own b) (h2 : ∀ b, own' b ≠ none → base ≤ b ∧ b < wr.heap.size) (h5 : FilesI wr base own' (crAll M.fs zs.tail (N.map (·.2))).1) (h8 : NM wr bf nf (nmD N)) (h11 : Chg w wr (fun b => own b ≠ none)) (m7 : MedB w7 g M.room bn bf (.slice none 0 0) M.left M.off) (n7 : NM w7 b' nf (nmD N)) (s7 : Still wr w7) (hnf : nf ≤ M.cnt) :
    Chg w (((w7.setCell ⟨g, 1, none⟩ (.map (some b'))).setCell ⟨g, 5, none⟩ (.bool false)).setCell ⟨g, 4, none⟩ (.int .i64 (-1))) (fun b => own b ≠ none) ∧ (∀ b, b < w.heap.size → (fun b => if b = b' then some (g, 1) else own' b) b = own b) ∧
      MedI (((w7.setCell ⟨g, 1, none⟩ (.map (some b'))).setCell ⟨g, 5, none⟩ (.bool false)).setCell ⟨g, 4, none⟩ (.int .i64 (-1))) base (fun b => if b = b' then some (g, 1) else own' b) g (M.crash zs) := by
  have hwr := h11.size
  have hgl := (hdom g (by rw [hg.1]; simp)).2
  have hbl := (hdom bf (by rw [hg.2.2]; simp)).2
  have c10 : Chg w7 (((w7.setCell ⟨g, 1, none⟩ (.map (some b'))).setCell ⟨g, 5, none⟩ (.bool false)).setCell ⟨g, 4, none⟩ (.int .i64 (-1))) (fun b => b = g) :=
    ((chg_set w7 g 1 _).trans (chg_set _ g 5 _) (fun _ _ h => h)).trans (chg_set _ g 4 _) (fun _ _ h => h)
  have cr : Chg wr (((w7.setCell ⟨g, 1, none⟩ (.map (some b'))).setCell ⟨g, 5, none⟩ (.bool false)).setCell ⟨g, 4, none⟩ (.int .i64 (-1))) (fun b => b = g) := (Chg.of_still s7 _).trans c10 (fun _ _ h => h)
  have m10 : MedB (((w7.setCell ⟨g, 1, none⟩ (.map (some b'))).setCell ⟨g, 5, none⟩ (.bool false)).setCell ⟨g, 4, none⟩ (.int .i64 (-1))) g M.room b' bf (.slice none 0 0) (-1) false := ((Blk.setc m7 1 _).setc 5 _).setc 4 _
  generalize ((w7.setCell ⟨g, 1, none⟩ (.map (some b'))).setCell ⟨g, 5, none⟩ (.bool false)).setCell ⟨g, 4, none⟩ (.int .i64 (-1)) = w10 at *
  have ho : ∀ b, b < wr.heap.size → (fun b => if b = b' then some (g, 1) else own' b) b = own' b := fun b hlt => by
    show (if b = b' then some (g, 1) else own' b) = _
    rw [if_neg (by omega)]
  have og : ∀ b k, own b = some (g, k) → (fun b => if b = b' then some (g, 1) else own' b) b = some (g, k) := fun b k hb => by
    have := (hdom b (by rw [hb]; simp)).2
    rw [ho b (by omega), h1 b this, hb]
  refine ⟨h11.trans cr (fun x _ h => by rw [h, hg.1]; simp), fun b hlt => by rw [ho b (by omega), h1 b hlt], ?_⟩
  refine ⟨⟨b', bf, .slice none 0 0, [], nf, nf, m10, ?_, ?_, hnf, by show nf + 0 ≤ M.cnt; omega, World.ownsRow_nil _ _ _ _, HasN.nil, Nat.zero_le _, og _ _ hg.1, if_pos rfl, og _ _ hg.2.2, fun b hb => by simp [Value.ownBlock] at hb⟩, ?_, ?_, ?_, ?_⟩
  · show NM w10 b' nf (nmD (M.lasts zs))
    rw [← hN]
    exact c10.nm n7 (by omega)
  · show NM w10 bf nf (nmD (M.lasts zs))
    rw [← hN]
    exact cr.nm h8 (fun e => by rw [e, hg.1] at hg; have := hg.2.2; simp at this)
  · show FilesI w10 base _ (crAll M.fs zs.tail ((M.lasts zs).map (·.2))).1
    rw [← hN]
    intro gf F hF
    obtain ⟨q1, q2, q3, q4⟩ := h5 gf F hF
    refine ⟨q1, q2, q3, FileI.keep (q4.reown ho) (S := fun b => b = g) cr (fun b k hs e => ?_)⟩
    rw [hs] at e
    have e2 : some (g, 0) = some (gf, k) := (og g 0 hg.1).symm.trans e
    simp at e2
    rw [← e2.1] at hF
    have : (crAll M.fs zs.tail (N.map (·.2))).1 g = none := crAll_none _ _ (fun f hf => by
      obtain ⟨p, hp, rfl⟩ := List.mem_map.1 hf
      rw [hN] at hp
      exact M.lasts_files hok zs p hp) hnog
    rw [hF] at this
    cases this
  · intro b hb2
    change (if b = b' then some (g, 1) else own' b) ≠ none at hb2
    split at hb2
    · rename_i e
      have := n7.lt
      have := c10.size
      omega
    · have := h2 b hb2
      have := cr.size
      omega
  · have := cr.size; omega
  · show (crAll M.fs zs.tail ((M.lasts zs).map (·.2))).1 g = none
    exact crAll_none _ _ (fun f hf => by
      obtain ⟨p, hp, rfl⟩ := List.mem_map.1 hf
      exact M.lasts_files hok zs p hp) hnog
set_option maxRecDepth 100000 in
set_option maxHeartbeats 6400000 in
theorem mcrash_I {w : World} {base g : Nat} {B : Nat → Prop} {own : Own} {M : Me} {A : Option Addr} {n c : Nat} {zs : List Int} (h : MedI w base own g M) (hok : M.ok) (hcnt : M.cnt ≤ 1000000) (hr : ReadsI w B A n zs) (hBo : ∀ b, B b → own b = none ∧ b < w.heap.size) (hc : n ≤ c) (hm : c ≤ 9223372036854775807) :
    Calls Tryz.prog 30 #[.pointer (some ⟨g, 0, none⟩), .slice A n c] w fun e w' => e = .returned (.tuple #[]) ∧ Chg w w' (fun b => own b ≠ none) ∧ ∃ own' : Own, (∀ b, b < w.heap.size → own' b = own b) ∧ MedI w' base own' g (M.crash zs) := by
  obtain ⟨⟨bn, bf, wv, ns, nn, nf, d1, d2, d3, d4, d5, d6, d7, d8, d9, d10, d11, d12⟩, hfi, hdom, hlow, hnog⟩ := h
  have c6 : w.cell? ⟨g, 6, none⟩ = some (.bool true) := Blk.cell d1 6
  have TKR := Lib.hid (taker_any A n c B zs hr hc hm)
  have D := Lib.hid (And.intro d1 (And.intro d2 (And.intro d3 (And.intro d6 d7))))
  have DL := Lib.hid (And.intro d9 (And.intro d10 (And.intro d11 d12)))
  have DN := Lib.hid (And.intro d4 d5)
  have FI := Lib.hid hfi
  have DOM := Lib.hid hdom
  have LOW := Lib.hid (And.intro hlow (And.intro hBo hcnt))
  have OK := Lib.hid hok
  have NOG := Lib.hid hnog
  clear d1 d2 d3 d4 d5 d6 d7 d8 d9 d10 d11 d12 hfi hdom hlow hnog hr hok hBo hcnt
  go_enter Tryz.func30, Tryz.ntmps30
  go_wp2_with fail
  refine TKR.out.mono ?_
  rintro e w1 ⟨gl, rfl, hgl, tk1, s1⟩
  have G1 := Lib.hid (And.intro hgl s1)
  have TK1 := Lib.hid tk1
  clear tk1 s1 hgl TKR c6
  obtain ⟨Aw, cw, rfl⟩ := own_formV D.out.2.2.2.1
  obtain ⟨k, hk⟩ : ∃ k, k = M.wait.length := ⟨_, rfl⟩
  obtain ⟨nk, hnk⟩ : ∃ nk, nk = natN zs M.wait.length := ⟨_, rfl⟩
  have hnk2 : nk ≤ k := by rw [hnk, hk]; exact natN_le _ _
  have D1 := Lib.hid (show MedB w1 g M.room bn bf (.slice Aw M.wait.length cw) M.left M.off from D.out.1.still G1.out.2)
  have TA := Lib.hid (take_any B gl zs (k : Int) TK1.out (fun hp => by have := (LOW.out.2.1 gl hp).2; have := G1.out.1; omega))
  rw [hk, natN_eq, ← hnk] at TA
  have c3 : w1.cell? ⟨g, 3, none⟩ = some (.slice Aw M.wait.length cw) := Blk.cell D1.out 3
  rw [← hk] at c3 TA
  have HK := Lib.hid (And.intro hk hnk)
  clear hk hnk
  go_wp2_with fail
  refine TA.out.mono ?_
  rintro e w2 ⟨rfl, tk2, ch2⟩
  have C2 := Lib.hid (show Chg w w2 (fun _ => False) from (Chg.of_still G1.out.2 _).trans ch2 (fun x hx h => by have := G1.out.1; omega))
  have TK2 := Lib.hid tk2
  have DM := Lib.hid (show MedB w2 g M.room bn bf (.slice Aw M.wait.length cw) M.left M.off from C2.out.blk D.out.1 (fun h => h))
  have SE := Lib.hid (msettle_all base nk nf M.wait ns M.fast DM.out (C2.out.own D.out.2.2.2.1 (fun _ _ h => h)) D.out.2.2.2.2 (C2.out.nm D.out.2.2.1 (fun h => h)) (by have := DN.out.2; have := LOW.out.2.2; omega) (by rw [← HK.out.1]; exact hnk2))
  have NB2 := Lib.hid (C2.out.nm D.out.2.1 (fun h => h))
  clear tk2 ch2 c3 TA D1 TK1
  go_wp2_with fail
  refine SE.out.mono ?_
  rintro e w3 ⟨rfl, m3, f3, ch3⟩
  have NEG := Lib.hid (show ∀ gf F, M.fs gf = some F → gf ≠ g from fun gf F h e => by rw [e, NOG.out] at h; cases h)
  have C3 := Lib.hid (show Chg w w3 (fun b => b = g ∨ b = bf) from (C2.out.mono (fun _ _ h => h.elim)).trans ch3 (fun _ _ h => h))
  have M3 := Lib.hid m3
  obtain ⟨N, hN⟩ : ∃ N, N = M.lasts zs := ⟨_, rfl⟩
  have f3' : NM w3 bf (nf + nk) (nmD N) := by rw [hN]; unfold Me.lasts; rw [← HK.out.2]; exact f3
  have F3 := Lib.hid f3'
  have NR := Lib.hid (show Rising N by rw [hN]; exact M.lasts_rising OK.out zs)
  have NLN := Lib.hid (show N.length ≤ 1000000 by rw [hN]; have := M.lasts_length OK.out zs; have := LOW.out.2.2; omega)
  have NFS := Lib.hid (show ∀ p ∈ N, ∃ F, M.fs p.2 = some F by rw [hN]; exact M.lasts_files OK.out zs)
  have HN := Lib.hid hN
  have NB3 := Lib.hid (show NM w3 bn nn (nmD M.now) from ch3.nm NB2.out (fun h => by
    rcases h with h | h
    · have := DL.out.2.1; rw [h, DL.out.1] at this; simp at this
    · have := DL.out.2.1; rw [h, DL.out.2.2.1] at this; simp at this))
  have TK3 := Lib.hid (show TK w3 B gl zs.tail from TK2.out.chg ch3 (fun b hp hb => by
    have h0 := (LOW.out.2.1 b hp).1
    rcases hb with rfl | rfl
    · rw [DL.out.1] at h0; cases h0
    · rw [DL.out.2.2.1] at h0; cases h0) (fun h => by
    have h1 := (DOM.out g (by rw [DL.out.1]; simp)).2
    have h2 := (DOM.out bf (by rw [DL.out.2.2.1]; simp)).2
    have := G1.out.1
    omega))
  have FI3 := Lib.hid (show FilesI w3 base own M.fs from FI.out.keep C3.out (fun b gf q F hs hF e => by
    have := NEG.out gf F hF
    rcases hs with rfl | rfl
    · rw [DL.out.1] at e; simp at e; exact this e.1.symm
    · rw [DL.out.2.2.1] at e; simp at e; exact this e.1.symm))
  have c2 : w3.cell? ⟨g, 2, none⟩ = some (.map (some bf)) := Blk.cell m3 2
  clear m3 f3 f3' hN ch3 SE DM NB2 TK2 C2
  go_wp2_with fail
  refine (keys_any bf w3).mono ?_
  rintro e w4 ⟨rfl, rfl⟩
  clear c2
  go_wp2_with fail
  refine (sortedkeys_any N NR.out bf (nf + nk) w3 F3.out NLN.out).mono ?_
  rintro e w5 ⟨⟨v, rfl, row5⟩, s5⟩
  obtain ⟨Av, cv, rfl⟩ := own_formV row5
  have ROW := Lib.hid row5
  have S5 := Lib.hid s5
  have VF := Lib.hid (show N.length ≤ cv ∧ cv ≤ 9223372036854775807 ∧ (∀ i, i < N.length → ∃ b, Av = some ⟨b, 0, none⟩) from by
    rcases row5.2 with ⟨h, h0⟩ | ⟨q, cap, cur, h, h2, h3, h4, h5, _⟩
    · injection h with q1 q2 q3
      exact ⟨by omega, by omega, fun i hi => by omega⟩
    · injection h with q1 q2 q3
      subst q1 q3
      exact ⟨h4, by unfold maxLen at h5; omega, fun i hi => ⟨_, rfl⟩⟩)
  clear row5 s5
  have LT := Lib.hid (show (∀ b, own b ≠ none → b < w.heap.size) from fun b hb => (DOM.out b hb).2)
  have ST := Lib.hid (show CrMid w w5 base g B gl bn bf nn (nf + nk) own M N (.slice Av N.length cv) zs.tail 0 from by
    have c5 : Chg w3 w5 (fun _ => False) := Chg.of_still S5.out _
    refine ⟨own, fun _ _ => rfl, fun b hb => ⟨(DOM.out b hb).1, Nat.lt_of_lt_of_le (DOM.out b hb).2 (Nat.le_trans C3.out.size S5.out.size)⟩, ?_, ?_, ?_, ?_, c5.blk M3.out (fun h => h), c5.nm F3.out (fun h => h), c5.nm NB3.out (fun h => h), own_low ROW.out C3.out.size, ?_⟩
    · cases hq : own gl with
      | none => rfl
      | some q => have := LT.out gl (by rw [hq]; simp); have := G1.out.1; omega
    · intro b hb
      cases hq : own b with
      | none => rfl
      | some q => have := LT.out b (by rw [hq]; simp); have := (ROW.out.lt b hb).1; have := C3.out.size; omega
    · exact FI3.out.keep c5 (fun _ _ _ _ h => h.elim)
    · exact TK3.out.chg c5 (fun _ _ h => h) (fun h => h)
    · refine C3.out.trans c5 (fun _ _ h => h.elim) |>.mono ?_
      rintro b hb (rfl | rfl)
      · rw [DL.out.1]; simp
      · rw [DL.out.2.2.1]; simp)
  have HV := Lib.hid (show w.heap.size ≤ gl from G1.out.1)
  have SZ3 := Lib.hid (Nat.le_trans C3.out.size S5.out.size)
  clear M3 F3 NB3 TK3 FI3 S5 ROW FI G1
  go_wp2_with fail
  go_loopw [34, 6] (fun iv sv wr => ∃ i : Nat, iv = .int .i64 i ∧ i ≤ N.length ∧ Hid (CrMid w wr base g B gl bn bf nn (nf + nk) own M N (.slice Av N.length cv) zs.tail i)) (fun iv _ _ => N.length - (intOf iv).toNat)
  case atStart => exact ⟨0, rfl, by omega, ST.out⟩
  case round =>
    obtain ⟨i, rfl, hi, hh⟩ := hrel
    clear ST
    by_cases hlt : i < N.length
    · obtain ⟨⟨s, gf⟩, hp⟩ : ∃ p, N[i]? = some p := ⟨_, List.getElem?_eq_getElem hlt⟩
      obtain ⟨own', h1, h2, h3, h4, h5, h6, h7, h8, h9, h10, h11⟩ := hh.out
      obtain ⟨F0, hF0⟩ := NFS.out (s, gf) (List.mem_of_getElem? hp)
      obtain ⟨F, hF⟩ := crAll_some (zs := zs.tail) ((N.take i).map (·.2)) hF0
      obtain ⟨q1, q2, q3, q4⟩ := h5 gf F hF
      obtain ⟨bv, rfl⟩ := VF.out.2.2 i hlt
      have kc : wr.cell? ⟨bv, i, none⟩ = some (.string ⟨s.toArray⟩) := by
        have h := h10.cellAt i (by omega)
        rw [h]
        exact namesV_get N i (s, gf) hp
      have k2 : wr.cell? ⟨g, 2, none⟩ = some (.map (some bf)) := Blk.cell h7 2
      have CR := Lib.hid (fcrash_I q4 q2 q1 q3 (Nat.le_trans LOW.out.1 h11.size) h2 h6 h3 (fun hp => by have := (LOW.out.2.1 gl hp).2; have := HV.out; omega) (fun b hp => ⟨by rw [h1 b (LOW.out.2.1 b hp).2]; exact (LOW.out.2.1 b hp).1, Nat.lt_of_lt_of_le (LOW.out.2.1 b hp).2 h11.size⟩))
      have LK := Lib.hid (show look (nmD N) ⟨s.toArray⟩ = (gf : Int) by
        rw [look_nm]
        have : nFind N s = some gf := nFind_of_mem NR.out (List.mem_of_getElem? hp)
        simp [this])
      have SZ := Lib.hid (show (⟨s.toArray⟩ : ByteArray).size ≤ maxLen from by
        obtain ⟨es, he, hk⟩ := h8.keysOf
        injection he with he
        obtain ⟨key, hkey⟩ := hk (Lit.string s, fd (gf : Int)) (by rw [← he]; exact List.mem_map.2 ⟨(s, gf), List.mem_of_getElem? hp, rfl⟩)
        obtain ⟨x, _, hx, hxl⟩ := Maps.keyOf_str Tryz.underlying9 hkey
        injection hx with hx
        subst hx
        exact hxl)
      have STEP := Lib.hid (fun w' (t : TK w' B gl _) c own'' o1 o2 f => crash_step (own' := own') (own'' := own'') (w' := w') HV.out ⟨DL.out.1, DL.out.2.1, DL.out.2.2.1⟩ DOM.out (NEG.out gf F0 hF0) hp hF h1 h3 h4 h5 h6 h7 h8 h9 h10 h11 t c o1 o2 f)
      have H8 := Lib.hid h8
      have z1 : (i : Int) < (N.length : Int) := by omega
      have z2 : (0 : Int) ≤ (i : Int) := by omega
      have z4 := NLN.out
      have z3 : IntKind.i64.wrap ((i : Int) + 1) = (i : Int) + 1 := by rw [IntKind.wrap_i64]; omega
      clear hh h1 h2 h3 h4 h5 h6 h7 h8 h9 h10 h11 q1 q2 q3 q4 hF hF0
      go_wp2_with (at_lookup; go_must (refine wpList_look rfl (.tmp 41) (.tmp 42) rfl bf (nf + nk) (nmD N) rfl H8.out ⟨s.toArray⟩ rfl SZ.out ?_; intro f hf hlk; rw [LK.out] at hlk; subst hlk; rw [pv_at]; clear hf))
      refine CR.out.mono ?_
      rintro e w6 ⟨rfl, tk6, ch6, own'', o1, o2, f6⟩
      have FIN := Lib.hid (STEP.out w6 tk6 ch6 own'' o1 o2 f6)
      have HLT := Lib.hid hlt
      clear tk6 ch6 o1 o2 f6 CR STEP kc k2 H8
      go_wp2_with fail
      go_roundw
      case rel => exact ⟨i + 1, by go_num, HLT.out, FIN.out⟩
      case measure => simp [intOf]; have := HLT.out; omega
    · obtain rfl : N.length = i := by omega
      obtain ⟨own', h1, h2, h3, h4, h5, h6, h7, h8, h9, h10, h11⟩ := hh.out
      rw [List.take_length] at h5
      obtain ⟨b', hb'⟩ : ∃ b', b' = wr.heap.size := ⟨_, rfl⟩
      have k2 : wr.cell? ⟨g, 2, none⟩ = some (.map (some bf)) := Blk.cell h7 2
      have CL := Lib.hid (mclone_any N bf (nf + nk) wr h8)
      rw [← hb'] at CL
      have HB := Lib.hid hb'
      have E := Lib.hid (And.intro h1 (And.intro h2 (And.intro h5 (And.intro h7 (And.intro h8 h11)))))
      clear hh h1 h2 h3 h4 h5 h6 h7 h8 h9 h10 h11 hb'
      go_wp2_with fail
      refine CL.out.mono ?_
      rintro e w7 ⟨rfl, nm7, s7⟩
      have M7 : MedB w7 g M.room bn bf (.slice none 0 0) M.left M.off := E.out.2.2.2.1.still s7
      have k1 : w7.cell? ⟨g, 1, none⟩ = some (.map (some bn)) := Blk.cell M7 1
      have k4 : w7.cell? ⟨g, 4, none⟩ = some (.int .i64 M.left) := Blk.cell M7 4
      have k5 : w7.cell? ⟨g, 5, none⟩ = some (.bool M.off) := Blk.cell M7 5
      have f1 := Blk.frozen M7 1
      have f4 := Blk.frozen M7 4
      have f5 := Blk.frozen M7 5
      have N7 := Lib.hid nm7
      have S7 := Lib.hid s7
      have MM := Lib.hid M7
      clear nm7 s7 M7 k2 CL
      go_wp2_with fail
      go_end0
      obtain ⟨e1, e2, e3, e4, e5, e6⟩ := E.out
      have r := crash_end HN.out OK.out NOG.out ⟨DL.out.1, DL.out.2.1, DL.out.2.2.1⟩ DOM.out HB.out LOW.out.1 e1 e2 e3 e5 e6 MM.out N7.out S7.out (by have := DN.out.2; have := HK.out.1; omega)
      exact ⟨rfl, r.1, _, r.2.1, r.2.2⟩
end Go.Proofs.YtblgphfdicffcaaGreatDoor

/- Contracts: All and Size of a file that is there. It proves no statement. -/


namespace Go.Proofs.YtblgphfdicffcaaGreatDoor
open Go.RowKit Go.Maps Go.WideMaps
set_option linter.unusedVariables false
set_option linter.unusedSimpArgs false

set_option maxRecDepth 100000 in
set_option maxHeartbeats 1600000 in
theorem all_ok {w : World} {g : Nat} {room : Int} {bn bf : Nat} {wv : Value} {left : Int} (h : MedB w g room bn bf wv left false) (s : ByteArray) (hs : s.size ≤ maxLen) (n : Nat) (D : DataW Unit) (hown : NM w bn n D) (gf nf base : Nat) (nv fv wtv : Value) (l : List UInt8) (hlk : look D s = (gf : Int)) (hf : FileB w gf nv fv wtv) (hnv : w.ownsRow base 5 1 nv nf (bytesV l)) (hn : nf ≤ 100000000) :
    Calls Tryz.prog 147 #[.pointer (some ⟨g, 0, none⟩), .string s] w fun e w' => (∃ v, e = .returned (.tuple #[v, .int .i64 0]) ∧ w'.ownsRow w.heap.size 5 1 v nf (bytesV l)) ∧ Still w w' := by
  obtain ⟨A, c, rfl, f1, f2, f3⟩ := own_form hnv
  have FD := Lib.hid (find_yes h s n D hown hs)
  rw [hlk, show findV false (gf : Int) = pv (gf : Int) from rfl, pv_at, show findE false (gf : Int) = if (gf : Int) < 0 then 9 else 0 from rfl, if_neg (by omega)] at FD
  have CL := Lib.hid (bclone_any A nf c l w w.heap.size (Reads.of_own hnv) (Nat.le_refl _) (by omega) f3)
  have c0 : w.cell? ⟨gf, 0, none⟩ = some (.slice A nf c) := Blk.cell hf 0
  clear h hown hs hlk hf hnv hn f1 f2 f3
  go_enter Tryz.func147, Tryz.ntmps147
  go_wp2_with fail
  refine FD.out.mono ?_
  rintro e w2 ⟨rfl, rfl⟩
  go_wp2_with fail
  refine CL.out.mono ?_
  rintro e w3 ⟨⟨v, rfl, o3⟩, s3⟩
  have O3 := Lib.hid o3
  have S3 := Lib.hid s3
  clear o3 s3 CL FD
  go_wp2_with fail
  go_ret2
  exact ⟨⟨_, rfl, O3.out⟩, S3.out⟩
theorem all_none {w : World} {g : Nat} {room : Int} {bn bf : Nat} {wv : Value} {left : Int} {off : Bool} (h : MedB w g room bn bf wv left off) (s : ByteArray) (hs : s.size ≤ maxLen) (n : Nat) (D : DataW Unit) (hown : NM w bn n D) (hno : off = true ∨ look D s = -1) :
    Calls Tryz.prog 147 #[.pointer (some ⟨g, 0, none⟩), .string s] w fun e w' => e = .returned (.tuple #[.slice none 0 0, .int .i64 (findE off (look D s))]) ∧ w = w' := by
  have FD := Lib.hid (find_yes h s n D hown hs)
  have key : findV off (look D s) = .pointer none ∧ (findE off (look D s) != 0) = true := by
    rcases hno with rfl | hno
    · exact ⟨rfl, rfl⟩
    · rw [hno]
      cases off <;> exact ⟨rfl, rfl⟩
  rw [key.1] at FD
  obtain ⟨E, hE⟩ : ∃ E, E = findE off (look D s) := ⟨_, rfl⟩
  rw [← hE] at FD key ⊢
  have b1 := key.2
  clear h hown hs hno key hE
  go_enter Tryz.func147, Tryz.ntmps147
  go_wp2_with fail
  refine FD.out.mono ?_
  rintro e w2 ⟨rfl, rfl⟩
  go_wp2_with fail
  go_ret2
  exact ⟨rfl, rfl⟩
end Go.Proofs.YtblgphfdicffcaaGreatDoor

/- A medium's calls, where nothing stands against them: New, Create. It proves no statement. -/


namespace Go.Proofs.YtblgphfdicffcaaGreatDoor
open Go.RowKit Go.Maps Go.WideMaps Go.Sort
set_option linter.unusedVariables false
set_option linter.unusedSimpArgs false

theorem ownSize {w : World} {base : Nat} {own : Own} (h : ∀ b, own b ≠ none → base ≤ b ∧ b < w.heap.size) {b : Nat} (hb : w.heap.size ≤ b) : own b = none := by
  cases hq : own b with
  | none => rfl
  | some q => have := (h b (by rw [hq]; simp)).2; omega
/-- A medium that is new. -/
def Me.new (room : Int) : Me := { room := room, left := -1, off := false, now := [], fast := [], wait := [], fs := fun _ => none, cnt := 0 }
theorem Me.new_ok {room : Int} (h : 0 ≤ room ∧ room ≤ 16777216) : (Me.new room).ok where
  rn := Rising.nil
  rf := Rising.nil
  ff := fun p hp => by cases hp
  fw := fun x hx => by cases hx
  eq := rfl
  room := h
  left := ⟨by show (-1 : Int) ≤ -1; omega, by show (-1 : Int) ≤ 9223372036854775807; omega⟩
  len := Nat.le_refl _
theorem new_I (room : Int) (w : World) (h : 0 ≤ room ∧ room ≤ 16777216) :
    Calls Tryz.prog 26 #[.int .i64 room] w fun e w' => ∃ g own, e = .returned (.tuple #[.pointer (some ⟨g, 0, none⟩), .int .i64 0]) ∧ w.heap.size ≤ g ∧ MedI w' w.heap.size own g (Me.new room) ∧ Still w w' := by
  refine (new_yes room w h).mono ?_
  rintro e w' ⟨g, bn, bf, he, m, n1, n2, l1, l2, l3, hne, s⟩
  have hgb := nm_ne n1 m
  have hgf := nm_ne n2 m
  refine ⟨g, fun b => if b = g then some (g, 0) else if b = bn then some (g, 1) else if b = bf then some (g, 2) else none, he, l3, ⟨⟨bn, bf, .slice none 0 0, [], 0, 0, m, n1, n2, Nat.le_refl _, Nat.le_refl _, World.ownsRow_nil _ _ _ _, HasN.nil, Nat.le_refl _, if_pos rfl, ?_, ?_, (fun b hb => by simp [Value.ownBlock] at hb)⟩, (fun gf F hF => by cases hF), ?_, s.size, rfl⟩, s⟩
  · show (if bn = g then some (g, 0) else if bn = bn then some (g, 1) else if bn = bf then some (g, 2) else none) = _
    rw [if_neg hgb, if_pos rfl]
  · show (if bf = g then some (g, 0) else if bf = bn then some (g, 1) else if bf = bf then some (g, 2) else none) = _
    rw [if_neg hgf, if_neg (fun e => hne e.symm), if_pos rfl]
  · intro b hb
    change (if b = g then some (g, 0) else if b = bn then some (g, 1) else if b = bf then some (g, 2) else none) ≠ none at hb
    split at hb
    · rename_i e; subst e; exact ⟨l3, Blk.lt m⟩
    · split at hb
      · rename_i e; subst e; exact ⟨l1, n1.lt⟩
      · split at hb
        · rename_i e; subst e; exact ⟨l2, n2.lt⟩
        · exact absurd rfl hb
def stepL (left : Int) : Int := (stepR left false).1
theorem stepL_ok {left : Int} (h : -1 ≤ left ∧ left ≤ 9223372036854775807) (h0 : left ≠ 0) : -1 ≤ stepL left ∧ stepL left ≤ 9223372036854775807 := by
  unfold stepL stepR
  rw [if_neg h0]
  split
  · simp only; omega
  · exact h
theorem nmSteps_snoc (N : NT) (X : List (ByteArray × ByteArray × Int)) (x : ByteArray × ByteArray × Int) : nmSteps N (X ++ [x]) = nmStep (nmSteps N X) x := by simp [nmSteps, List.foldl_append]
/-- A change of names. -/
def Me.link (M : Me) (x : ByteArray × ByteArray × Int) (fs : Nat → Option Fi) : Me := { M with left := stepL M.left, now := nmStep M.now x, wait := M.wait ++ [x], fs := fs, cnt := M.cnt + 1 }
theorem Me.link_ok {M : Me} (h : M.ok) (h0 : M.left ≠ 0) (x : ByteArray × ByteArray × Int) (fs : Nat → Option Fi) (hfs : ∀ gf F, M.fs gf = some F → ∃ G, fs gf = some G) (hx : 0 ≤ x.2.2 → ∃ F, fs x.2.2.toNat = some F) : (M.link x fs).ok where
  rn := h.rn.step x
  rf := h.rf
  ff := fun p hp => by obtain ⟨F, hF⟩ := h.ff p hp; exact hfs _ F hF
  fw := fun y hy h1 => by
    rcases List.mem_append.1 hy with hy | hy
    · obtain ⟨F, hF⟩ := h.fw y hy h1; exact hfs _ F hF
    · have : y = x := by simpa using hy
      subst this
      exact hx h1
  eq := by show nmStep M.now x = nmSteps M.fast (M.wait ++ [x]); rw [nmSteps_snoc, h.eq]
  room := h.room
  left := stepL_ok h.left h0
  len := by have := h.len; show M.fast.length + (M.wait ++ [x]).length ≤ M.cnt + 1; rw [List.length_append]; simp; omega
/-- What a change of names leaves in memory. -/
theorem link_dir {w w' : World} {base g bn bf nn nf : Nat} {own own' : Own} {M : Me} {wv wv' : Value} {ns : List Value} {x : ByteArray × ByteArray × Int} {fs : Nat → Option Fi}
    (d3 : NM w bf nf (nmD M.fast)) (d4 : nn ≤ M.cnt) (d5 : nf + M.wait.length ≤ M.cnt) (d7 : HasN M.wait ns) (d8 : M.wait.length ≤ M.cnt) (d9 : own g = some (g, 0)) (d10 : own bn = some (g, 1)) (d11 : own bf = some (g, 2)) (d12 : ∀ b, wv.ownBlock = some b → own b = some (g, 3)) (hb : bn ≠ bf) (hd1 : MedB w g M.room bn bf wv M.left M.off) (hd6 : w.ownsRow base 214 3 wv M.wait.length ns)
    (m : MedB w' g M.room bn bf wv' (stepL M.left) M.off) (r : w'.ownsRow base 214 3 wv' (M.wait.length + 1) (ns ++ nmL x.1 x.2.1 x.2.2)) (q : NM w' bn (nn + 1) (nmDo (nmD M.now) x.1 x.2.1 x.2.2)) (c : Chg w w' (fun y => y = g ∨ y = bn ∨ wv.ownBlock = some y)) (loc : wv'.ownBlock = wv.ownBlock ∨ ∃ j, wv'.ownBlock = some j ∧ w.heap.size ≤ j)
    (hx1 : x.1.size ≤ maxLen) (hx2 : x.2.1.size ≤ maxLen) (hx3 : x.2.2 = -1 ∨ 0 ≤ x.2.2) (o1 : ∀ b, b < w.heap.size → own' b = own b) (o3 : ∀ b, w.heap.size ≤ b → wv'.ownBlock = some b → own' b = some (g, 3)) (hlt : g < w.heap.size ∧ bn < w.heap.size ∧ bf < w.heap.size) :
    DirI w' base own' g (M.link x fs) := by
  rw [nmDo_nm] at q
  have hl : (M.wait ++ [x]).length = M.wait.length + 1 := by simp
  refine ⟨bn, bf, wv', _, nn + 1, nf, m, q, c.nm d3 ?_, by show nn + 1 ≤ M.cnt + 1; omega, by show nf + (M.wait ++ [x]).length ≤ M.cnt + 1; omega, by show w'.ownsRow base _ 3 wv' (M.wait ++ [x]).length _; rw [hl]; exact r, d7.snoc x.1 x.2.1 x.2.2 hx1 hx2 hx3, by show (M.wait ++ [x]).length ≤ M.cnt + 1; omega, by rw [o1 g hlt.1]; exact d9, by rw [o1 bn hlt.2.1]; exact d10, by rw [o1 bf hlt.2.2]; exact d11, ?_⟩
  · rintro (e | e | e)
    · rw [e, d9] at d11; simp at d11
    · exact hb e.symm
    · rw [d12 bf e] at d11; simp at d11
  · intro b hbk
    rcases loc with h | ⟨j, h, hj⟩
    · rw [h] at hbk
      rw [o1 b (hd6.lt b hbk).2]
      exact d12 b hbk
    · rw [h] at hbk
      injection hbk with hbk
      subst hbk
      exact o3 _ hj h
theorem create_I {w : World} {base g : Nat} {own : Own} {M : Me} (s : ByteArray) (h : MedI w base own g M) (hok : M.ok) (hoff : M.off = false) (hl0 : M.left ≠ 0) (hcnt : M.cnt ≤ 900000) (hs : s.size ≤ maxLen) (hnm : nmOK s.data.toList = true) (hno : nFind M.now s.data.toList = none) (hsz : M.now.length < 500) :
    Calls Tryz.prog 142 #[.pointer (some ⟨g, 0, none⟩), .string s] w fun e w' => e = .returned (.int .i64 0) ∧ Chg w w' (fun b => own b ≠ none) ∧ ∃ (own' : Own) (gf : Nat), (∀ b, b < w.heap.size → own' b = own b) ∧ M.fs gf = none ∧ w.heap.size ≤ gf ∧ MedI w' base own' g (M.link (⟨#[]⟩, s, (gf : Int)) (upd M.fs gf ⟨[], [], []⟩)) := by
  obtain ⟨⟨bn, bf, wv, ns, nn, nf, d1, d2, d3, d4, d5, d6, d7, d8, d9, d10, d11, d12⟩, hfi, hdom, hlow, hnog⟩ := h
  have hlt : g < w.heap.size ∧ bn < w.heap.size ∧ bf < w.heap.size := ⟨Blk.lt d1, d2.lt, d3.lt⟩
  have hbb : bn ≠ bf := fun e => by rw [e, d11] at d10; simp at d10
  have d1' := d1
  rw [hoff] at d1
  refine (create_ok d1 hok.left.2 hl0 s nn M.wait.length base (nmD M.now) ns d2 (by omega) hs d6 (by omega) hlow hnm (by rw [look_nm, hno]) (by rw [size_nm]; exact hsz)).mono ?_
  rintro e w' ⟨he, gf, wv', hgf, fb, m, r, q, c, loc⟩
  have hwv : ∀ b, w.heap.size ≤ b → wv'.ownBlock = some b → (fun b => if b = gf then some (gf, 0) else if w.heap.size ≤ b ∧ wv'.ownBlock = some b then some (g, 3) else own b) b = some (g, 3) := by
    intro b hb hw
    show (if b = gf then some (gf, 0) else if w.heap.size ≤ b ∧ wv'.ownBlock = some b then some (g, 3) else own b) = _
    rw [if_neg (fun e => own_neM fb r (by decide) (by rw [hw, e])), if_pos ⟨hb, hw⟩]
  have ho : ∀ b, b < w.heap.size → (fun b => if b = gf then some (gf, 0) else if w.heap.size ≤ b ∧ wv'.ownBlock = some b then some (g, 3) else own b) b = own b := by
    intro b hb
    show (if b = gf then some (gf, 0) else if w.heap.size ≤ b ∧ wv'.ownBlock = some b then some (g, 3) else own b) = _
    rw [if_neg (by omega), if_neg (fun e => by omega)]
  have hcS : ∀ b, (b = g ∨ b = bn ∨ wv.ownBlock = some b) → ∃ k, own b = some (g, k) := by
    rintro b (rfl | rfl | e)
    · exact ⟨0, d9⟩
    · exact ⟨1, d10⟩
    · exact ⟨3, d12 b e⟩
  have hfg : M.fs gf = none := by
    cases hq : M.fs gf with
    | none => rfl
    | some F => have := (hfi gf F hq).2.2.2.lt; omega
  refine ⟨he, c.mono (fun b _ hs => by obtain ⟨k, hk⟩ := hcS b hs; rw [hk]; simp), _, gf, ho, hfg, hgf, ?_, ?_, ?_, ?_, ?_⟩
  · have m' : MedB w' g M.room bn bf wv' (stepL M.left) M.off := by rw [hoff]; exact m
    exact link_dir (fs := upd M.fs gf ⟨[], [], []⟩) (x := (⟨#[]⟩, s, (gf : Int))) d3 d4 d5 d7 d8 d9 d10 d11 d12 hbb d1' d6 m' r q c loc (by show (⟨#[]⟩ : ByteArray).size ≤ maxLen; decide) hs (.inr (by show (0 : Int) ≤ gf; omega)) ho hwv hlt
  · refine hfi.turn c gf ?_ ho ⟨[], [], []⟩ ⟨Nat.le_trans hlow hgf, ⟨rfl, ChOK.nil (by simp)⟩, by simp, .slice none 0 0, .slice none 0 0, .slice none 0 0, [], fb, World.ownsRow_nil _ _ _ _, World.ownsRow_nil _ _ _ _, World.ownsRow_nil _ _ _ _, HasC.nil _ _ _, if_pos rfl, fun b hb => by simp [Value.ownBlock] at hb, fun b hb => by simp [Value.ownBlock] at hb, fun b hb => by simp [Value.ownBlock] at hb⟩
    intro b x k hs hx hfs e
    obtain ⟨k2, hk2⟩ := hcS b hs
    rw [hk2] at e
    simp at e
    rw [← e.1] at hfs
    exact hfs hnog
  · intro b hb
    change (if b = gf then some (gf, 0) else if w.heap.size ≤ b ∧ wv'.ownBlock = some b then some (g, 3) else own b) ≠ none at hb
    split at hb
    · rename_i e; subst e; exact ⟨Nat.le_trans hlow hgf, Blk.lt fb⟩
    · split at hb
      · rename_i e; exact r.lt b e.2
      · have := hdom b hb; have := c.size; omega
  · exact Nat.le_trans hlow c.size
  · show upd M.fs gf _ g = none
    rw [upd_other _ _ (by omega)]
    exact hnog
end Go.Proofs.YtblgphfdicffcaaGreatDoor

/- A medium's calls, where nothing stands against them: Append, Sync, SyncDir, All. It proves no statement. -/

namespace Go.Proofs.YtblgphfdicffcaaGreatDoor
open Go.RowKit Go.Maps Go.WideMaps Go.Sort
set_option linter.unusedVariables false
set_option linter.unusedSimpArgs false

/-- How many bytes a file has. -/
def Me.sz (M : Me) (f : Int) : Nat := match M.fs f.toNat with | some F => F.now.length | none => 0
def Me.used (M : Me) : Nat := usedOf M.sz (nmD M.now)
theorem sized_I {w : World} {base g : Nat} {own : Own} {M : Me} (h : MedI w base own g M) (hok : M.ok) : Sized w (nmD M.now) M.sz := by
  intro p hp
  obtain ⟨q, hq, rfl⟩ := List.mem_map.1 (show p ∈ M.now.map fun p => (Lit.string p.1, fd (p.2 : Int)) from hp)
  obtain ⟨F, hF⟩ : ∃ F, M.fs q.2 = some F := by
    have h1 := hok.eq
    rw [h1] at hq
    exact steps_files hok.ff hok.fw q hq
  obtain ⟨nv, fv, wv, cs, h1, h2, _⟩ := (h.files q.2 F hF).2.2.2
  obtain ⟨A, c, rfl, _⟩ := own_form h2
  refine ⟨q.2, rfl, A, c, fv, wv, ?_⟩
  have : M.sz (q.2 : Int) = F.now.length := by unfold Me.sz; simp [hF]
  rw [this]
  exact h1
/-- A file's bytes changed. -/
def Fi.wrote (F : Fi) (c : Ch) : Fi := ⟨c.app F.now, F.fast, F.wait ++ [c]⟩
theorem Fi.wrote_ok {F : Fi} (h : F.ok) (c : Ch) (h1 : c.fin ≤ F.now.length) (h2 : c.more = [] ∨ c.fin = F.now.length) (h3 : c.fin + c.more.length ≤ 16777216) : (F.wrote c).ok := by
  refine ⟨?_, ?_⟩
  · show c.app F.now = appAll F.fast (F.wait ++ [c])
    rw [appAll_snoc, ← h.1]
    rfl
  · exact h.2.snoc c (by rw [← h.1]; exact h1) (by rw [← h.1]; exact h2) h3
def Me.wrote (M : Me) (gf : Nat) (F : Fi) : Me := { M with left := stepL M.left, fs := upd M.fs gf F, cnt := M.cnt + 1 }
theorem Me.wrote_ok {M : Me} (h : M.ok) (h0 : M.left ≠ 0) (gf : Nat) (F : Fi) : (M.wrote gf F).ok where
  rn := h.rn
  rf := h.rf
  ff := fun p hp => by obtain ⟨G, hG⟩ := h.ff p hp; exact upd_some hG
  fw := fun y hy h1 => by obtain ⟨G, hG⟩ := h.fw y hy h1; exact upd_some hG
  eq := h.eq
  room := h.room
  left := stepL_ok h.left h0
  len := by have := h.len; show M.fast.length + M.wait.length ≤ M.cnt + 1; omega
theorem look_found {N : NT} {s : ByteArray} {gf : Nat} (h : nFind N s.data.toList = some gf) : look (nmD N) s = (gf : Int) := by rw [look_nm, h]
set_option maxHeartbeats 800000 in
theorem append_I {w : World} {base g : Nat} {own : Own} {M : Me} (s : ByteArray) (gf : Nat) (F : Fi) (A : Option Addr) (m c B : Nat) (x : List UInt8) (h : MedI w base own g M) (hok : M.ok) (hoff : M.off = false) (hl0 : M.left ≠ 0) (hs : s.size ≤ maxLen) (hlk : nFind M.now s.data.toList = some gf) (hF : M.fs gf = some F) (hk : F.wait.length < 1000000)
    (hr : Reads w B A m x) (hB : B ≤ w.heap.size) (hA : A = none → m = 0 ∧ c = 0) (hu : M.used ≤ 35184372088832) (hroom : (m : Int) + M.used ≤ M.room) (hfm : F.now.length + m ≤ 16777216) :
    Calls Tryz.prog 206 #[.pointer (some ⟨g, 0, none⟩), .string s, .slice A m c] w fun e w' => e = .returned (.int .i64 0) ∧ Chg w w' (fun b => own b ≠ none) ∧ ∃ own' : Own, (∀ b, b < w.heap.size → own' b = own b) ∧ MedI w' base own' g (M.wrote gf (F.wrote ⟨F.now.length, x⟩)) := by
  have hsz := sized_I h hok
  obtain ⟨hdir, hfi, hdom, hlow, hnog⟩ := h
  have hdir2 := hdir
  obtain ⟨bn, bf, wv, ns, nn, nf, d1, d2, d3, d4, d5, d6, d7, d8, d9, d10, d11, d12⟩ := hdir
  obtain ⟨q1, q2, q3, nv, fv, wtv, cs, f1, f2, f3, f4, f5, f6, f7, f8, f9⟩ := hfi gf F hF
  have hgg : gf ≠ g := fun e => by rw [e, hnog] at hF; cases hF
  have hgl := Blk.lt f1
  have d1' := d1
  rw [hoff] at d1
  refine (append_ok d1 hok.left.2 hl0 s hs nn (nmD M.now) d2 M.sz hsz gf F.now.length base F.wait.length nv fv wtv F.now x cs A m c B (look_found hlk) f1 f2 f4 hlow hr hB hA (by omega) (by omega) hu hroom hok.room.2).mono ?_
  rintro e w' ⟨he, nv', wtv', cv, m1, fb, r1, r2, r3, ch, l1, l2, l3⟩
  have hxl : x.length = m := hr.1
  have hgs : ∀ b, wrS g gf nv wtv b → b = g ∨ ∃ k, own b = some (gf, k) := by
    rintro b (h | h | h | h)
    · exact .inl h
    · exact .inr ⟨0, by rw [h]; exact f6⟩
    · exact .inr ⟨1, f7 b h⟩
    · exact .inr ⟨3, f9 b h⟩
  have hcm : ∀ b, wrS g gf nv wtv b → own b ≠ none := by
    intro b hb
    rcases hgs b hb with rfl | ⟨k, hk⟩
    · rw [d9]; simp
    · rw [hk]; simp
  obtain ⟨own', ho⟩ : ∃ own' : Own, own' = fun b => if w.heap.size ≤ b ∧ nv'.ownBlock = some b then some (gf, 1) else if w.heap.size ≤ b ∧ wtv'.ownBlock = some b then some (gf, 3) else if cv.ownBlock = some b then some (gf, 4 + F.wait.length) else own b := ⟨_, rfl⟩
  have hold : ∀ b, b < w.heap.size → own' b = own b := by
    intro b hb
    rw [ho]
    show (if _ then _ else if _ then _ else if _ then _ else own b) = _
    rw [if_neg (fun e => by omega), if_neg (fun e => by omega), if_neg (fun e => by have := (r3.lt b e).1; omega)]
  have hcv : ∀ b, cv.ownBlock = some b → own' b = some (gf, 4 + F.wait.length) := by
    intro b hb
    rw [ho]
    show (if _ then _ else if _ then _ else if _ then _ else own b) = _
    rw [if_neg (fun e => l3 b e.2 hb), if_neg (fun e => own_own_ne r3 r2 (by decide) b hb e.2), if_pos hb]
  have hnv : ∀ b, nv'.ownBlock = some b → own' b = some (gf, 1) := by
    intro b hb
    rcases l1 with h | ⟨j, h, hj⟩
    · rw [h] at hb
      rw [hold b (f2.lt b hb).2]
      exact f7 b hb
    · have e : j = b := by rw [h] at hb; injection hb
      subst e
      rw [ho]
      show (if _ then _ else _) = _
      rw [if_pos ⟨hj, h⟩]
  have hwt : ∀ b, wtv'.ownBlock = some b → own' b = some (gf, 3) := by
    intro b hb
    rcases l2 with h | ⟨j, h, hj⟩
    · rw [h] at hb
      rw [hold b (f4.lt b hb).2]
      exact f9 b hb
    · have e : j = b := by rw [h] at hb; injection hb
      subst e
      rw [ho]
      show (if _ then _ else if _ then _ else _) = _
      rw [if_neg (fun e => own_own_ne r1 r2 (by decide) j e.2 h), if_pos ⟨hj, h⟩]
  have hdm : ∀ b, own' b ≠ none → base ≤ b ∧ b < w'.heap.size := by
    intro b hb
    rw [ho] at hb
    change (if _ then _ else if _ then _ else if _ then _ else own b) ≠ none at hb
    split at hb
    · rename_i e; exact r1.lt b e.2
    · split at hb
      · rename_i e; exact r2.lt b e.2
      · split at hb
        · rename_i e; exact ⟨Nat.le_trans hlow (r3.lt b e).1, (r3.lt b e).2⟩
        · have := hdom b hb; have := ch.size; omega
  clear ho
  refine ⟨he, ch.mono (fun b _ hb => hcm b hb), own', hold, ⟨?_, ?_, hdm, Nat.le_trans hlow ch.size, ?_⟩⟩
  · have hg' : ∀ b k, own b = some (g, k) → b ≠ g → ¬ wrS g gf nv wtv b := by
      intro b k hb hne hs
      rcases hgs b hs with h | ⟨q, hq⟩
      · exact hne h
      · rw [hb] at hq; simp at hq; exact hgg hq.1.symm
    have hbg : bn ≠ g := nm_ne d2 d1
    have hfg : bf ≠ g := nm_ne d3 d1
    have m2 : MedB w' g M.room bn bf wv (stepL M.left) M.off := by rw [hoff]; exact m1
    refine ⟨bn, bf, wv, ns, nn, nf, m2, ch.nm d2 (hg' bn 1 d10 hbg), ch.nm d3 (hg' bf 2 d11 hfg), by show nn ≤ M.cnt + 1; omega, by show nf + M.wait.length ≤ M.cnt + 1; omega, ch.own d6 (fun b hb => hg' b 3 (d12 b hb) (fun e => own_neM d1 d6 (by decide) (by rw [hb, e]))), d7, by show M.wait.length ≤ M.cnt + 1; omega, by rw [hold g (Blk.lt d1)]; exact d9, by rw [hold bn d2.lt]; exact d10, by rw [hold bf d3.lt]; exact d11, fun b hb => by rw [hold b (d6.lt b hb).2]; exact d12 b hb⟩
  · refine hfi.turn ch gf ?_ hold _ ⟨q1, Fi.wrote_ok q2 _ (Nat.le_refl _) (.inr rfl) (by show F.now.length + x.length ≤ 16777216; omega), by show (F.wait ++ [_]).length ≤ 1000000; simp; omega, ?_⟩
    · intro b y k hs hy hfs e
      rcases hgs b hs with h | ⟨q, hq⟩
      · rw [h, d9] at e; simp at e; rw [← e.1] at hfs; exact hfs hnog
      · rw [hq] at e; simp at e; exact hy e.1.symm
    · have ef : (F.wrote ⟨F.now.length, x⟩).now = F.now ++ x := by show F.now.take F.now.length ++ x = _; rw [List.take_length]
      have el : (F.wait ++ [(⟨F.now.length, x⟩ : Ch)]).length = F.wait.length + 1 := by simp
      have hns : ∀ b k, own b = some (gf, k) → k ≠ 0 → k ≠ 1 → k ≠ 3 → ¬ wrS g gf nv wtv b := by
        intro b k hb k0 k1 k3 hs
        rcases hs with h | h | h | h
        · rw [h, d9] at hb; simp at hb; exact hgg hb.1.symm
        · rw [h, f6] at hb; simp at hb; exact k0 hb.symm
        · rw [f7 b h] at hb; simp at hb; exact k1 hb.symm
        · rw [f9 b h] at hb; simp at hb; exact k3 hb.symm
      refine ⟨nv', fv, wtv', cs ++ [.int .i64 (F.now.length : Int), cv], fb, ?_, ch.own f3 (fun b hb => hns b 2 (f8 b hb) (by omega) (by omega) (by omega)), ?_, ?_, by rw [hold gf hgl]; exact f6, hnv, fun b hb => by rw [hold b (f3.lt b hb).2]; exact f8 b hb, hwt⟩
      · rw [ef, List.length_append, hxl]; exact r1
      · show w'.ownsRow base _ 2 wtv' (F.wait ++ [(⟨F.now.length, x⟩ : Ch)]).length _
        rw [el]; exact r2
      · have f5' : HasC w' base F.wait cs (fun j b => own' b = some (gf, 4 + j)) := by
          have f5a := f5.mono (G := fun j b => own b = some (gf, 4 + j) ∧ b < w.heap.size) (fun j b _ hb h => ⟨h, hb⟩)
          have f5b := f5a.keep ch (fun j b hb => hns b (4 + j) hb.1 (by omega) (by omega) (by omega))
          exact f5b.mono (fun j b _ _ h => by rw [hold b h.2]; exact h.1)
        exact f5'.snoc ⟨F.now.length, x⟩ cv (by rw [show (⟨F.now.length, x⟩ : Ch).more.length = m from hxl]; exact own_low r3 hlow) (fun b hb => hcv b hb)
  · show upd M.fs gf _ g = none
    rw [upd_other _ _ (fun e => hgg e.symm)]
    exact hnog
end Go.Proofs.YtblgphfdicffcaaGreatDoor
