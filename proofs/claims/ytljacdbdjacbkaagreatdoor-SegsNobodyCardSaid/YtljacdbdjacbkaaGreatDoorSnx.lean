/- Contracts and facts, several texts in one. It proves no statement. -/
import Derived.Test.YtljacdbdjacbkaaGreatDoorSnn
import Derived.Test.YtljacdbdjacbkaaGreatDoorSnw

/- What a spoilt byte does to a file: the mathematics. It proves no statement. -/

namespace Go.Proofs.YtljacdbdjacbkaaGreatDoor
open Go.RowKit Go.Maps Go.WideMaps Go.Sort
set_option linter.unusedVariables false
set_option linter.unusedSimpArgs false

section
variable {f : UInt8 → UInt8}
theorem modify_left {l m : List UInt8} {i : Nat} (h : i < l.length) : (l ++ m).modify i f = l.modify i f ++ m := by
  apply List.ext_getElem?
  intro j
  rw [List.getElem?_modify]
  by_cases hj : j < l.length
  · rw [List.getElem?_append_left hj, List.getElem?_append_left (by rw [List.length_modify]; exact hj), List.getElem?_modify]
  · rw [List.getElem?_append_right (by omega), List.getElem?_append_right (by rw [List.length_modify]; omega), List.length_modify]
    have : i ≠ j := by omega
    simp [this]
theorem modify_right {l m : List UInt8} {i : Nat} (h : l.length ≤ i) : (l ++ m).modify i f = l ++ m.modify (i - l.length) f := by
  apply List.ext_getElem?
  intro j
  rw [List.getElem?_modify]
  by_cases hj : j < l.length
  · rw [List.getElem?_append_left hj, List.getElem?_append_left hj]
    have : i ≠ j := by omega
    simp [this]
  · rw [List.getElem?_append_right (by omega), List.getElem?_append_right (by omega), List.getElem?_modify]
    by_cases e : i = j
    · simp [e]
    · have : i - l.length ≠ j - l.length := by omega
      simp [e, this]
theorem modify_far {α : Type} {g : α → α} {l : List α} {i : Nat} (h : l.length ≤ i) : l.modify i g = l := by
  apply List.ext_getElem?
  intro j
  rw [List.getElem?_modify]
  by_cases e : i = j
  · rw [List.getElem?_eq_none (by omega)]; rfl
  · simp [e]
/-- The byte's bytes behind it. -/
theorem app_over {b : List UInt8} {c : Ch} {at_ : Nat} (h : at_ < c.fin) (hf : c.fin ≤ b.length) : (b.modify at_ f).take c.fin ++ c.more = (b.take c.fin ++ c.more).modify at_ f := by
  rw [List.take_modify, modify_left (by rw [List.length_take]; omega)]
end
/-- Which change's byte it is: the last one that ends ahead of it; none: what was fast. -/
def Rots (F : Fi) (at_ : Nat) : Option Nat → Prop
  | none => ∀ (j : Nat) (c : Ch), F.wait[j]? = some c → at_ < c.fin
  | some i => (∃ c : Ch, F.wait[i]? = some c ∧ c.fin ≤ at_) ∧ ∀ (j : Nat) (c : Ch), i < j → F.wait[j]? = some c → at_ < c.fin
def Ch.rot (c : Ch) (at_ : Nat) (f : UInt8 → UInt8) : Ch := ⟨c.fin, c.more.modify (at_ - c.fin) f⟩
def Fi.rotAt (F : Fi) (at_ : Nat) (f : UInt8 → UInt8) : Option Nat → Fi
  | none => ⟨F.now.modify at_ f, F.fast.modify at_ f, F.wait⟩
  | some i => ⟨F.now.modify at_ f, F.fast, F.wait.modify i (fun c => c.rot at_ f)⟩
theorem Fi.rot_none {F : Fi} (h : F.ok) {at_ : Nat} (hr : Rots F at_ none) (f : UInt8 → UInt8) (k : Nat) (hk : k ≤ F.wait.length) : appAll (F.fast.modify at_ f) (F.wait.take k) = (appAll F.fast (F.wait.take k)).modify at_ f := by
  induction k with
  | zero => rfl
  | succ k ih =>
    have hc := List.getElem?_eq_getElem (show k < F.wait.length by omega)
    rw [appAll_step _ _ k _ hc, appAll_step _ _ k _ hc, ih (by omega)]
    exact app_over (hr k _ hc) (h.2.2 k _ hc).1
theorem Fi.rot_low {F : Fi} {at_ i : Nat} (f : UInt8 → UInt8) (k : Nat) (hk : k ≤ i) : (F.wait.modify i (fun c => c.rot at_ f)).take k = F.wait.take k := by
  rw [List.take_modify]
  exact modify_far (by rw [List.length_take]; omega)
theorem Fi.rot_some {F : Fi} (h : F.ok) {at_ i : Nat} (hr : Rots F at_ (some i)) (f : UInt8 → UInt8) (k : Nat) (hk : i + 1 + k ≤ F.wait.length) : appAll F.fast ((F.wait.modify i (fun c => c.rot at_ f)).take (i + 1 + k)) = (appAll F.fast (F.wait.take (i + 1 + k))).modify at_ f := by
  induction k with
  | zero =>
    obtain ⟨⟨c, hc, hle⟩, _⟩ := hr
    have hc2 : (F.wait.modify i (fun c => c.rot at_ f))[i]? = some (c.rot at_ f) := by rw [List.getElem?_modify, hc]; simp
    rw [Nat.add_zero, appAll_step _ _ i _ hc2, appAll_step _ _ i _ hc, Fi.rot_low f i (Nat.le_refl _)]
    have hl : ((appAll F.fast (F.wait.take i)).take c.fin).length = c.fin := by rw [List.length_take]; have := (h.2.2 i c hc).1; omega
    rw [modify_right (by omega), hl]
    rfl
  | succ k ih =>
    have hc := List.getElem?_eq_getElem (show i + 1 + k < F.wait.length by omega)
    have hc2 : (F.wait.modify i (fun c => c.rot at_ f))[i + 1 + k]? = some F.wait[i + 1 + k] := by
      rw [List.getElem?_modify, hc]
      have : i ≠ i + 1 + k := by omega
      simp [this]
    rw [← Nat.add_assoc, appAll_step _ _ (i + 1 + k) _ hc2, appAll_step _ _ (i + 1 + k) _ hc, ih (by omega)]
    exact app_over (hr.2 _ _ (by omega) hc) (h.2.2 _ _ hc).1
theorem Fi.rot_in {F : Fi} (h : F.ok) {at_ i : Nat} (hat : at_ < F.now.length) (hr : Rots F at_ (some i)) : ∃ c, F.wait[i]? = some c ∧ c.fin ≤ at_ ∧ at_ - c.fin < c.more.length := by
  obtain ⟨⟨c, hc, hle⟩, hj⟩ := hr
  refine ⟨c, hc, hle, ?_⟩
  have hl : (appAll F.fast (F.wait.take (i + 1))).length ≤ c.fin + c.more.length := by rw [appAll_step _ _ i _ hc, List.length_append, List.length_take]; omega
  have : at_ < (appAll F.fast (F.wait.take (i + 1))).length := by
    by_cases hi : i + 1 < F.wait.length
    · have hd := List.getElem?_eq_getElem hi
      have h1 := hj (i + 1) _ (by omega) hd
      have h2 := (h.2.2 _ _ hd).1
      omega
    · rw [List.take_of_length_le (by omega), ← h.1]
      exact hat
  omega
theorem Fi.rot_fast {F : Fi} (h : F.ok) {at_ : Nat} (hat : at_ < F.now.length) (hr : Rots F at_ none) : at_ < F.fast.length := by
  by_cases hi : 0 < F.wait.length
  · have hd := List.getElem?_eq_getElem hi
    have h1 := hr 0 _ hd
    have h2 := (h.2.2 _ _ hd).1
    rw [List.take_zero, appAll_nil] at h2
    omega
  · have : F.wait = [] := List.eq_nil_of_length_eq_zero (by omega)
    have h1 := h.1
    rw [this, appAll_nil] at h1
    rw [← h1]
    exact hat
theorem Fi.rot_ok {F : Fi} (h : F.ok) {at_ : Nat} (hat : at_ < F.now.length) (f : UInt8 → UInt8) {o : Option Nat} (hr : Rots F at_ o) : (F.rotAt at_ f o).ok := by
  cases o with
  | none =>
    have key := Fi.rot_none h hr f
    refine ⟨?_, ?_, ?_⟩
    · have := key F.wait.length (Nat.le_refl _)
      rw [List.take_length] at this
      show F.now.modify at_ f = appAll (F.fast.modify at_ f) F.wait
      rw [this, ← h.1]
    · show (F.fast.modify at_ f).length ≤ _
      rw [List.length_modify]; exact h.2.1
    · intro j c hc
      have hjl : j < F.wait.length := (List.getElem?_eq_some_iff.1 hc).1
      have := h.2.2 j c hc
      show c.fin ≤ (appAll (F.fast.modify at_ f) (F.wait.take j)).length ∧ (c.more = [] ∨ c.fin = (appAll (F.fast.modify at_ f) (F.wait.take j)).length) ∧ c.fin + c.more.length ≤ 16777216
      rw [key j (by omega), List.length_modify]
      exact this
  | some i =>
    obtain ⟨c, hc, hle, hin⟩ := Fi.rot_in h hat hr
    have hil : i < F.wait.length := (List.getElem?_eq_some_iff.1 hc).1
    have key := Fi.rot_some h hr f
    have hlen : ∀ j, j ≤ F.wait.length → (appAll F.fast ((F.wait.modify i (fun c => c.rot at_ f)).take j)).length = (appAll F.fast (F.wait.take j)).length := by
      intro j hj
      by_cases hji : j ≤ i
      · rw [Fi.rot_low f j hji]
      · obtain ⟨k, rfl⟩ : ∃ k, j = i + 1 + k := ⟨j - (i + 1), by omega⟩
        rw [key k hj, List.length_modify]
    refine ⟨?_, h.2.1, ?_⟩
    · have := key (F.wait.length - (i + 1)) (by omega)
      rw [show i + 1 + (F.wait.length - (i + 1)) = F.wait.length by omega, List.take_length, List.take_of_length_le (by rw [List.length_modify]; omega)] at this
      show F.now.modify at_ f = appAll F.fast (F.wait.modify i (fun c => c.rot at_ f))
      rw [this, ← h.1]
    · intro j d hd
      have hd1 : (F.wait.modify i (fun c => c.rot at_ f))[j]? = some d := hd
      have hjl : j < F.wait.length := by
        have := (List.getElem?_eq_some_iff.1 hd1).1
        rwa [List.length_modify] at this
      show d.fin ≤ (appAll F.fast ((F.wait.modify i (fun c => c.rot at_ f)).take j)).length ∧ (d.more = [] ∨ d.fin = (appAll F.fast ((F.wait.modify i (fun c => c.rot at_ f)).take j)).length) ∧ d.fin + d.more.length ≤ 16777216
      rw [hlen j (by omega)]
      have hd0 := List.getElem?_eq_getElem hjl
      have h3 := h.2.2 j _ hd0
      rw [List.getElem?_modify, hd0] at hd1
      by_cases e : i = j
      · have e2 : d = F.wait[j].rot at_ f := by simpa [e] using hd1.symm
        rw [e2]
        refine ⟨h3.1, ?_, ?_⟩
        · rcases h3.2.1 with q | q
          · left
            show F.wait[j].more.modify _ f = []
            rw [q]; exact modify_far (by simp)
          · exact .inr q
        · show F.wait[j].fin + (F.wait[j].more.modify _ f).length ≤ _
          rw [List.length_modify]; exact h3.2.2
      · have e2 : d = F.wait[j] := by simpa [e] using hd1.symm
        rw [e2]
        exact h3
end Go.Proofs.YtljacdbdjacbkaaGreatDoor

/- A medium's calls on its state: Rot, Crash, Size, Used, List. It proves no statement. -/


namespace Go.Proofs.YtljacdbdjacbkaaGreatDoor
open Go.RowKit Go.Maps Go.WideMaps Go.Sort
set_option linter.unusedVariables false
set_option linter.unusedSimpArgs false

/-- One file turned. -/
theorem MedI.file {w w' : World} {base g gf : Nat} {own : Own} {M : Me} {F F' : Fi} (h : MedI w base own g M) (hF : M.fs gf = some F) (hok : F'.ok) (hw : F'.wait.length ≤ 1000000) (hI : FileI w' base own gf F') (c : Chg w w' (fun b => ∃ k, own b = some (gf, k))) : Left w w' base g own { M with fs := upd M.fs gf F' } := by
  have hgg : gf ≠ g := fun e => by rw [e, h.nog] at hF; cases hF
  refine ⟨c.mono (fun b _ hb => by obtain ⟨k, hk⟩ := hb; rw [hk]; simp), own, fun _ _ => rfl, ⟨?_, ?_, fun b hb => ⟨(h.dom b hb).1, Nat.lt_of_lt_of_le (h.dom b hb).2 c.size⟩, Nat.le_trans h.low c.size, ?_⟩⟩
  · exact (h.dir.keep c (fun b k hb e => by obtain ⟨k2, hk2⟩ := hb; rw [hk2] at e; simp at e; exact hgg e.1)).cong rfl rfl rfl rfl rfl rfl (Nat.le_refl _)
  · exact h.files.turn c gf (fun b x k hb hx _ e => by obtain ⟨k2, hk2⟩ := hb; rw [hk2] at e; simp at e; exact hx e.1.symm) (fun _ _ => rfl) F' ⟨(h.files gf F hF).1, hok, hw, hI⟩
  · show upd M.fs gf F' g = none
    rw [upd_other _ _ (fun e => hgg e.symm)]
    exact h.nog
def Me.rotted (M : Me) (s : ByteArray) (x : Int) (m : Nat) (o : Option Nat) : Bool × Me := match nFind M.now s.data.toList with
  | none => (false, M)
  | some gf => match M.fs gf with
    | none => (false, M)
    | some F => if x < 0 ∨ (F.now.length : Int) ≤ x then (false, M) else (true, { M with fs := upd M.fs gf (F.rotAt x.toNat (fun b => b ^^^ UInt8.ofNat m) o) })
/-- Which change's byte it is that is spoilt. -/
def Me.Rotting (M : Me) (s : ByteArray) (x : Int) (o : Option Nat) : Prop := ∀ gf F, nFind M.now s.data.toList = some gf → M.fs gf = some F → 0 ≤ x → x < F.now.length → Rots F x.toNat o
theorem rotAt_wait (F : Fi) (i : Nat) (f : UInt8 → UInt8) (o : Option Nat) : (F.rotAt i f o).wait.length = F.wait.length := by
  cases o with
  | none => rfl
  | some j => exact List.length_modify ..
theorem rotAt_now (F : Fi) (i : Nat) (f : UInt8 → UInt8) (o : Option Nat) : (F.rotAt i f o).now = F.now.modify i f := by cases o <;> rfl
theorem crash_M {w : World} {base g : Nat} {B : Nat → Prop} {own : Own} {M : Me} {A : Option Addr} {n c : Nat} {zs : List Int} (h : MedI w base own g M) (hok : M.ok) (hcnt : M.cnt ≤ 1000000) (hr : ReadsI w B A n zs) (hBo : ∀ b, B b → own b = none ∧ b < w.heap.size) (hc : n ≤ c) (hm : c ≤ 9223372036854775807) :
    Calls Tryz.prog 27 #[.pointer (some ⟨g, 0, none⟩), .slice A n c] w fun e w' => e = .returned (.tuple #[]) ∧ Left w w' base g own (M.crash zs) := mcrash_I h hok hcnt hr hBo hc hm
theorem used_M {w : World} {base g : Nat} {own : Own} {M : Me} (h : MedI w base own g M) (hok : M.ok) (hcnt : M.cnt ≤ 1000000) :
    Calls Tryz.prog 42 #[.pointer (some ⟨g, 0, none⟩)] w fun e w' => e = .returned (.int .i64 (if M.off = true then 0 else M.used : Nat)) ∧ Still w w' := by
  have hu := used_most h hok hcnt
  have hsz := sized_I h hok
  obtain ⟨bn, bf, wv, ns, nn, nf, d1, d2, _⟩ := h.dir
  by_cases c1 : M.off = true
  · rw [c1] at d1
    rw [if_pos c1]
    exact (used_err _ w 12 (by decide) (works_off d1)).mono fun e w' hh => ⟨hh.1, hh.2 ▸ Still.refl w⟩
  · have hoff : M.off = false := by simpa using c1
    rw [hoff] at d1
    rw [if_neg c1]
    exact used_yes d1 nn _ d2 M.sz hsz hu
def Me.bytes (M : Me) (s : ByteArray) : List UInt8 × Int := match M.find s with
  | .inl E => ([], E)
  | .inr (gf, F) => (F.now, 0)
theorem all_M {w : World} {base g : Nat} {own : Own} {M : Me} (s : ByteArray) (h : MedI w base own g M) (hok : M.ok) (hs : s.size ≤ maxLen) :
    Calls Tryz.prog 94 #[.pointer (some ⟨g, 0, none⟩), .string s] w fun e w' => (∃ v, e = .returned (.tuple #[v, .int .i64 (M.bytes s).2]) ∧ w'.ownsRow w.heap.size 5 1 v (M.bytes s).1.length (bytesV (M.bytes s).1)) ∧ Still w w' := by
  rcases find_M s h hok hs with ⟨E, hE, hEE, hf⟩ | ⟨gf, F, hE, hoff, hlk, hF, hf⟩
  · have e : M.bytes s = ([], E) := by unfold Me.bytes; rw [hE]
    rw [e]
    exact (all_err _ s w E (err_ne hEE) hf).mono fun e w' hh => ⟨⟨_, hh.1, World.ownsRow_nil _ _ _ _⟩, hh.2 ▸ Still.refl w⟩
  · have e : M.bytes s = (F.now, 0) := by unfold Me.bytes; rw [hE]
    rw [e]
    exact all_I s gf F h hoff hs hlk hF
end Go.Proofs.YtljacdbdjacbkaaGreatDoor
