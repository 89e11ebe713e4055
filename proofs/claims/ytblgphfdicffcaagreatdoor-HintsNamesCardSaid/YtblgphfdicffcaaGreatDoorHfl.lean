/- Contracts and facts, several texts in one. It proves no statement. -/
import Derived.Test.YtblgphfdicffcaaGreatDoorHfk
import Derived.Test.YtblgphfdicffcaaGreatDoorHfa
import Derived.Test.YtblgphfdicffcaaGreatDoorHfb
import Derived.Test.YtblgphfdicffcaaGreatDoorHfh
import Derived.Test.YtblgphfdicffcaaGreatDoorHfi
import Derived.Deep.QuietTactic
import Derived.Deep.MidRow
import Derived.Deep.RegionHeld
import Derived.Maps.AppendAt
import Derived.Great.BuildSlice

/- A medium's calls on its state: Rot, Crash, Size, Used, List. It proves no statement. -/


namespace Go.Proofs.YtblgphfdicffcaaGreatDoor
open Go.RowKit Go.Maps Go.WideMaps Go.Sort
set_option linter.unusedVariables false
set_option linter.unusedSimpArgs false

/-- One file turned. -/
theorem MedI.file {w w' : World} {base g gf : Nat} {own : Own} {M : Me} {F F' : Fi} (h : MedI w base own g M) (hF : M.fs gf = some F) (hok : F'.ok) (hw : F'.wait.length ≤ 1000000) (hI : FileI w' base own gf F') (c : Chg w w' (fun b => ∃ k, own b = some (gf, k))) : Left w w' base g own { M with fs := upd M.fs gf F' } := by
  have hgg : gf ≠ g := fun e => by rw [e, h.nog] at hF; cases hF
  refine ⟨c.mono (fun b _ hb => by obtain ⟨k, hk⟩ := hb; rw [hk]; simp), own, fun _ _ => rfl, ⟨?_, ?_, fun b hb => ⟨(h.dom b hb).1, Nat.lt_of_lt_of_le (h.dom b hb).2 c.size⟩, Nat.le_trans h.low c.size, ?_⟩⟩
  · exact (h.dir.keep c (fun b k hb e => by obtain ⟨k2, hk2⟩ := hb; rw [hk2] at e; simp at e; exact hgg e.1)).cong rfl rfl rfl rfl rfl rfl (Nat.le_refl _)
  · exact h.files.turn c gf (fun b x k hb hx _ e => by obtain ⟨k2, hk2⟩ := hb; rw [hk2] at e; simp at e; exact hx e.1.symm) (fun _ _ => rfl) F' ⟨(h.files gf F hF).1, hok, hw, hI⟩
  · show upd M.fs gf F' g = none
    rw [upd_other _ _ (fun e => hgg e.symm)]
    exact h.nog
def Me.rotted (M : Me) (s : ByteArray) (x : Int) (m : Nat) (o : Option Nat) : Bool × Me := match nFind M.now s.data.toList with
  | none => (false, M)
  | some gf => match M.fs gf with
    | none => (false, M)
    | some F => if x < 0 ∨ (F.now.length : Int) ≤ x then (false, M) else (true, { M with fs := upd M.fs gf (F.rotAt x.toNat (fun b => b ^^^ UInt8.ofNat m) o) })
/-- Which change's byte it is that is spoilt. -/
def Me.Rotting (M : Me) (s : ByteArray) (x : Int) (o : Option Nat) : Prop := ∀ gf F, nFind M.now s.data.toList = some gf → M.fs gf = some F → 0 ≤ x → x < F.now.length → Rots F x.toNat o
theorem rotAt_wait (F : Fi) (i : Nat) (f : UInt8 → UInt8) (o : Option Nat) : (F.rotAt i f o).wait.length = F.wait.length := by
  cases o with
  | none => rfl
  | some j => exact List.length_modify ..
theorem rotAt_now (F : Fi) (i : Nat) (f : UInt8 → UInt8) (o : Option Nat) : (F.rotAt i f o).now = F.now.modify i f := by cases o <;> rfl
theorem crash_M {w : World} {base g : Nat} {B : Nat → Prop} {own : Own} {M : Me} {A : Option Addr} {n c : Nat} {zs : List Int} (h : MedI w base own g M) (hok : M.ok) (hcnt : M.cnt ≤ 1000000) (hr : ReadsI w B A n zs) (hBo : ∀ b, B b → own b = none ∧ b < w.heap.size) (hc : n ≤ c) (hm : c ≤ 9223372036854775807) :
    Calls Tryz.prog 30 #[.pointer (some ⟨g, 0, none⟩), .slice A n c] w fun e w' => e = .returned (.tuple #[]) ∧ Left w w' base g own (M.crash zs) := mcrash_I h hok hcnt hr hBo hc hm
theorem used_M {w : World} {base g : Nat} {own : Own} {M : Me} (h : MedI w base own g M) (hok : M.ok) (hcnt : M.cnt ≤ 1000000) :
    Calls Tryz.prog 251 #[.pointer (some ⟨g, 0, none⟩)] w fun e w' => e = .returned (.int .i64 (if M.off = true then 0 else M.used : Nat)) ∧ Still w w' := by
  have hu := used_most h hok hcnt
  have hsz := sized_I h hok
  obtain ⟨bn, bf, wv, ns, nn, nf, d1, d2, _⟩ := h.dir
  by_cases c1 : M.off = true
  · rw [c1] at d1
    rw [if_pos c1]
    exact (used_err _ w 12 (by decide) (works_off d1)).mono fun e w' hh => ⟨hh.1, hh.2 ▸ Still.refl w⟩
  · have hoff : M.off = false := by simpa using c1
    rw [hoff] at d1
    rw [if_neg c1]
    exact used_yes d1 nn _ d2 M.sz hsz hu
def Me.bytes (M : Me) (s : ByteArray) : List UInt8 × Int := match M.find s with
  | .inl E => ([], E)
  | .inr (gf, F) => (F.now, 0)
theorem all_M {w : World} {base g : Nat} {own : Own} {M : Me} (s : ByteArray) (h : MedI w base own g M) (hok : M.ok) (hs : s.size ≤ maxLen) :
    Calls Tryz.prog 147 #[.pointer (some ⟨g, 0, none⟩), .string s] w fun e w' => (∃ v, e = .returned (.tuple #[v, .int .i64 (M.bytes s).2]) ∧ w'.ownsRow w.heap.size 5 1 v (M.bytes s).1.length (bytesV (M.bytes s).1)) ∧ Still w w' := by
  rcases find_M s h hok hs with ⟨E, hE, hEE, hf⟩ | ⟨gf, F, hE, hoff, hlk, hF, hf⟩
  · have e : M.bytes s = ([], E) := by unfold Me.bytes; rw [hE]
    rw [e]
    exact (all_err _ s w E (err_ne hEE) hf).mono fun e w' hh => ⟨⟨_, hh.1, World.ownsRow_nil _ _ _ _⟩, hh.2 ▸ Still.refl w⟩
  · have e : M.bytes s = (F.now, 0) := by unfold Me.bytes; rw [hE]
    rw [e]
    exact all_I s gf F h hoff hs hlk hF
end Go.Proofs.YtblgphfdicffcaaGreatDoor

/- A medium's List; what stays true of a medium from call to call. It proves no statement. -/

namespace Go.Proofs.YtblgphfdicffcaaGreatDoor
open Go.RowKit Go.Maps Go.WideMaps Go.Sort
set_option linter.unusedVariables false
set_option linter.unusedSimpArgs false

/-- All names. -/
def Me.names (M : Me) : NT := if M.off = true then [] else M.now
theorem now_length {M : Me} (hok : M.ok) : M.now.length ≤ M.cnt := by
  have := steps_length M.fast M.wait
  have := hok.len
  rw [hok.eq]
  omega
set_option maxRecDepth 100000 in
theorem list_M {w : World} {base g : Nat} {own : Own} {M : Me} (h : MedI w base own g M) (hok : M.ok) (hcnt : M.cnt ≤ 1000000) :
    Calls Tryz.prog 68 #[.pointer (some ⟨g, 0, none⟩)] w fun e w' => (∃ v, e = .returned v ∧ w'.ownsRow w.heap.size 9 1 v M.names.length (namesV M.names)) ∧ Still w w' := by
  obtain ⟨bn, bf, wv, ns, nn, nf, d1, d2, _⟩ := h.dir
  have hlen := now_length hok
  by_cases c1 : M.off = true
  · rw [c1] at d1
    have e : M.names = [] := if_pos c1
    rw [e]
    exact (list_err _ w 12 (by decide) (works_off d1)).mono fun e w' hh => ⟨⟨_, hh.1, World.ownsRow_nil _ _ _ _⟩, hh.2 ▸ Still.refl w⟩
  · have hoff : M.off = false := by simpa using c1
    rw [hoff] at d1
    have e : M.names = M.now := if_neg c1
    rw [e]
    have c1' : w.cell? ⟨g, 1, none⟩ = some (.map (some bn)) := Blk.cell d1 1
    have WK := Lib.hid (works_on d1)
    have SK := Lib.hid (sortedkeys_any M.now hok.rn bn nn w d2 (by omega))
    clear h hok hcnt d1 d2 c1 hoff e hlen
    go_enter Tryz.func68, Tryz.ntmps68
    go_wp2_with fail
    refine WK.out.mono ?_
    rintro e w1 ⟨rfl, rfl⟩
    go_wp2_with fail
    refine (keys_any bn w).mono ?_
    rintro e w3 ⟨rfl, rfl⟩
    go_wp2_with fail
    refine SK.out.mono ?_
    rintro e w4 ⟨⟨v, rfl, o4⟩, s4⟩
    have O4 := Lib.hid (And.intro o4 s4)
    obtain ⟨Av, cv, rfl⟩ := own_formV o4
    clear o4 s4 SK
    go_wp2_with fail
    go_ret
    exact ⟨⟨_, rfl, O4.out.1⟩, O4.out.2⟩
/-- What stays true of a medium from call to call. -/
structure Me.good (M : Me) (k : Nat) : Prop where
  ok : M.ok
  cnt : M.cnt ≤ k
  wt : ∀ gf F, M.fs gf = some F → F.wait.length ≤ M.cnt
theorem Me.good.mono {M : Me} {k k' : Nat} (h : M.good k) (hk : k ≤ k') : M.good k' := ⟨h.ok, Nat.le_trans h.cnt hk, h.wt⟩
theorem Me.dead_good {M : Me} {k : Nat} (h : M.good k) : M.dead.good (k + 1) := ⟨Me.dead_ok h.ok, by have := h.cnt; show M.cnt ≤ k + 1; omega, h.wt⟩
theorem Me.new_good {room : Int} (h : 0 ≤ room ∧ room ≤ 16777216) : (Me.new room).good 0 := ⟨Me.new_ok h, Nat.le_refl _, fun gf F hF => by cases hF⟩
theorem Me.link_good {M : Me} {k : Nat} (h : M.good k) (h0 : M.left ≠ 0) (x : ByteArray × ByteArray × Int) (fs : Nat → Option Fi) (hfs : ∀ gf F, M.fs gf = some F → ∃ G, fs gf = some G) (hx : 0 ≤ x.2.2 → ∃ F, fs x.2.2.toNat = some F) (hw : ∀ gf F, fs gf = some F → F.wait.length ≤ M.cnt + 1) : (M.link x fs).good (k + 1) :=
  ⟨Me.link_ok h.ok h0 x fs hfs hx, by have := h.cnt; show M.cnt + 1 ≤ k + 1; omega, fun gf F hF => hw gf F hF⟩
theorem Me.wrote_good {M : Me} {k : Nat} (h : M.good k) (h0 : M.left ≠ 0) (gf : Nat) (F : Fi) (hw : F.wait.length ≤ M.cnt + 1) : (M.wrote gf F).good (k + 1) := by
  refine ⟨Me.wrote_ok h.ok h0 gf F, by have := h.cnt; show M.cnt + 1 ≤ k + 1; omega, fun x G hG => ?_⟩
  have hG' : upd M.fs gf F x = some G := hG
  show G.wait.length ≤ M.cnt + 1
  by_cases e : x = gf
  · subst e
    rw [upd_same] at hG'
    injection hG' with hG'
    subst hG'
    exact hw
  · rw [upd_other _ _ e] at hG'
    have := h.wt x G hG'
    omega
theorem opCreate_good {M : Me} {k : Nat} (h : M.good k) (s : ByteArray) (gf : Nat) : (opCreate M s gf).2.good (k + 1) := by
  unfold opCreate
  split
  · exact h.mono (by omega)
  · split
    · exact h.mono (by omega)
    · split
      · exact h.mono (by omega)
      · split
        · exact h.mono (by omega)
        · split
          · exact Me.dead_good h
          · rename_i h0
            refine Me.link_good h h0 _ _ (fun x F hF => upd_some hF) (fun _ => ⟨_, by simp only [Int.toNat_natCast]; exact upd_same _ _ _⟩) (fun x F hF => ?_)
            by_cases e : x = gf
            · subst e
              rw [upd_same] at hF
              injection hF with hF
              subst hF
              exact Nat.zero_le _
            · rw [upd_other _ _ e] at hF
              have := h.wt x F hF
              omega
theorem Me.find_fs {M : Me} {s : ByteArray} {gf : Nat} {F : Fi} (h : M.find s = .inr (gf, F)) : M.fs gf = some F ∧ nFind M.now s.data.toList = some gf ∧ M.off = false := by
  unfold Me.find at h
  split at h
  · cases h
  · rename_i h0
    split at h
    · cases h
    · rename_i gf2 h1
      split at h
      · cases h
      · rename_i F2 h2
        injection h with h
        injection h with h3 h4
        subst h3 h4
        exact ⟨h2, h1, by simpa using h0⟩
theorem opName_good {M : Me} {k : Nat} (h : M.good k) (x : ByteArray × ByteArray × Int) (hx : 0 ≤ x.2.2 → ∃ F, M.fs x.2.2.toNat = some F) : (opName M x).2.good (k + 1) := by
  unfold opName
  split
  · exact Me.dead_good h
  · rename_i h0
    exact Me.link_good h h0 _ _ (fun x F hF => ⟨F, hF⟩) hx (fun gf F hF => by have := h.wt gf F hF; omega)
theorem opRename_good {M : Me} {k : Nat} (h : M.good k) (s t : ByteArray) : (opRename M s t).2.good (k + 1) := by
  unfold opRename
  split
  · exact h.mono (by omega)
  · rename_i gf F hf
    split
    · exact h.mono (by omega)
    · exact opName_good h _ (fun _ => ⟨F, by simp only [Int.toNat_natCast]; exact (Me.find_fs hf).1⟩)
theorem opRemove_good {M : Me} {k : Nat} (h : M.good k) (s : ByteArray) : (opRemove M s).2.good (k + 1) := by
  unfold opRemove
  split
  · exact h.mono (by omega)
  · exact opName_good h _ (fun h0 => absurd h0 (by show ¬ (0 : Int) ≤ -1; decide))
theorem opAppend_good {M : Me} {k : Nat} (h : M.good k) (s : ByteArray) (x : List UInt8) : (opAppend M s x).2.good (k + 1) := by
  unfold opAppend
  split
  · exact h.mono (by omega)
  · rename_i gf F hf
    split
    · exact h.mono (by omega)
    · split
      · exact Me.dead_good h
      · rename_i h0
        have := h.wt gf F (Me.find_fs hf).1
        exact Me.wrote_good h h0 gf _ (by show (F.wait ++ [_]).length ≤ _; rw [List.length_append]; simp; omega)
theorem opTruncate_good {M : Me} {k : Nat} (h : M.good k) (s : ByteArray) (n : Int) : (opTruncate M s n).2.good (k + 1) := by
  unfold opTruncate
  split
  · exact h.mono (by omega)
  · rename_i gf F hf
    split
    · exact h.mono (by omega)
    · split
      · exact Me.dead_good h
      · rename_i h0
        have := h.wt gf F (Me.find_fs hf).1
        exact Me.wrote_good h h0 gf _ (by show (F.wait ++ [_]).length ≤ _; rw [List.length_append]; simp; omega)
theorem opSync_good {M : Me} {k : Nat} (h : M.good k) (s : ByteArray) : (opSync M s).2.good (k + 1) := by
  unfold opSync
  split
  · exact h.mono (by omega)
  · rename_i gf F hf
    split
    · exact Me.dead_good h
    · rename_i h0
      exact Me.wrote_good h h0 gf _ (Nat.zero_le _)
theorem opSyncDir_good {M : Me} {k : Nat} (h : M.good k) : (opSyncDir M).2.good (k + 1) := by
  unfold opSyncDir
  split
  · exact h.mono (by omega)
  · split
    · exact Me.dead_good h
    · rename_i h0
      exact ⟨Me.syncedDir_ok h.ok h0, by have := h.cnt; show M.cnt ≤ k + 1; omega, h.wt⟩
theorem opArm_good {M : Me} {k : Nat} (h : M.good k) (n : Int) (hn : n ≤ 9223372036854775807) : (opArm M n).2.good (k + 1) := by
  unfold opArm
  split
  · exact h.mono (by omega)
  · split
    · exact h.mono (by omega)
    · exact ⟨⟨h.ok.rn, h.ok.rf, h.ok.ff, h.ok.fw, h.ok.eq, h.ok.room, ⟨by show -1 ≤ n; omega, hn⟩, h.ok.len⟩, by have := h.cnt; show M.cnt ≤ k + 1; omega, h.wt⟩
theorem opSetRoom_good {M : Me} {k : Nat} (h : M.good k) (n : Int) : (opSetRoom M n).2.good (k + 1) := by
  unfold opSetRoom
  split
  · exact h.mono (by omega)
  · split
    · exact h.mono (by omega)
    · rename_i h0
      have hr : 0 ≤ n ∧ n ≤ 16777216 := by unfold roomOK at h0; simpa using h0
      exact ⟨⟨h.ok.rn, h.ok.rf, h.ok.ff, h.ok.fw, h.ok.eq, hr, h.ok.left, h.ok.len⟩, by have := h.cnt; show M.cnt ≤ k + 1; omega, h.wt⟩
theorem rotted_good {M : Me} {k : Nat} (h : M.good k) (s : ByteArray) (x : Int) (m : Nat) (o : Option Nat) : (M.rotted s x m o).2.good (k + 1) := by
  unfold Me.rotted
  split
  · exact h.mono (by omega)
  · rename_i gf _
    split
    · exact h.mono (by omega)
    · rename_i F hF
      split
      · exact h.mono (by omega)
      · refine ⟨⟨h.ok.rn, h.ok.rf, fun p hp => ?_, fun y hy h1 => ?_, h.ok.eq, h.ok.room, h.ok.left, h.ok.len⟩, by have := h.cnt; show M.cnt ≤ k + 1; omega, fun y G hG => ?_⟩
        · obtain ⟨G, hG⟩ := h.ok.ff p hp; exact upd_some hG
        · obtain ⟨G, hG⟩ := h.ok.fw y hy h1; exact upd_some hG
        · have hG' : upd M.fs gf _ y = some G := hG
          by_cases e : y = gf
          · subst e
            rw [upd_same] at hG'
            injection hG' with hG'
            subst hG'
            rw [rotAt_wait]
            exact h.wt y F hF
          · rw [upd_other _ _ e] at hG'
            exact h.wt y G hG'
theorem crSt_wait {s : (Nat → Option Fi) × List Int} {f x : Nat} {G : Fi} (h : (crSt s f).1 x = some G) : (∃ F, s.1 x = some F ∧ G.wait.length ≤ F.wait.length) := by
  cases hF : s.1 f with
  | none =>
    have e : (crSt s f).1 = s.1 := by unfold crSt; rw [hF]
    rw [e] at h
    exact ⟨G, h, Nat.le_refl _⟩
  | some F =>
    have e : (crSt s f).1 = upd s.1 f (F.crash s.2) := by unfold crSt; rw [hF]
    rw [e] at h
    by_cases e2 : x = f
    · subst e2
      rw [upd_same] at h
      injection h with h
      subst h
      exact ⟨F, hF, Nat.zero_le _⟩
    · rw [upd_other _ _ e2] at h
      exact ⟨G, h, Nat.le_refl _⟩
theorem crFold_wait {x : Nat} (L : List Nat) : ∀ (s : (Nat → Option Fi) × List Int) {G : Fi}, (L.foldl crSt s).1 x = some G → ∃ F, s.1 x = some F ∧ G.wait.length ≤ F.wait.length := by
  induction L with
  | nil => exact fun s G h => ⟨G, h, Nat.le_refl _⟩
  | cons f L ih =>
    intro s G h
    obtain ⟨F, h1, h2⟩ := ih (crSt s f) h
    obtain ⟨E, h3, h4⟩ := crSt_wait h1
    exact ⟨E, h3, by omega⟩
theorem crash_good {M : Me} {k : Nat} (h : M.good k) (zs : List Int) : (M.crash zs).good (k + 1) :=
  ⟨Me.crash_ok h.ok zs, by have := h.cnt; show M.cnt ≤ k + 1; omega, fun gf G hG => by
    obtain ⟨F, h1, h2⟩ := crFold_wait _ _ hG
    exact Nat.le_trans h2 (h.wt gf F h1)⟩
end Go.Proofs.YtblgphfdicffcaaGreatDoor

/- What is left of a slice that came in. It proves no statement. -/

namespace Go.Proofs.YtblgphfdicffcaaGreatDoor
open Go.RowKit
set_option linter.unusedVariables false

/-- A slice that came in, or what is left of it. -/
structure RowS (w : World) (B : Nat) (A : Option Addr) (n c : Nat) (l : List UInt8) : Prop where
  reads : Reads w B A n l
  fit : n ≤ c
  cap : c ≤ 9223372036854775807
  nil : A = none → n = 0 ∧ c = 0
theorem RowS.still {w w' : World} {B n c : Nat} {A : Option Addr} {l : List UInt8} (h : RowS w B A n c l) (hB : B ≤ w.heap.size) (hs : Still w w') : RowS w' B A n c l := ⟨h.reads.still hB hs, h.fit, h.cap, h.nil⟩
theorem RowS.dropk {w : World} {B n c k : Nat} {A : Option Addr} {l : List UInt8} (h : RowS w B A n c l) (hk : k ≤ n) : RowS w B (A.map (·.add k)) (n - k) (c - k) (l.drop k) :=
  ⟨h.reads.dropk hk, by have := h.fit; omega, by have := h.cap; omega, fun e => by
    have e2 : A = none := by simpa using e
    have := h.nil e2
    omega⟩
theorem RowS.endk {w : World} {B n c : Nat} {A : Option Addr} {l : List UInt8} (h : RowS w B A n c l) {k : Nat} (hk : n ≤ k) : RowS w B A 0 0 (l.drop k) := by
  have e : l.drop k = [] := List.drop_of_length_le (by have := h.reads.1; omega)
  rw [e]
  exact ⟨⟨rfl, fun h => by omega⟩, by omega, by omega, fun _ => ⟨rfl, rfl⟩⟩
/-- A row that came in, cut. -/
theorem cut_row {w : World} {A : Option Addr} {n0 c0 : Nat} {z : List Int} (h : RowIn .u8 w A n0 c0 z) (k : Nat) (hk : 1 ≤ k) :
    ∃ n l, RowS w w.heap.size A n c0 l ∧ n ≤ k ∧ Calls Tryz.prog 51 #[.slice A n0 c0, .int .i64 k] w fun e w' => e = .returned (.slice A n c0) ∧ w = w' := by
  obtain ⟨l0, r0, hc0, hm0, hA0⟩ := reads_of_row h
  exact ⟨_, _, ⟨r0.take k, by omega, hm0, fun e => ⟨by have := (hA0 e).1; omega, (hA0 e).2⟩⟩, by omega, cut_any A n0 c0 k l0 w _ r0 hc0 hm0 hk⟩
end Go.Proofs.YtblgphfdicffcaaGreatDoor

/- Slices of bytes in blocks of a kind. It proves no statement. -/


namespace Go.Proofs.YtblgphfdicffcaaGreatDoor
open Go.RowKit
set_option linter.unusedVariables false
set_option linter.unusedSimpArgs false

/-- A slice of bytes in a block of P. -/
structure RowP (w : World) (P : Nat → Prop) (A : Option Addr) (n c : Nat) (l : List UInt8) : Prop where
  len : l.length = n
  fit : n ≤ c
  cap : c ≤ 9223372036854775807
  nil : A = none → n = 0 ∧ c = 0
  at_ : 0 < n → ∃ b o, A = some ⟨b, o, none⟩ ∧ P b ∧ b < w.heap.size ∧ ∀ i, i < n → w.cell? ⟨b, o + i, none⟩ = some (Value.int .u8 ((l.getD i 0).toNat : Int))
section
variable {w w' : World} {P Q : Nat → Prop} {A : Option Addr} {n c k : Nat} {l : List UInt8}
theorem RowP.reads (h : RowP w P A n c l) : Reads w w.heap.size A n l :=
  ⟨h.len, fun hn => by obtain ⟨b, o, e, _, hb, hc⟩ := h.at_ hn; exact ⟨b, o, e, hb, hc⟩⟩
theorem RowP.rowS (h : RowP w P A n c l) : RowS w w.heap.size A n c l := ⟨h.reads, h.fit, h.cap, h.nil⟩
theorem RowP.none_ : RowP w P none 0 0 [] := ⟨rfl, Nat.le_refl _, by omega, fun _ => ⟨rfl, rfl⟩, fun h => absurd h (by omega)⟩
theorem RowP.keep (h : RowP w P A n c l) (hk : ∀ b, P b → b < w.heap.size → w'.heap[b]? = w.heap[b]?) (hs : w.heap.size ≤ w'.heap.size) : RowP w' P A n c l :=
  ⟨h.len, h.fit, h.cap, h.nil, fun hn => by
    obtain ⟨b, o, e, hp, hb, hc⟩ := h.at_ hn
    exact ⟨b, o, e, hp, by omega, fun i hi => (World.cell?_of_block (w := w) (hk b hp hb)).trans (hc i hi)⟩⟩
theorem RowP.chg {S : Nat → Prop} (h : RowP w P A n c l) (g : Chg w w' S) (hS : ∀ b, P b → b < w.heap.size → ¬ S b) : RowP w' P A n c l := h.keep (fun b hp hb => g.block b hb (hS b hp hb)) g.size
theorem RowP.still (h : RowP w P A n c l) (s : Still w w') : RowP w' P A n c l := h.keep (fun b _ hb => s.block b hb) s.size
theorem RowP.mono (h : RowP w P A n c l) (hP : ∀ b, P b → b < w.heap.size → Q b) : RowP w Q A n c l :=
  ⟨h.len, h.fit, h.cap, h.nil, fun hn => by obtain ⟨b, o, e, hp, hb, hc⟩ := h.at_ hn; exact ⟨b, o, e, hP b hp hb, hb, hc⟩⟩
theorem RowP.of_rowS {B : Nat} (h : RowS w B A n c l) (hB : B ≤ w.heap.size) : RowP w (fun b => b < B) A n c l :=
  ⟨h.reads.1, h.fit, h.cap, h.nil, fun hn => by obtain ⟨b, o, e, hb, hc⟩ := h.reads.2 hn; exact ⟨b, o, e, hb, by omega, hc⟩⟩
theorem RowP.of_own {base : Nat} (h : w.ownsRow base 5 1 (.slice A n c) n (bytesV l)) : RowP w (fun b => base ≤ b ∧ (Value.slice A n c).ownBlock = some b) A n c l := by
  have hr := Reads.of_own h
  obtain ⟨A', c', e, h1, h2, h3⟩ := own_form h
  injection e with e1 e2 e3
  subst e1
  subst e3
  refine ⟨hr.1, h1, h2, h3, fun hn => ?_⟩
  obtain ⟨b, o, rfl, hb, hc⟩ := hr.2 hn
  refine ⟨b, o, rfl, ⟨?_, rfl⟩, hb, hc⟩
  rcases h.2 with ⟨_, h0⟩ | ⟨g, cp, cur, hv, hg, _⟩
  · omega
  · injection hv with hv1
    cases hv1
    exact hg
theorem RowP.dropk (h : RowP w P A n c l) (hk : k ≤ n) : RowP w P (A.map (·.add k)) (n - k) (c - k) (l.drop k) :=
  ⟨by rw [List.length_drop, h.len], by have := h.fit; omega, by have := h.cap; omega, fun e => by
    have e2 : A = none := by simpa using e
    have := h.nil e2
    omega, fun hn => by
    obtain ⟨b, o, rfl, hp, hb, hc⟩ := h.at_ (by omega)
    refine ⟨b, o + k, by simp [Addr.add_lit], hp, hb, fun i hi => ?_⟩
    have := hc (k + i) (by omega)
    rw [Nat.add_assoc, this]
    simp [List.getD]⟩
theorem RowP.endk (h : RowP w P A n c l) (hk : n ≤ k) : RowP w P A 0 0 (l.drop k) := by
  have e : l.drop k = [] := List.drop_of_length_le (by have := h.len; omega)
  rw [e]
  exact ⟨rfl, by omega, by omega, fun _ => ⟨rfl, rfl⟩, fun h => by omega⟩
theorem RowP.takek (h : RowP w P A n c l) (hk : k ≤ n) : RowP w P A k c (l.take k) :=
  ⟨by rw [List.length_take, h.len]; omega, by have := h.fit; omega, h.cap, fun e => by have := h.nil e; omega, fun hn => by
    obtain ⟨b, o, e, hp, hb, hc⟩ := h.at_ (by omega)
    refine ⟨b, o, e, hp, hb, fun i hi => ?_⟩
    rw [hc i (by omega)]
    have : (l.take k).getD i 0 = l.getD i 0 := by simp [List.getD, List.getElem?_take, hi]
    rw [this]⟩
end
end Go.Proofs.YtblgphfdicffcaaGreatDoor

/- Contract: Size of a file that is there, and the way with an error. It proves no statement. -/


namespace Go.Proofs.YtblgphfdicffcaaGreatDoor
open Go.RowKit Go.Maps Go.WideMaps
set_option linter.unusedVariables false
set_option linter.unusedSimpArgs false

theorem size_ok {w : World} {g : Nat} {room : Int} {bn bf : Nat} {wv : Value} {left : Int} (h : MedB w g room bn bf wv left false) (s : ByteArray) (hs : s.size ≤ maxLen) (n : Nat) (D : DataW Unit) (hown : NM w bn n D) (gf nf c : Nat) (A : Option Addr) (fv wtv : Value) (hlk : look D s = (gf : Int)) (hf : FileB w gf (.slice A nf c) fv wtv) :
    Calls Tryz.prog 67 #[.pointer (some ⟨g, 0, none⟩), .string s] w fun e w' => e = .returned (.tuple #[.int .i64 nf, .int .i64 0]) ∧ w = w' := by
  have FD := Lib.hid (find_yes h s n D hown hs)
  rw [hlk, show findV false (gf : Int) = pv (gf : Int) from rfl, pv_at, show findE false (gf : Int) = if (gf : Int) < 0 then 9 else 0 from rfl, if_neg (by omega)] at FD
  have c0 : w.cell? ⟨gf, 0, none⟩ = some (.slice A nf c) := Blk.cell hf 0
  clear h hown hs hlk hf
  go_enter Tryz.func67, Tryz.ntmps67
  go_wp2_with fail
  refine FD.out.mono ?_
  rintro e w2 ⟨rfl, rfl⟩
  go_wp2_with fail
  go_ret2
  exact ⟨rfl, rfl⟩

theorem size_err (P : Value) (s : ByteArray) (w : World) (E : Int) (b1 : (E != 0) = true) (h : Calls Tryz.prog 117 #[P, .string s] w fun e w' => e = .returned (.tuple #[.pointer none, .int .i64 E]) ∧ w = w') : Calls Tryz.prog 67 #[P, .string s] w fun e w' => e = .returned (.tuple #[.int .i64 0, .int .i64 E]) ∧ w = w' := by
  have HW := Lib.hid h
  clear h
  go_enter Tryz.func67, Tryz.ntmps67
  go_wp2_with fail
  refine HW.out.mono ?_
  rintro e w1 ⟨rfl, rfl⟩
  go_wp2_with fail
  go_ret2
  exact ⟨rfl, rfl⟩
end Go.Proofs.YtblgphfdicffcaaGreatDoor

/- Contract: Size, whatever stands against it. It proves no statement. -/


namespace Go.Proofs.YtblgphfdicffcaaGreatDoor
open Go.RowKit Go.Maps Go.WideMaps Go.Sort
set_option linter.unusedVariables false
set_option linter.unusedSimpArgs false

theorem size_M {w : World} {base g : Nat} {own : Own} {M : Me} (s : ByteArray) (h : MedI w base own g M) (hok : M.ok) (hs : s.size ≤ maxLen) :
    Calls Tryz.prog 67 #[.pointer (some ⟨g, 0, none⟩), .string s] w fun e w' => e = .returned (.tuple #[.int .i64 ((M.bytes s).1.length : Nat), .int .i64 (M.bytes s).2]) ∧ w = w' := by
  rcases find_M s h hok hs with ⟨E, hE, hEE, hf⟩ | ⟨gf, F, hE, hoff, hlk, hF, hf⟩
  · have e : M.bytes s = ([], E) := by unfold Me.bytes; rw [hE]
    rw [e]
    exact size_err _ s w E (err_ne hEE) hf
  · have e : M.bytes s = (F.now, 0) := by unfold Me.bytes; rw [hE]
    rw [e]
    obtain ⟨bn, bf, wv, ns, nn, nf, d1, d2, _⟩ := h.dir
    obtain ⟨q1, q2, q3, nv, fv, wtv, cs, f1, f2, _⟩ := h.files gf F hF
    obtain ⟨Anv, cnv, rfl, _, _, _⟩ := own_form f2
    rw [hoff] at d1
    exact size_ok d1 s hs nn _ d2 gf F.now.length cnv Anv fv wtv (look_found hlk) f1
end Go.Proofs.YtblgphfdicffcaaGreatDoor

/- A log in memory beside its medium: whose block is whose; what stays when something turns. It proves no statement. -/




namespace Go.Proofs.YtblgphfdicffcaaGreatDoor
open Go.RowKit Go.Maps Go.WideMaps Go.Sort
set_option linter.unusedVariables false
set_option linter.unusedSimpArgs false

/-- A log: its limit, its segments (number, size), how many are fresh, whether the last one is open. -/
structure Lg where
  limit : Int
  segs : List (Nat × Nat)
  fresh : Nat
  isOpen : Bool
def segV (X : List (Nat × Nat)) : List Value := X.flatMap fun p => [.int .i64 (p.1 : Int), .int .i64 (p.2 : Int)]
theorem segV_append (X Y : List (Nat × Nat)) : segV (X ++ Y) = segV X ++ segV Y := by simp [segV]
theorem segV_one (p : Nat × Nat) : segV [p] = [.int .i64 (p.1 : Int), .int .i64 (p.2 : Int)] := by simp [segV]
theorem segV_length (X : List (Nat × Nat)) : (segV X).length = X.length * 2 := by
  induction X with
  | nil => rfl
  | cons x r ih =>
    have : (segV (x :: r)).length = 2 + (segV r).length := by simp [segV]; omega
    rw [this, ih, List.length_cons]
    omega
theorem segV_get : ∀ (X : List (Nat × Nat)) (i : Nat) (p : Nat × Nat), X[i]? = some p → (segV X)[i * 2]? = some (.int .i64 (p.1 : Int)) ∧ (segV X)[i * 2 + 1]? = some (.int .i64 (p.2 : Int))
  | [], i, p, h => by simp at h
  | y :: r, 0, p, h => by
    simp only [List.getElem?_cons_zero, Option.some.injEq] at h
    subst h
    exact ⟨rfl, rfl⟩
  | y :: r, i + 1, p, h => by
    have ih := segV_get r i p (by simpa using h)
    have e : segV (y :: r) = .int .i64 (y.1 : Int) :: .int .i64 (y.2 : Int) :: segV r := by simp [segV]
    rw [e, show (i + 1) * 2 = i * 2 + 1 + 1 by omega, List.getElem?_cons_succ, List.getElem?_cons_succ, List.getElem?_cons_succ, List.getElem?_cons_succ]
    exact ih
/-- What holds of a log's own numbers. -/
structure Lg.ok (S : Lg) : Prop where
  lim : 128 ≤ S.limit ∧ S.limit ≤ 1048576
  num : ∀ p ∈ S.segs, p.1 < 1048576 ∧ p.2 ≤ 16777216
  rise : S.segs.Pairwise fun p q => p.1 < q.1
  few : S.segs.length ≤ 1048576
  fresh : S.fresh ≤ S.segs.length
  opn : S.isOpen = true → 0 < S.fresh
def logC (g : Nat) (S : Lg) (sv : Value) : Array Value := #[.pointer (some ⟨g, 0, none⟩), .int .i64 S.limit, sv, .int .i64 (S.fresh : Int), .bool S.isOpen]
/-- A log's blocks: 1: the log; 2: its row. -/
abbrev LOwn := Nat → Option Nat
structure LogI (w : World) (base : Nat) (lo : LOwn) (g gl : Nat) (S : Lg) (sv : Value) : Prop where
  blk : Blk w gl 103 (logC g S sv)
  row : w.ownsRow base 130 2 sv S.segs.length (segV S.segs)
  ol : lo gl = some 1
  os : ∀ b, sv.ownBlock = some b → lo b = some 2
  dom : ∀ b, lo b ≠ none → base ≤ b ∧ b < w.heap.size
theorem LogI.keep {w w' : World} {base g gl : Nat} {lo : LOwn} {S : Lg} {sv : Value} {T : Nat → Prop} (h : LogI w base lo g gl S sv) (c : Chg w w' T) (hT : ∀ b, T b → lo b = none) : LogI w' base lo g gl S sv where
  blk := c.blk h.blk (fun ht => by have := hT _ ht; rw [h.ol] at this; cases this)
  row := c.own h.row (fun b hb ht => by have := hT _ ht; rw [h.os b hb] at this; cases this)
  ol := h.ol
  os := h.os
  dom := fun b hb => ⟨(h.dom b hb).1, Nat.lt_of_lt_of_le (h.dom b hb).2 c.size⟩
/-- A log and its medium. -/
structure LM (w : World) (base g gl : Nat) (own : Own) (lo : LOwn) (M : Me) (S : Lg) : Prop where
  med : MedI w base own g M
  log : ∃ sv, LogI w base lo g gl S sv
  ap : ∀ b, own b ≠ none → lo b = none
theorem LM.ap2 {w : World} {base g gl : Nat} {own : Own} {lo : LOwn} {M : Me} {S : Lg} (h : LM w base g gl own lo M S) : ∀ b, lo b ≠ none → own b = none := by
  intro b hb
  cases hq : own b with
  | none => rfl
  | some q => exact absurd (h.ap b (by rw [hq]; simp)) hb
theorem LM.keep {w w' : World} {base g gl : Nat} {own : Own} {lo : LOwn} {M : Me} {S : Lg} {T : Nat → Prop} (h : LM w base g gl own lo M S) (c : Chg w w' T) (hT : ∀ b, T b → own b = none ∧ lo b = none) : LM w' base g gl own lo M S := by
  obtain ⟨sv, hl⟩ := h.log
  exact ⟨h.med.keep c (fun b hb => (hT b hb).1), ⟨sv, hl.keep c (fun b hb => (hT b hb).2)⟩, h.ap⟩
theorem LM.still {w w' : World} {base g gl : Nat} {own : Own} {lo : LOwn} {M : Me} {S : Lg} (h : LM w base g gl own lo M S) (s : Still w w') : LM w' base g gl own lo M S := h.keep (Chg.of_still s (fun _ => False)) (fun _ h => h.elim)
/-- What a log's call leaves. -/
def LLeft (w w' : World) (base g gl : Nat) (own : Own) (lo : LOwn) (M' : Me) (S' : Lg) : Prop :=
  Chg w w' (fun b => own b ≠ none ∨ lo b ≠ none) ∧ ∃ (own' : Own) (lo' : LOwn), (∀ b, b < w.heap.size → own' b = own b ∧ lo' b = lo b) ∧ LM w' base g gl own' lo' M' S'
theorem LLeft.still {w w' : World} {base g gl : Nat} {own : Own} {lo : LOwn} {M : Me} {S : Lg} (h : LM w base g gl own lo M S) (s : Still w w') : LLeft w w' base g gl own lo M S := ⟨Chg.of_still s _, own, lo, fun _ _ => ⟨rfl, rfl⟩, h.still s⟩
theorem LLeft.same {w : World} {base g gl : Nat} {own : Own} {lo : LOwn} {M : Me} {S : Lg} (h : LM w base g gl own lo M S) : LLeft w w base g gl own lo M S := LLeft.still h (Still.refl w)
/-- A medium's call. -/
theorem LLeft.med {w w' : World} {base g gl : Nat} {own : Own} {lo : LOwn} {M M' : Me} {S : Lg} (h : LM w base g gl own lo M S) (hl : Left w w' base g own M') : LLeft w w' base g gl own lo M' S := by
  obtain ⟨c, own', ho, m⟩ := hl
  obtain ⟨sv, l⟩ := h.log
  refine ⟨c.mono (fun b _ hb => .inl hb), own', lo, fun b hb => ⟨ho b hb, rfl⟩, m, ⟨sv, l.keep c (fun b hb => h.ap b hb)⟩, fun b hb => ?_⟩
  by_cases hlt : b < w.heap.size
  · rw [ho b hlt] at hb
    exact h.ap b hb
  · cases hq : lo b with
    | none => rfl
    | some q => exact absurd (l.dom b (by rw [hq]; simp)).2 hlt
theorem LLeft.trans {w w1 w2 : World} {base g gl : Nat} {own : Own} {lo : LOwn} {M1 M2 : Me} {S1 S2 : Lg} (h : LLeft w w1 base g gl own lo M1 S1) (k : ∀ own1 lo1, (∀ b, b < w.heap.size → own1 b = own b ∧ lo1 b = lo b) → LM w1 base g gl own1 lo1 M1 S1 → LLeft w1 w2 base g gl own1 lo1 M2 S2) : LLeft w w2 base g gl own lo M2 S2 := by
  obtain ⟨c, own1, lo1, ho, m⟩ := h
  obtain ⟨c2, own2, lo2, ho2, m2⟩ := k own1 lo1 ho m
  exact ⟨c.trans c2 (fun b hb hs => by rw [← (ho b hb).1, ← (ho b hb).2]; exact hs), own2, lo2, fun b hb => ⟨(ho2 b (Nat.lt_of_lt_of_le hb c.size)).1.trans (ho b hb).1, (ho2 b (Nat.lt_of_lt_of_le hb c.size)).2.trans (ho b hb).2⟩, m2⟩
/-- A log's cells. -/
theorem LogI.cells {w : World} {base g gl : Nat} {lo : LOwn} {S : Lg} {sv : Value} (h : LogI w base lo g gl S sv) : w.cell? ⟨gl, 0, none⟩ = some (.pointer (some ⟨g, 0, none⟩)) ∧ w.cell? ⟨gl, 1, none⟩ = some (.int .i64 S.limit) ∧ w.cell? ⟨gl, 2, none⟩ = some sv ∧ w.cell? ⟨gl, 3, none⟩ = some (.int .i64 (S.fresh : Int)) ∧ w.cell? ⟨gl, 4, none⟩ = some (.bool S.isOpen) :=
  ⟨h.blk.cell 0, h.blk.cell 1, h.blk.cell 2, h.blk.cell 3, h.blk.cell 4⟩
theorem LogI.frozen {w : World} {base g gl : Nat} {lo : LOwn} {S : Lg} {sv : Value} (h : LogI w base lo g gl S sv) (i : Nat) : w.frozen? ⟨gl, i, none⟩ = false := h.blk.frozen i
/-- The row's form, its cells. -/
theorem LogI.form {w : World} {base g gl : Nat} {lo : LOwn} {S : Lg} {sv : Value} (h : LogI w base lo g gl S sv) : ∃ A c, sv = .slice A S.segs.length c ∧ S.segs.length ≤ c ∧ c ≤ 9223372036854775807 ∧ (∀ (i : Nat) (p : Nat × Nat), S.segs[i]? = some p → ∃ b, A = some ⟨b, 0, none⟩ ∧ lo b = some 2 ∧ w.cell? ⟨b, i * 2, none⟩ = some (.int .i64 (p.1 : Int)) ∧ w.cell? ⟨b, i * 2 + 1, none⟩ = some (.int .i64 (p.2 : Int))) := by
  rcases h.row.2 with ⟨h1, h0⟩ | ⟨q, cap, cur, h1, h2, h3, h4, h5, _⟩
  · refine ⟨none, 0, by rw [h1, h0], by omega, by omega, fun i p hp => ?_⟩
    have := (List.getElem?_eq_some_iff.1 hp).1
    omega
  · subst h1
    refine ⟨_, cap, rfl, h4, by unfold maxLen at h5; omega, fun i p hp => ⟨q, rfl, h.os q rfl, ?_, ?_⟩⟩
    · have hi := (List.getElem?_eq_some_iff.1 hp).1
      rw [h.row.cellAt (i * 2) (by omega)]
      exact (segV_get _ _ _ hp).1
    · have hi := (List.getElem?_eq_some_iff.1 hp).1
      rw [h.row.cellAt (i * 2 + 1) (by omega)]
      exact (segV_get _ _ _ hp).2
end Go.Proofs.YtblgphfdicffcaaGreatDoor

/- Contracts: a log's small calls: works, last, Next, Fresh. It proves no statement. -/


namespace Go.Proofs.YtblgphfdicffcaaGreatDoor
open Go.RowKit Go.Maps Go.WideMaps Go.Sort
set_option linter.unusedVariables false
set_option linter.unusedSimpArgs false

section
variable {w : World} {base g gl : Nat} {lo : LOwn} {S : Lg} {sv : Value}
theorem lworks_any (h : LogI w base lo g gl S sv) : Calls Tryz.prog 63 #[.pointer (some ⟨gl, 0, none⟩)] w fun e w' => e = .returned (.bool true) ∧ w' = w := by
  have c0 := h.cells.1
  clear h
  go_enter Tryz.func63, Tryz.ntmps63
  go_wp2_with fail
  go_ret
  exact ⟨rfl, rfl⟩
theorem llast_any (h : LogI w base lo g gl S sv) {m : Nat} (hm : S.segs.length = m + 1) (hok : S.segs.length ≤ 1048576) : Calls Tryz.prog 98 #[.pointer (some ⟨gl, 0, none⟩)] w fun e w' => e = .returned (.int .i64 (m : Int)) ∧ w' = w := by
  obtain ⟨A, c, rfl, _, _, _⟩ := h.form
  have c2 := h.cells.2.2.1
  rw [hm] at c2 hok
  have e1 : ((m + 1 : Nat) : Int) - 1 = (m : Int) := by omega
  have e2 : wrap64 (m : Int) = (m : Int) := by unfold wrap64; omega
  clear h hm hok
  go_enter Tryz.func98, Tryz.ntmps98
  go_wp2_with fail
  go_ret
  exact ⟨by simp [e2], rfl⟩
/-- The number behind the last segment's. -/
def nextL (S : Lg) : Nat := match S.segs.getLast? with | none => 0 | some p => p.1 + 1
theorem nextL_nil (h : S.segs.length = 0) : nextL S = 0 := by
  unfold nextL
  rw [List.length_eq_zero_iff.1 h]
  rfl
theorem nextL_last {m : Nat} {p : Nat × Nat} (hm : S.segs.length = m + 1) (hp : S.segs[m]? = some p) : nextL S = p.1 + 1 := by
  unfold nextL
  rw [List.getLast?_eq_getElem?, hm, show m + 1 - 1 = m by omega, hp]
theorem next_any (h : LogI w base lo g gl S sv) (hok : S.ok) : Calls Tryz.prog 214 #[.pointer (some ⟨gl, 0, none⟩)] w fun e w' => e = .returned (.int .i64 (nextL S : Int)) ∧ ∃ m, w' = w.drewN m := by
  have WK := Lib.hid (lworks_any h)
  obtain ⟨A, c, hsv, hc1, hc2, hcl⟩ := h.form
  have c2 := h.cells.2.2.1
  rw [hsv] at c2
  rcases Nat.eq_zero_or_pos S.segs.length with h0 | h0
  · rw [nextL_nil h0]
    rw [h0] at c2
    clear h hok hcl h0 hsv
    go_enter Tryz.func214, Tryz.ntmps214
    go_wp2_with fail
    refine WK.out.mono ?_
    rintro e w1 ⟨rfl, rfl⟩
    go_wp2_with fail
    go_ret
    exact ⟨rfl, 0, rfl⟩
  · obtain ⟨m, hm⟩ : ∃ m, S.segs.length = m + 1 := ⟨S.segs.length - 1, by omega⟩
    obtain ⟨p, hp⟩ : ∃ p, S.segs[m]? = some p := ⟨_, List.getElem?_eq_getElem (by omega)⟩
    have LA := Lib.hid (fun i => (show Calls Tryz.prog 98 #[.pointer (some ⟨gl, 0, none⟩)] (w.drewN i) fun e w' => e = .returned (.int .i64 (m : Int)) ∧ ∃ j, w' = (w.drewN i).drewN j from (llast_any (h.keep (Chg.of_still (still_drewN (Still.refl w) i) (fun _ => False)) (fun _ h => h.elim)) hm hok.few).mono fun e w' ⟨he, hw⟩ => ⟨he, 0, hw⟩))
    obtain ⟨b, hA, _, d1, d2⟩ := hcl m p hp
    rw [nextL_last hm hp]
    have hp1 := (hok.num p (List.mem_of_getElem? hp)).1
    rw [hm] at c2 hc1
    subst hA
    obtain ⟨q, hq⟩ : ∃ q, q = p.1 := ⟨_, rfl⟩
    obtain ⟨q1, hq1⟩ : ∃ q1, q1 = p.1 + 1 := ⟨_, rfl⟩
    rw [← hq1]
    rw [← hq] at d1
    have e1 : (q : Int) + 1 = (q1 : Int) := by omega
    have e2 : wrap64 (q1 : Int) = (q1 : Int) := by unfold wrap64; omega
    have e3 : (((m + 1 : Nat) : Int) == 0) = false := by rw [beq_eq_false_iff_ne]; omega
    have z1 : (0 : Int) ≤ (m : Int) := by omega
    have z2 : (m : Int) < ((m + 1 : Nat) : Int) := by omega
    clear h hok hcl h0 hsv hp hm hq hq1 hp1 d2 hc1 hc2
    go_enter Tryz.func214, Tryz.ntmps214
    go_wp2_with fail
    refine WK.out.mono ?_
    rintro e w1 ⟨rfl, rfl⟩
    go_wp2_with fail
    go_quiet ((go_at_call 98; exact Calls.quiet_of (LA.out _)))
    go_wp2_with fail
    go_ret
    exact ⟨by simp [e2], nq, rfl⟩
end
end Go.Proofs.YtblgphfdicffcaaGreatDoor

/- Rows of segments, the program's and the document's: '[]T{x}', 'append(row, x)'. It proves no statement. -/





namespace Go.Proofs.YtblgphfdicffcaaGreatDoor
open Go.RowKit
set_option linter.unusedVariables false
set_option linter.unusedSimpArgs false

theorem Tryz.infoSg : (Tryz.prog.info? 130).map (fun i => (i.zero, i.size, i.bytes)) = some (some (.agg #[.int .i64 0, .int .i64 0]), 2, 16) := by kernel_rfl
set_option maxRecDepth 100000 in
theorem fill_Sg (p : Int) (q : Int) : Instr.fill (fun i => some (i * 2, 2)) ((Array.range (1 * 2)).map ((Value.agg #[.int .i64 0, .int .i64 0]).cells[· % (Value.agg #[.int .i64 0, .int .i64 0]).cells.size]!)) [(0, .agg #[.int .i64 p, .int .i64 q])] = some #[.int .i64 p, .int .i64 q] := by kernel_rfl
theorem step_boxSg (w : World) {o : Oper} {a : Act} {K' : Act → World → Prop} {Q : Exit → Act → World → Prop} (x : Operand)
    (ho : o.op = .buildSlice 101 1 #[(0, x)]) (p : Int) (q : Int) (hx : a.eval x = .agg #[.int .i64 p, .int .i64 q])
    (h : K' (a.put o.dst (.slice (some ⟨w.heap.size, 0, none⟩) 1 1)) (w.alloc (.cells #[.int .i64 p, .int .i64 q] 130))) : o.wp Tryz.prog a w K' Q := by
  obtain ⟨i0, hi, hz0, hz1, hz2⟩ := info_parts Tryz.infoSg
  refine wp_buildSlice 101 130 1 #[(0, x)] ho #[.int .i64 p, .int .i64 q] i0 _ Tryz.underlying101 hi hz0 (by rw [hz1]; decide) (by rw [hz1]; decide) ?_ h
  rw [hz1]
  simp only [List.map_toArray, List.map_cons, List.map_nil, hx]
  exact fill_Sg p q
theorem wpList_boxSg (w : World) {ops : Array Oper} {rest : List Oper} {o : Oper} {a : Act} {Q : Exit → Act → World → Prop} (hgd : o.guard = none) (x : Operand)
    (ho : o.op = .buildSlice 101 1 #[(0, x)]) (p : Int) (q : Int) (hx : a.eval x = .agg #[.int .i64 p, .int .i64 q])
    (h : wpList Tryz.prog ops Q rest (a.put o.dst (.slice (some ⟨w.heap.size, 0, none⟩) 1 1)) (w.alloc (.cells #[.int .i64 p, .int .i64 q] 130))) : wpList Tryz.prog ops Q (o :: rest) a w :=
  wpList_plain hgd fun _ hQ => step_boxSg w x ho p q hx (hQ _ _ h)
theorem step_pushSg (w : World) {o : Oper} {a : Act} {K : Act → World → Prop} {Q : Exit → Act → World → Prop} (s x : Operand)
    (ho : o.op = .call { callee := .builtin .append, args := #[s, x], argTypes := #[101, 101] })
    (base : Nat) (v : Value) (n : Nat) (xs : List Value) (hs : a.eval s = v) (hown : w.ownsRow base 130 2 v n xs) (gb : Nat) (cs : List Value)
    (hx : a.eval x = .slice (some ⟨gb, 0, none⟩) 1 1) (hc : ∀ q u, cs[q]? = some u → w.cell? ⟨gb, q, none⟩ = some u) (hc6 : cs.length = 2) (h1 : ∀ u ∈ cs, u.oneCell' = true) (hn : n ≤ 1048576) (hbase : base ≤ w.heap.size)
    (h : ∀ v' w', w'.ownsRow base 130 2 v' (n + 1) (xs ++ cs) → w.grownBy w' v.ownBlock → (v'.ownBlock = v.ownBlock ∨ v'.ownBlock = some w.heap.size) → K (a.put o.dst v') w') :
    o.wp Tryz.prog a w K Q := by
  obtain ⟨i0, hi, hz0, hz1, hz2⟩ := info_parts Tryz.infoSg
  obtain ⟨v', w', hrun, h2, h3, _, h5⟩ := run_append_own_at (P := Tryz.prog) w base 101 o.type 130 i0 _ 2 16 Tryz.underlying101 hi hz0 hz1 hz2 rfl (by decide) v n xs hown ⟨gb, 0, none⟩ 1 1 cs (by rw [hc6]) (fun j u hu => by
    rw [Addr.add_mid, Nat.zero_add]; exact hc j u hu) h1 (by unfold maxLen; omega) (by omega) hbase
  unfold Oper.wp execOp
  simp only [ho, resolve, invoke, builtin, Sem.run_bind, Sem.run_pure, Result.andThen_ok, List.map_toArray, List.map_cons, List.map_nil, hs, hx, hrun]
  exact h v' w' h2 h3 h5
theorem wpList_pushSg (w : World) {ops : Array Oper} {rest : List Oper} {o : Oper} {a : Act} {Q : Exit → Act → World → Prop} (hgd : o.guard = none) (s x : Operand)
    (ho : o.op = .call { callee := .builtin .append, args := #[s, x], argTypes := #[101, 101] })
    (base : Nat) (v : Value) (n : Nat) (xs : List Value) (hs : a.eval s = v) (hown : w.ownsRow base 130 2 v n xs) (gb : Nat) (cs : List Value)
    (hx : a.eval x = .slice (some ⟨gb, 0, none⟩) 1 1) (hc : ∀ q u, cs[q]? = some u → w.cell? ⟨gb, q, none⟩ = some u) (hc6 : cs.length = 2) (h1 : ∀ u ∈ cs, u.oneCell' = true) (hn : n ≤ 1048576) (hbase : base ≤ w.heap.size)
    (h : ∀ v' w', w'.ownsRow base 130 2 v' (n + 1) (xs ++ cs) → w.grownBy w' v.ownBlock → (v'.ownBlock = v.ownBlock ∨ v'.ownBlock = some w.heap.size) → wpList Tryz.prog ops Q rest (a.put o.dst v') w') :
    wpList Tryz.prog ops Q (o :: rest) a w :=
  wpList_plain hgd fun _ hQ => step_pushSg w s x ho base v n xs hs hown gb cs hx hc hc6 h1 hn hbase fun v' w' h2 h3 h5 => hQ _ _ (h v' w' h2 h3 h5)

end Go.Proofs.YtblgphfdicffcaaGreatDoor

/- A log whose own cells have turned. It proves no statement. -/


namespace Go.Proofs.YtblgphfdicffcaaGreatDoor
open Go.RowKit Go.Maps Go.WideMaps Go.Sort
set_option linter.unusedVariables false
set_option linter.unusedSimpArgs false

section
variable {w w' : World} {base g gl : Nat} {own : Own} {lo : LOwn} {M : Me} {S S' : Lg} {sv sv' : Value}
theorem LM.turn2 (h : LM w base g gl own lo M S) (hl : LogI w base lo g gl S sv) (c : Chg w w' (fun b => b = gl ∨ sv.ownBlock = some b)) (hb : Blk w' gl 103 (logC g S' sv')) (hr : w'.ownsRow base 130 2 sv' S'.segs.length (segV S'.segs)) (hv : sv'.ownBlock = sv.ownBlock ∨ ∃ j, sv'.ownBlock = some j ∧ w.heap.size ≤ j) :
    ∃ lo' : LOwn, (∀ b, b < w.heap.size → lo' b = lo b) ∧ LM w' base g gl own lo' M S' := by
  have hS : ∀ b, (b = gl ∨ sv.ownBlock = some b) → lo b ≠ none := by
    rintro b (rfl | hb)
    · rw [hl.ol]; simp
    · rw [hl.os b hb]; simp
  have hv2 : ∀ b, sv'.ownBlock = some b → lo b = some 2 ∨ w.heap.size ≤ b := fun b e => by
    rcases hv with hv | ⟨j, hv, hj⟩
    · rw [hv] at e; exact .inl (hl.os b e)
    · rw [hv] at e; injection e with e; exact .inr (by omega)
  refine ⟨fun b => if sv'.ownBlock = some b then some 2 else lo b, fun b hb => ?_, h.med.keep c (fun b hb => h.ap2 b (hS b hb)), ⟨sv', hb, hr, ?_, fun b e => if_pos e, fun b hb => ?_⟩, fun b hb => ?_⟩
  · show (if sv'.ownBlock = some b then some 2 else lo b) = lo b
    split
    · rename_i e
      rcases hv2 b e with h1 | h1
      · exact h1.symm
      · omega
    · rfl
  · show (if sv'.ownBlock = some gl then some 2 else lo gl) = some 1
    rw [if_neg (own_neM hb hr (by decide)), hl.ol]
  · change (if sv'.ownBlock = some b then some 2 else lo b) ≠ none at hb
    split at hb
    · rename_i e; exact hr.lt b e
    · exact ⟨(hl.dom b hb).1, Nat.lt_of_lt_of_le (hl.dom b hb).2 c.size⟩
  · show (if sv'.ownBlock = some b then some 2 else lo b) = none
    have hlb := h.ap b hb
    rw [if_neg, hlb]
    intro e
    rcases hv2 b e with h1 | h1
    · rw [hlb] at h1; cases h1
    · have := (h.med.dom b hb).2; omega
theorem LM.turn (h : LM w base g gl own lo M S) (hl : LogI w base lo g gl S sv) (c : Chg w w' (fun b => b = gl ∨ sv.ownBlock = some b)) (hb : Blk w' gl 103 (logC g S' sv')) (hr : w'.ownsRow base 130 2 sv' S'.segs.length (segV S'.segs)) (hv : sv'.ownBlock = sv.ownBlock ∨ ∃ j, sv'.ownBlock = some j ∧ w.heap.size ≤ j) : LLeft w w' base g gl own lo M S' := by
  obtain ⟨lo', h1, h2⟩ := h.turn2 hl c hb hr hv
  refine ⟨c.mono (fun b _ hb => .inr ?_), own, lo', fun b hb => ⟨rfl, h1 b hb⟩, h2⟩
  rcases hb with rfl | hb
  · rw [hl.ol]; simp
  · rw [hl.os b hb]; simp
end
/-- A new segment. -/
def Lg.grown (S : Lg) (p : Nat × Nat) : Lg := { S with segs := S.segs ++ [p], fresh := S.fresh + 1, isOpen := true }
theorem LM.pushed {w w4 : World} {base g gl : Nat} {own : Own} {lo : LOwn} {M : Me} {S : Lg} {sv v' : Value} {p : Nat × Nat} {o : Obj} (h : LM w base g gl own lo M S) (hl : LogI w base lo g gl S sv) (o4 : w4.ownsRow base 130 2 v' (S.segs.length + 1) (segV S.segs ++ [.int .i64 (p.1 : Int), .int .i64 (p.2 : Int)])) (g4 : (w.alloc o).grownBy w4 sv.ownBlock) (hv : v'.ownBlock = sv.ownBlock ∨ v'.ownBlock = some (w.alloc o).heap.size) :
    LLeft w (((w4.setCell ⟨gl, 2, none⟩ v').setCell ⟨gl, 4, none⟩ (.bool true)).setCell ⟨gl, 3, none⟩ (.int .i64 ((S.fresh + 1 : Nat) : Int))) base g gl own lo M (S.grown p) := by
  have c4 : Chg w w4 (fun b => b = gl ∨ sv.ownBlock = some b) := (Chg.of_still ((Still.refl w).alloc (Nat.le_refl _) o) (fun b => b = gl ∨ sv.ownBlock = some b)).trans (Chg.of_grown g4 (S := fun b => b = gl ∨ sv.ownBlock = some b) (fun k hk _ => .inr hk)) (fun b _ hb => hb)
  have hne : sv.ownBlock ≠ some gl := own_neM hl.blk hl.row (by decide)
  have b4 : Blk w4 gl 103 (logC g S sv) := by
    have ba : Blk (w.alloc o) gl 103 (logC g S sv) := hl.blk.alloc o
    exact (Chg.of_grown g4 (S := fun b => sv.ownBlock = some b) (fun k hk _ => hk)).blk ba hne
  have hn4 : v'.ownBlock ≠ some gl := own_neM b4 o4 (by decide)
  have cs : ∀ (W : World) (i : Nat) (u : Value), Chg W (W.setCell ⟨gl, i, none⟩ u) (fun b => b = gl ∨ sv.ownBlock = some b) := fun W i u => (chg_set W gl i u).mono (fun b _ hb => .inl hb)
  refine h.turn hl (((c4.trans (cs _ 2 v') (fun b _ hb => hb)).trans (cs _ 4 _) (fun b _ hb => hb)).trans (cs _ 3 _) (fun b _ hb => hb)) (sv' := v') ?_ ?_ ?_
  · have := ((b4.setc 2 v').setc 4 (.bool true)).setc 3 (.int .i64 ((S.fresh + 1 : Nat) : Int))
    exact this
  · have e : segV (S.grown p).segs = segV S.segs ++ [.int .i64 (p.1 : Int), .int .i64 (p.2 : Int)] := by
      show segV (S.segs ++ [p]) = _
      rw [segV_append, segV_one]
    have el : (S.grown p).segs.length = S.segs.length + 1 := by
      show (S.segs ++ [p]).length = _
      rw [List.length_append]
      rfl
    rw [e, el]
    have hk : ∀ W i u, Chg W (W.setCell ⟨gl, i, none⟩ u) (fun b => b = gl) := fun W i u => chg_set W gl i u
    exact (hk _ 3 _).own ((hk _ 4 _).own ((hk _ 2 _).own o4 (fun b hb e => hn4 (e ▸ hb))) (fun b hb e => hn4 (e ▸ hb))) (fun b hb e => hn4 (e ▸ hb))
  · rcases hv with hv | hv
    · exact .inl hv
    · exact .inr ⟨_, hv, by simp⟩
end Go.Proofs.YtblgphfdicffcaaGreatDoor
