/- A medium's calls on its state: Rot, Crash, Size, Used, List. It proves no statement. -/
import Derived.Test.YtlkkkifilgnhmaaMdOps6
import Derived.Test.YtlkkkifilgnhmaaMdRot
namespace Go.Proofs.Ytlkkkifilgnhmaa
open Go.RowKit Go.Maps Go.WideMaps Go.Sort
set_option linter.unusedVariables false
set_option linter.unusedSimpArgs false

set_option maxRecDepth 100000 in
theorem rot_none {w : World} {g : Nat} {room : Int} {bn bf : Nat} {wv : Value} {left : Int} {off : Bool} (h : MedB w g room bn bf wv left off) (s : ByteArray) (hs : s.size ≤ maxLen) (n : Nat) (D : DataW Unit) (hown : NM w bn n D) (x : Int) (m : Int) (hlk : look D s = -1) :
    Calls Try.prog 30 #[.pointer (some ⟨g, 0, none⟩), .string s, .int .i64 x, .int .u8 m] w fun e w' => e = .returned (.bool false) ∧ w = w' := by
  have c1 : w.cell? ⟨g, 1, none⟩ = some (.map (some bn)) := Blk.cell h 1
  have HO := Lib.hid hown
  have HS := Lib.hid hs
  have HL := Lib.hid hlk
  clear h hown hs hlk
  go_enter Try.func30, Try.ntmps30
  go_wp2_with (at_lookup; go_must (refine wpList_look rfl (.tmp 15) (.tmp 16) rfl bn n D rfl HO.out s rfl HS.out ?_; intro f hf hlk; rw [HL.out] at hlk; subst hlk; rw [pv_nil]; clear hf))
  go_ret
  exact ⟨rfl, rfl⟩
set_option maxRecDepth 100000 in
theorem rot_out {w : World} {g : Nat} {room : Int} {bn bf : Nat} {wv : Value} {left : Int} {off : Bool} (h : MedB w g room bn bf wv left off) (s : ByteArray) (hs : s.size ≤ maxLen) (n : Nat) (D : DataW Unit) (hown : NM w bn n D) (x : Int) (m : Int) (gf nf c : Nat) (A : Option Addr) (b d : Value) (hlk : look D s = (gf : Int)) (hf : FileB w gf (.slice A nf c) b d) (hx : x < 0 ∨ (nf : Int) ≤ x) :
    Calls Try.prog 30 #[.pointer (some ⟨g, 0, none⟩), .string s, .int .i64 x, .int .u8 m] w fun e w' => e = .returned (.bool false) ∧ w = w' := by
  have c1 : w.cell? ⟨g, 1, none⟩ = some (.map (some bn)) := Blk.cell h 1
  have c0 : w.cell? ⟨gf, 0, none⟩ = some (.slice A nf c) := Blk.cell hf 0
  have HO := Lib.hid hown
  have HS := Lib.hid hs
  have HL := Lib.hid hlk
  clear h hown hs hlk hf
  by_cases h0 : x < 0
  · clear hx
    go_enter Try.func30, Try.ntmps30
    go_wp2_with (at_lookup; go_must (refine wpList_look rfl (.tmp 15) (.tmp 16) rfl bn n D rfl HO.out s rfl HS.out ?_; intro f hf hlk; rw [HL.out] at hlk; subst hlk; rw [pv_at]; clear hf))
    go_ret
    exact ⟨rfl, rfl⟩
  · have h1 : (nf : Int) ≤ x := by omega
    clear hx
    go_enter Try.func30, Try.ntmps30
    go_wp2_with (at_lookup; go_must (refine wpList_look rfl (.tmp 15) (.tmp 16) rfl bn n D rfl HO.out s rfl HS.out ?_; intro f hf hlk; rw [HL.out] at hlk; subst hlk; rw [pv_at]; clear hf))
    go_ret
    exact ⟨rfl, rfl⟩
set_option maxRecDepth 100000 in
theorem rot_by {w : World} {g : Nat} {room : Int} {bn bf : Nat} {wv : Value} {left : Int} {off : Bool} (h : MedB w g room bn bf wv left off) (s : ByteArray) (hs : s.size ≤ maxLen) (n : Nat) (D : DataW Unit) (hown : NM w bn n D) (x : Nat) (m : Int) (gf nf c : Nat) (A : Option Addr) (b d : Value) (hlk : look D s = (gf : Int)) (hf : FileB w gf (.slice A nf c) b d) (hx : x < nf) (R : World → Prop)
    (hR : Calls Try.prog 47 #[.pointer (some ⟨gf, 0, none⟩), .int .i64 x, .int .u8 m] w fun e w' => e = .returned (.tuple #[]) ∧ R w') :
    Calls Try.prog 30 #[.pointer (some ⟨g, 0, none⟩), .string s, .int .i64 x, .int .u8 m] w fun e w' => e = .returned (.bool true) ∧ R w' := by
  have c1 : w.cell? ⟨g, 1, none⟩ = some (.map (some bn)) := Blk.cell h 1
  have c0 : w.cell? ⟨gf, 0, none⟩ = some (.slice A nf c) := Blk.cell hf 0
  have HO := Lib.hid hown
  have HS := Lib.hid hs
  have HL := Lib.hid hlk
  have HR := Lib.hid hR
  have h0 : ¬ (x : Int) < 0 := by omega
  have h1 : ¬ (nf : Int) ≤ (x : Int) := by omega
  clear h hown hs hlk hf hR
  go_enter Try.func30, Try.ntmps30
  go_wp2_with (at_lookup; go_must (refine wpList_look rfl (.tmp 15) (.tmp 16) rfl bn n D rfl HO.out s rfl HS.out ?_; intro f hf hlk; rw [HL.out] at hlk; subst hlk; rw [pv_at]; clear hf))
  refine HR.out.mono ?_
  rintro e w1 ⟨rfl, r1⟩
  have R1 := Lib.hid r1
  clear r1 HR
  go_wp2_with fail
  go_ret
  exact ⟨rfl, R1.out⟩
/-- One file turned. -/
theorem MedI.file {w w' : World} {base g gf : Nat} {own : Own} {M : Me} {F F' : Fi} (h : MedI w base own g M) (hF : M.fs gf = some F) (hok : F'.ok) (hw : F'.wait.length ≤ 1000000) (hI : FileI w' base own gf F') (c : Chg w w' (fun b => ∃ k, own b = some (gf, k))) : Left w w' base g own { M with fs := upd M.fs gf F' } := by
  have hgg : gf ≠ g := fun e => by rw [e, h.nog] at hF; cases hF
  refine ⟨c.mono (fun b _ hb => by obtain ⟨k, hk⟩ := hb; rw [hk]; simp), own, fun _ _ => rfl, ⟨?_, ?_, fun b hb => ⟨(h.dom b hb).1, Nat.lt_of_lt_of_le (h.dom b hb).2 c.size⟩, Nat.le_trans h.low c.size, ?_⟩⟩
  · exact (h.dir.keep c (fun b k hb e => by obtain ⟨k2, hk2⟩ := hb; rw [hk2] at e; simp at e; exact hgg e.1)).cong rfl rfl rfl rfl rfl rfl (Nat.le_refl _)
  · exact h.files.turn c gf (fun b x k hb hx _ e => by obtain ⟨k2, hk2⟩ := hb; rw [hk2] at e; simp at e; exact hx e.1.symm) (fun _ _ => rfl) F' ⟨(h.files gf F hF).1, hok, hw, hI⟩
  · show upd M.fs gf F' g = none
    rw [upd_other _ _ (fun e => hgg e.symm)]
    exact h.nog
def Me.rotted (M : Me) (s : ByteArray) (x : Int) (m : Nat) (o : Option Nat) : Bool × Me := match nFind M.now s.data.toList with
  | none => (false, M)
  | some gf => match M.fs gf with
    | none => (false, M)
    | some F => if x < 0 ∨ (F.now.length : Int) ≤ x then (false, M) else (true, { M with fs := upd M.fs gf (F.rotAt x.toNat (fun b => b ^^^ UInt8.ofNat m) o) })
/-- Which change's byte it is that is spoilt. -/
def Me.Rotting (M : Me) (s : ByteArray) (x : Int) (o : Option Nat) : Prop := ∀ gf F, nFind M.now s.data.toList = some gf → M.fs gf = some F → 0 ≤ x → x < F.now.length → Rots F x.toNat o
theorem rotAt_wait (F : Fi) (i : Nat) (f : UInt8 → UInt8) (o : Option Nat) : (F.rotAt i f o).wait.length = F.wait.length := by
  cases o with
  | none => rfl
  | some j => exact List.length_modify ..
theorem rotAt_now (F : Fi) (i : Nat) (f : UInt8 → UInt8) (o : Option Nat) : (F.rotAt i f o).now = F.now.modify i f := by cases o <;> rfl
theorem rot_M {w : World} {base g : Nat} {own : Own} {M : Me} (s : ByteArray) (x : Int) (m : Nat) (hm : m < 256) (h : MedI w base own g M) (hok : M.ok) (hs : s.size ≤ maxLen) :
    Calls Try.prog 30 #[.pointer (some ⟨g, 0, none⟩), .string s, .int .i64 x, .int .u8 m] w fun e w' => ∃ o, M.Rotting s x o ∧ e = .returned (.bool (M.rotted s x m o).1) ∧ Left w w' base g own (M.rotted s x m o).2 := by
  obtain ⟨bn, bf, wv, ns, nn, nf, d1, d2, _⟩ := h.dir
  cases hk : nFind M.now s.data.toList with
  | none =>
    refine (rot_none d1 s hs nn _ d2 x m (by rw [look_nm, hk])).mono ?_
    rintro e w' ⟨he, rfl⟩
    refine ⟨none, (by unfold Me.Rotting; intro gf F h1; rw [hk] at h1; cases h1), ?_⟩
    have e : M.rotted s x m none = (false, M) := by unfold Me.rotted; rw [hk]
    rw [e]
    exact ⟨he, Left.same h⟩
  | some gf =>
    obtain ⟨F, hF⟩ := Me.there hok hk
    obtain ⟨q1, q2, q3, q4⟩ := h.files gf F hF
    have q4' := q4
    obtain ⟨nv, fv, wtv, cs, f1, f2, _⟩ := q4
    obtain ⟨Anv, cnv, rfl, _, _, _⟩ := own_form f2
    by_cases hx : x < 0 ∨ (F.now.length : Int) ≤ x
    · refine (rot_out d1 s hs nn _ d2 x m gf F.now.length cnv Anv fv wtv (look_found hk) f1 hx).mono ?_
      rintro e w' ⟨he, rfl⟩
      refine ⟨none, ?_, ?_⟩
      · unfold Me.Rotting
        intro gf2 F2 h1 h2 h3 h4
        rw [hk] at h1; injection h1 with h1; subst h1; rw [hF] at h2; injection h2 with h2; subst h2; omega
      · have e : M.rotted s x m none = (false, M) := by unfold Me.rotted; rw [hk]; simp only [hF]; exact if_pos hx
        rw [e]
        exact ⟨he, Left.same h⟩
    · obtain ⟨i, rfl⟩ := Int.eq_ofNat_of_zero_le (show 0 ≤ x by omega)
      have hi : i < F.now.length := by omega
      refine (rot_by d1 s hs nn _ d2 i m gf F.now.length cnv Anv fv wtv (look_found hk) f1 hi _ (frot_I q4' q2 i hi m hm q3)).mono ?_
      rintro e w' ⟨he, o, ho, hI, hc⟩
      refine ⟨o, ?_, ?_⟩
      · unfold Me.Rotting
        intro gf2 F2 h1 h2 h3 h4
        rw [hk] at h1; injection h1 with h1; subst h1; rw [hF] at h2; injection h2 with h2; subst h2; exact ho
      · have e : M.rotted s (i : Int) m o = (true, { M with fs := upd M.fs gf (F.rotAt i (fun b => b ^^^ UInt8.ofNat m) o) }) := by unfold Me.rotted; rw [hk]; simp only [hF]; exact if_neg hx
        rw [e]
        exact ⟨he, h.file hF (Fi.rot_ok q2 hi _ ho) (by rw [rotAt_wait]; exact q3) hI hc⟩
theorem crash_M {w : World} {base g : Nat} {B : Nat → Prop} {own : Own} {M : Me} {A : Option Addr} {n c : Nat} {zs : List Int} (h : MedI w base own g M) (hok : M.ok) (hcnt : M.cnt ≤ 1000000) (hr : ReadsI w B A n zs) (hBo : ∀ b, B b → own b = none ∧ b < w.heap.size) (hc : n ≤ c) (hm : c ≤ 9223372036854775807) :
    Calls Try.prog 9 #[.pointer (some ⟨g, 0, none⟩), .slice A n c] w fun e w' => e = .returned (.tuple #[]) ∧ Left w w' base g own (M.crash zs) := mcrash_I h hok hcnt hr hBo hc hm
theorem used_M {w : World} {base g : Nat} {own : Own} {M : Me} (h : MedI w base own g M) (hok : M.ok) (hcnt : M.cnt ≤ 1000000) :
    Calls Try.prog 35 #[.pointer (some ⟨g, 0, none⟩)] w fun e w' => e = .returned (.int .i64 (if M.off = true then 0 else M.used : Nat)) ∧ Still w w' := by
  have hu := used_most h hok hcnt
  have hsz := sized_I h hok
  obtain ⟨bn, bf, wv, ns, nn, nf, d1, d2, _⟩ := h.dir
  by_cases c1 : M.off = true
  · rw [c1] at d1
    rw [if_pos c1]
    exact (used_err _ w 12 (by decide) (works_off d1)).mono fun e w' hh => ⟨hh.1, hh.2 ▸ Still.refl w⟩
  · have hoff : M.off = false := by simpa using c1
    rw [hoff] at d1
    rw [if_neg c1]
    exact used_yes d1 nn _ d2 M.sz hsz hu
def Me.bytes (M : Me) (s : ByteArray) : List UInt8 × Int := match M.find s with
  | .inl E => ([], E)
  | .inr (gf, F) => (F.now, 0)
end Go.Proofs.Ytlkkkifilgnhmaa
