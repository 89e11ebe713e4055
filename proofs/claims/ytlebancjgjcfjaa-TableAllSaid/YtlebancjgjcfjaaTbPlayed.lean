/- Contract: a table behind a row of calls. It proves no statement. -/
import Derived.Test.YtlebancjgjcfjaaTbDel
import Derived.Test.YtlebancjgjcfjaaTbLives
import Derived.Test.YtlebancjgjcfjaaOpenDo12
namespace Go.Proofs.Ytlebancjgjcfjaa
open Go.RowKit
set_option linter.unusedVariables false
set_option linter.unusedSimpArgs false

def playL (l : List Dq) : List KV := l.foldl (fun L x => if x.k = 1 then delL x.K L else insL x.K [x.v] L) []
theorem playL_succ {l : List Dq} {i : Nat} {x : Dq} (h : l[i]? = some x) : playL (l.take (i + 1)) = if x.k = 1 then delL x.K (playL (l.take i)) else insL x.K [x.v] (playL (l.take i)) := by
  unfold playL
  rw [List.take_add_one, h]
  simp
theorem delL_le (k : List UInt8) (L : List KV) : (delL k L).length ≤ L.length := List.length_filter_le _ _
theorem playL_rise : ∀ l : List Dq, Rise (playL l) := by
  intro l
  unfold playL
  rw [← List.foldr_reverse]
  induction l.reverse with
  | nil => exact List.Pairwise.nil
  | cons x r ih =>
    rw [List.foldr_cons]
    split
    · exact ih.del
    · exact ih.ins
theorem playL_len (l : List Dq) (i : Nat) : (playL (l.take i)).length ≤ i := by
  induction i with
  | zero => simp [playL]
  | succ i ih =>
    cases h : l[i]? with
    | none =>
      have : l.take (i + 1) = l.take i := by rw [List.take_add_one, h]; simp
      rw [this]; omega
    | some x =>
      rw [playL_succ h]
      split
      · have := delL_le x.K (playL (l.take i)); omega
      · rw [insL_len (playL_rise _)]
        split <;> omega
/-- What is there behind i calls. -/
structure PlayW (w wr : World) (g : Nat) (l : List Dq) (i : Nat) : Prop where
  ex : ∃ b cp dd, Tb wr g b (playL (l.take i)) cp dd ∧ w.heap.size ≤ b
  still : Still w wr
  hg : w.heap.size ≤ g
section
variable {w wr W : World} {g i : Nat} {l : List Dq} {x : Dq}
theorem PlayW.put {b cp dd : Nat} (h : PlayW w wr g l i) (hx : l[i]? = some x) (hk : ¬ x.k = 1) (hb : w.heap.size ≤ b) (s : Still w wr) (p : PutP wr W g b (playL (l.take i)) cp dd x.K [x.v]) : PlayW w W g l (i + 1) := by
  obtain ⟨b', cp', dd', t, _, hb', c⟩ := p
  refine ⟨⟨b', cp', dd', by rw [playL_succ hx, if_neg hk]; exact t, ?_⟩, c.still s (fun q hq => ?_), h.hg⟩
  · rcases hb' with rfl | h'
    · exact hb
    · exact Nat.le_trans s.size h'
  · rcases hq with rfl | rfl
    · exact h.hg
    · exact hb
theorem PlayW.del {b cp dd : Nat} (h : PlayW w wr g l i) (hx : l[i]? = some x) (hk : x.k = 1) (hb : w.heap.size ≤ b) (s : Still w wr) (p : DelP wr W g b (playL (l.take i)) cp dd x.K) : PlayW w W g l (i + 1) := by
  obtain ⟨b', cp', dd', t, _, hb', c⟩ := p
  refine ⟨⟨b', cp', dd', by rw [playL_succ hx, if_pos hk]; exact t, ?_⟩, c.still s (fun q hq => ?_), h.hg⟩
  · rcases hb' with rfl | h'
    · exact hb
    · exact Nat.le_trans s.size h'
  · rcases hq with rfl | rfl
    · exact h.hg
    · exact hb
theorem Tb.drew {b cp dd : Nat} {L : List KV} (h : Tb w g b L cp dd) : Tb w.drew g b L cp dd := h.still ((Still.refl w).drew)
end
theorem del_any {w : World} {g b cp dd : Nat} {L : List KV} (h : Tb w g b L cp dd) (k : List UInt8) (hk : k.length = 32) (hl : L.length ≤ 1073741824) :
    Calls Try.prog 19 #[.pointer (some ⟨g, 0, none⟩), .agg (bytesV k).toArray] w fun e w' => e = .returned (.bool (hasL k L)) ∧ DelP w w' g b L cp dd k := by
  cases hh : hasL k L with
  | true => exact del_yes h k hk hl hh
  | false => exact del_no h k hk hl hh
set_option maxRecDepth 100000 in
set_option maxHeartbeats 6400000 in
theorem played_any (A : Option Addr) (n c N : Nat) (L : List Dq) (w0 w : World) (hN : N ≤ 1048576) (hr : DqRow w0 A n c L) (hs : Still w0 w) :
    Calls Try.prog 5 #[.slice A n c, .int .i64 (N : Int)] w fun e w' => ∃ g, e = .returned (.pointer (some ⟨g, 0, none⟩)) ∧ PlayW w w' g (L.take N) (min n N) := by
  obtain ⟨nn, hnn⟩ : ∃ nn, nn = min n N := ⟨_, rfl⟩
  have hlen := hr.len
  have FW := Lib.hid (few_any A n c N)
  have FEW := Lib.hid (fun W => FW.out W hr.fit hr.cap hN)
  have fit := hr.fit
  have cap := hr.cap
  rw [← hnn] at FEW ⊢
  have hn1 : nn ≤ n := by omega
  have hn2 : nn ≤ 1048576 := by omega
  have AT := Lib.hid (fun i (hi : i < nn) => show ∃ x, (L.take N)[i]? = some x ∧ ∃ b o, A = some ⟨b, o, none⟩ ∧ DqAt w0 w0.heap.size b (o + i * 34) x from by
    have h1 : i < L.length := by omega
    refine ⟨L[i], ?_, hr.at_ i _ (List.getElem?_eq_getElem h1)⟩
    rw [List.getElem?_take, if_pos (by omega), List.getElem?_eq_getElem h1])
  have NW := Lib.hid (tnew_any w)
  have HS := Lib.hid hs
  obtain ⟨l, hl⟩ : ∃ l, l = L.take N := ⟨_, rfl⟩
  rw [← hl] at AT ⊢
  have d0 : (nn : Int) ≤ 1048576 := by omega
  have d9 : (nn : Int) ≤ (c : Int) := by omega
  clear hl hnn hlen hr hs hn1 fit cap FW
  go_enter Try.func5, Try.ntmps5
  go_wp2_with (first
    | (go_at_call 17; refine NW.out.mono ?_; rintro e w1 ⟨g, b, rfl, t1, s1, hg, hb⟩; have P1 := Lib.hid (show PlayW w w1 g l 0 from ⟨⟨b, 8, 0, by simpa [playL] using t1, hb⟩, s1, hg⟩); clear t1 s1 hg hb)
    | (go_at_call 18; refine (FEW.out _).mono ?_; rintro e w2 ⟨rfl, rfl⟩))
  go_loopw [6] (fun iv wr => ∃ i : Nat, i ≤ nn ∧ iv = .int .i64 i ∧ Hid (PlayW w wr g l i)) (fun iv _ => nn - (intOf iv).toNat)
  case atStart => exact ⟨0, by omega, rfl, P1⟩
  case round =>
    obtain ⟨i, hi, rfl, PW⟩ := hrel
    clear P1
    by_cases hlt : i < nn
    · obtain ⟨x, hx, b0, o, hA, D⟩ := AT.out i hlt
      subst hA
      obtain ⟨⟨b, cp, dd, T, hb⟩, sw, hg⟩ := PW.out
      have D1 : ∀ W, Still w W → DqAt W w0.heap.size b0 (o + i * 34) x := fun W s => D.still (Nat.le_refl _) (Still.trans HS.out s)
      have kd := (D1 _ sw).kind
      have RK := Lib.hid (D1 _ sw).key
      have HL := Lib.hid (show (Try.prog.info? 43).map (·.size) = some (bytesV x.K).length from by rw [size32, bytesV_length, D.len])
      have hlen : (playL (l.take i)).length ≤ 1073741824 := Nat.le_trans (playL_len l i) (by omega)
      have d1 : (i : Int) < (nn : Int) := by omega
      by_cases hk : x.k = 1
      · have DL := Lib.hid (del_any T x.K D.len hlen)
        have NX := Lib.hid (fun W (p : DelP wr W g b (playL (l.take i)) cp dd x.K) => PW.out.del hx hk hb sw p)
        rw [hk] at kd
        clear hlen D1 D T sw hg hx hk hlt PW
        go_wp2_with (first
          | (guard_target =~ wpList _ _ _ (Oper.mk (some 28) _ _ _ _ _ :: _) _ _; go_must (refine wpList_load_mid rfl 43 (.tmp 27) rfl b0 (o + i * 34 + 1) rfl (bytesV x.K) _ RK.out under32 rfl HL.out ?_))
          | (go_at_call 19; refine DL.out.mono ?_; rintro e w3 ⟨rfl, p3⟩; have P3 := Lib.hid (NX.out _ p3); clear p3))
        go_roundw
        case rel => exact ⟨i + 1, by omega, by go_num, P3⟩
        case measure => simp [intOf]; omega
      · have kne : (x.k == 1) = false := by simpa using hk
        have PU := Lib.hid (put_any (T.still (Still.refl _).drew) x.K x.v D.len hlen)
        have NX := Lib.hid (fun W (p : PutP wr.drew W g b (playL (l.take i)) cp dd x.K [x.v]) => (show PlayW w wr.drew g l i from ⟨⟨b, cp, dd, T.still (Still.refl _).drew, hb⟩, sw.drew, hg⟩).put hx hk hb sw.drew p)
        have RK2 := Lib.hid (D1 _ sw.drew).key
        have vv := (D1 _ sw.drew).val
        obtain ⟨kk, hkk⟩ : ∃ kk, kk = x.k := ⟨_, rfl⟩
        rw [← hkk] at kd kne
        clear hlen D1 D T sw hg hx hk hlt PW RK hkk
        go_upto_region 8 with fail
        refine wp_region_still_tail 11 (by kernel_rfl) (by kernel_rfl) ?_
        simp only [List.take_succ_cons, List.take_zero, List.drop_succ_cons, List.drop_zero]
        change wpStill _ _ wr.drew _ _ _
        repeat (first
          | (guard_target =~ wpStill _ _ _ _ (Oper.mk (some 35) _ _ _ _ _ :: _) _; go_must (refine still_load_mid (by kernel_rfl) 43 (.tmp 34) rfl b0 (o + i * 34 + 1) (by kernel_rfl) (bytesV x.K) _ RK2.out under32 rfl HL.out ?_))
          | still_step)
        refine wpStill_nil ?_
        change wpList _ _ _ _ _ wr.drew
        clear kd kne vv
        go_wp2_with (go_at_call 20; refine PU.out.mono ?_; rintro e w3 ⟨rfl, p3⟩; have P3 := Lib.hid (NX.out _ p3); clear p3)
        go_roundw
        case rel => exact ⟨i + 1, by omega, by go_num, P3⟩
        case measure => simp [intOf]; omega
    · have hin : i = nn := by omega
      subst hin
      clear hlt
      go_wp2_with fail
      go_ret
      exact ⟨g, rfl, PW.out⟩
end Go.Proofs.Ytlebancjgjcfjaa
