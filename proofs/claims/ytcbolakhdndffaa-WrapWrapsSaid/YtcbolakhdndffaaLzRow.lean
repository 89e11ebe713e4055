/- Contracts: the program's rest, literals and sequence lay what they should upon a row. It proves no statement. -/
import Derived.Test.YtcbolakhdndffaaLzMath
import Derived.Test.YtcbolakhdndffaaPut
import Derived.Test.YtcbolakhdndffaaAdds
namespace Go.Proofs.Ytcbolakhdndffaa
open Go.RowKit
set_option linter.unusedVariables false
set_option linter.unusedSimpArgs false

/-- From w to w' only the row v was written upon; it became v', and reads as l. -/
structure Grew (w w' : World) (base : Nat) (v v' : Value) (l : List UInt8) : Prop where
  own : w'.ownsRow base 5 1 v' l.length (bytesV l)
  gr : w.grownBy w' v.ownBlock
  loc : ∀ k, v'.ownBlock = some k → v.ownBlock = some k ∨ w.heap.size ≤ k
theorem Grew.refl {w : World} {base : Nat} {v : Value} {l : List UInt8} (h : w.ownsRow base 5 1 v l.length (bytesV l)) : Grew w w base v v l := ⟨h, World.grownBy.refl _ _, fun k e => .inl e⟩
theorem Grew.trans {w w1 w2 : World} {base : Nat} {v v1 v2 : Value} {l l2 : List UInt8} (a : Grew w w1 base v v1 l) (b : Grew w1 w2 base v1 v2 l2) : Grew w w2 base v v2 l2 := by
  refine ⟨b.own, ⟨b.gr.os.trans a.gr.os, b.gr.tape.trans a.gr.tape, b.gr.output.trans a.gr.output, Nat.le_trans a.gr.size b.gr.size, fun k hk hne => ?_⟩, fun k e => ?_⟩
  · refine (b.gr.block k (Nat.lt_of_lt_of_le hk a.gr.size) fun e => ?_).trans (a.gr.block k hk hne)
    rcases a.loc k e.symm with h | h
    · exact hne h.symm
    · omega
  · rcases b.loc k e with h | h
    · exact a.loc k h
    · exact .inr (Nat.le_trans a.gr.size h)
/-- Other blocks were made meanwhile. -/
theorem Grew.still {w w1 w2 : World} {base : Nat} {v v2 : Value} {l2 : List UInt8} (a : Still w w1) (b : Grew w1 w2 base v v2 l2) : Grew w w2 base v v2 l2 :=
  ⟨b.own, ⟨b.gr.os.trans a.os, b.gr.tape.trans a.tape, b.gr.output.trans a.output, Nat.le_trans a.size b.gr.size, fun k hk hne => (b.gr.block k (Nat.lt_of_lt_of_le hk a.size) hne).trans (a.block k hk)⟩, fun k e => (b.loc k e).imp id (Nat.le_trans a.size)⟩
theorem Grew.low {w w' : World} {base lo : Nat} {v v' : Value} {l : List UInt8} (a : Grew w w' base v v' l) (hv : ∀ k, v.ownBlock = some k → lo ≤ k) (hlo : lo ≤ w.heap.size) : Below lo w w' :=
  ⟨a.gr.os, a.gr.tape, a.gr.output, a.gr.size, fun k hk => a.gr.block k (by omega) (fun e => by have := hv k e.symm; omega)⟩
/-- 'append(b, e)' of one byte, told where the row lies behind it. -/
theorem wpList_pushG (w : World) {ops : Array Oper} {rest : List Oper} {o : Oper} {a : Act} {Q : Exit → Act → World → Prop} (hgd : o.guard = none) (s x : Operand)
    (ho : o.op = .call { callee := .builtin .append, args := #[s, x], argTypes := #[22, 22] })
    (base : Nat) (v : Value) (l : List UInt8) (hs : a.eval s = v) (hown : w.ownsRow base 5 1 v l.length (bytesV l)) (e : Int) (b : UInt8)
    (hx : a.eval x = .slice (some ⟨w.heap.size, 0, none⟩) 1 1) (he : e = (b.toNat : Int)) (hn : l.length < 140737488355328) (hbase : base ≤ w.heap.size)
    (h : ∀ v' w', Grew w w' base v v' (l ++ [b]) → wpList Try.prog ops Q rest (a.put o.dst v') w') :
    wpList Try.prog ops Q (o :: rest) a (w.alloc (.cells #[.int .u8 e] 5)) := by
  refine wpList_plain hgd fun K hK => ?_
  subst he
  obtain ⟨v', w', hrun, h2, h3, h4⟩ := run_push (w.alloc (.cells #[.int .u8 (b.toNat : Int)] 5)) o.type base v l.length l (hown.alloc _) w.heap.size b (by
    rw [cell_of_row _ w.heap.size 0 _ _ _ (heap_alloc_new w _)]; rfl) hn (by simp; omega)
  unfold Oper.wp execOp
  simp only [ho, resolve, invoke, builtin, Sem.run_bind, Sem.run_pure, Result.andThen_ok, List.map_toArray, List.map_cons, List.map_nil, hs, hx, hrun]
  refine hK _ _ (h v' w' (Grew.still ((Still.refl w).alloc (Nat.le_refl _) _) ⟨by simpa using h2, h3, fun k e => ?_⟩))
  rcases h4 with h | h
  · exact .inl (h ▸ e)
  · rw [h] at e; cases e; exact .inr (Nat.le_refl _)
/-- 'append(b, c...)' of bytes that lie anywhere. -/
theorem wpList_addsG (w : World) {ops : Array Oper} {rest : List Oper} {o : Oper} {a : Act} {Q : Exit → Act → World → Prop} (hgd : o.guard = none) (s x : Operand)
    (ho : o.op = .call { callee := .builtin .append, args := #[s, x], argTypes := #[22, 22] })
    (base : Nat) (v : Value) (l : List UInt8) (hs : a.eval s = v) (hown : w.ownsRow base 5 1 v l.length (bytesV l)) (A : Option Addr) (n' c' : Nat) (B : Nat) (l' : List UInt8)
    (hx : a.eval x = .slice A n' c') (hr : Reads w B A n' l') (hA : A = none → c' = 0) (hn : l.length + n' ≤ 140737488355328) (hbase : base ≤ w.heap.size)
    (h : ∀ v' w', Grew w w' base v v' (l ++ l') → wpList Try.prog ops Q rest (a.put o.dst v') w') :
    wpList Try.prog ops Q (o :: rest) a w := by
  refine wpList_adds_at w hgd s x ho base v l.length l hs hown A n' c' B l' hx hr hA hn hbase fun v' w' h2 h3 h4 => h v' w' ⟨by rw [List.length_append, hr.1]; exact h2, h3, fun k e => ?_⟩
  rcases h4 with h | h
  · exact .inl (h ▸ e)
  · rw [h] at e; cases e; exact .inr (Nat.le_refl _)

set_option maxRecDepth 100000 in
set_option maxHeartbeats 800000 in
theorem rest_any (w : World) (base : Nat) (v : Value) (l : List UInt8) (n : Nat) (hown : w.ownsRow base 5 1 v l.length (bytesV l)) (hbase : base ≤ w.heap.size) (hn : n ≤ 1048576) (hl : l.length ≤ 1048576) :
    Calls Try.prog 51 #[v, .int .i64 n] w fun e w' => ∃ v', e = .returned v' ∧ Grew w w' base v v' (l ++ extL n) := by
  have G0 := Lib.hid (Grew.refl hown)
  have HB := Lib.hid (And.intro hbase hl)
  clear hown hbase hl
  by_cases hs : n < 15
  · have e := extL_small hs
    have E := Lib.hid e
    clear e
    go_enter Try.func51, Try.ntmps51
    go_wp2_with fail
    go_ret
    exact ⟨v, rfl, by rw [E.out, List.append_nil]; exact G0.out⟩
  · obtain ⟨m, rfl⟩ : ∃ m, n = m + 15 := ⟨n - 15, by omega⟩
    have e := extL_big (n := m + 15) (by omega)
    rw [Nat.add_sub_cancel] at e
    have E := Lib.hid e
    clear e
    have d1 : ¬ ((m : Int) + 15 < 15) := by omega
    go_enter Try.func51, Try.ntmps51
    go_wp2_with fail
    go_loopw [0, 1] (fun vx iv wr => ∃ (j k : Nat) (lv : Value), lv = vx ∧ iv = .int .i64 j ∧ j + 255 * k = m ∧ Hid (Grew w wr base v lv (l ++ List.replicate k 255))) (fun _ iv _ => (intOf iv).toNat)
    case atStart => exact ⟨m, 0, _, rfl, by go_num, by omega, (by rw [List.replicate_zero, List.append_nil]; exact G0.out : Grew w w base v _ (l ++ List.replicate 0 255))⟩
    case round =>
      obtain ⟨j, k, lv, hlv, rfl, hjk, hg⟩ := hrel
      subst hlv
      have HS : Hid (w.heap.size ≤ wr.heap.size) := hg.out.gr.size
      by_cases hlt : 255 ≤ j
      · go_wp2_with (at_builtin; go_must (refine wpList_pushG wr rfl _ _ rfl base lv (l ++ List.replicate k 255) rfl hg.out.own _ 255 rfl rfl ?c1 ?c2 ?_))
        case c1 => have := HB.out; simp; omega
        case c2 => have := HB.out; have := HS.out; omega
        intro v2 w2 g2
        have G2 := Lib.hid (hg.out.trans g2)
        clear g2 hg
        go_wp2_with fail
        go_roundw
        case rel => exact ⟨j - 255, k + 1, _, rfl, by go_num, by omega, by rw [List.replicate_succ']; exact G2.out⟩
        case measure => simp [intOf]; omega
      · have hd : (m + 15 - 15) = m := by omega
        have hk : m / 255 = k ∧ m % 255 = j := by omega
        have HK := Lib.hid hk
        clear hk hd
        go_wp2_with (at_builtin; go_must (refine wpList_pushG wr rfl _ _ rfl base lv (l ++ List.replicate k 255) rfl hg.out.own _ (UInt8.ofNat j) rfl ?c0 ?c1 ?c2 ?_))
        case c0 => simp; omega
        case c1 => have := HB.out; simp; omega
        case c2 => have := HB.out; have := HS.out; omega
        intro v2 w2 g2
        have G2 := Lib.hid (hg.out.trans g2)
        clear g2 hg
        go_wp2_with fail
        go_ret
        refine ⟨_, rfl, ?_⟩
        rw [E.out, HK.out.1, HK.out.2]
        exact G2.out

/-- A token's number. -/
theorem tok_bits (a m : Nat) : bits BinOp.or IntKind.i64 (((min a 15 : Nat) : Int) * 16) ((min m 15 : Nat) : Int) % 256 = ((tokL a m).toNat : Int) := by
  rw [tokL_nat]
  have h1 : min a 15 ≤ 15 := Nat.min_le_right _ _
  have h2 : min m 15 ≤ 15 := Nat.min_le_right _ _
  generalize min a 15 = x at *
  generalize min m 15 = y at *
  have : ∀ x y : Fin 16, bits BinOp.or IntKind.i64 (((x.val : Nat) : Int) * 16) ((y.val : Nat) : Int) % 256 = ((x.val * 16 + y.val : Nat) : Int) := by decide
  exact this ⟨x, by omega⟩ ⟨y, by omega⟩

set_option maxRecDepth 100000 in
set_option maxHeartbeats 800000 in
theorem literals_any (w : World) (base : Nat) (v : Value) (l : List UInt8) (A : Option Addr) (n c : Nat) (t : List UInt8) (B m : Nat) (hown : w.ownsRow base 5 1 v l.length (bytesV l)) (hbase : base ≤ w.heap.size) (hB : B ≤ base) (hr : Reads w B A n t) (hA : A = none → n = 0 ∧ c = 0) (hn : n ≤ 65536) (hm : m ≤ 65536) (hl : l.length ≤ 524288) :
    Calls Try.prog 47 #[v, .slice A n c, .int .i64 m] w fun e w' => ∃ v', e = .returned v' ∧ Grew w w' base v v' (l ++ litB t m) := by
  have hlen := hr.1
  have G0 := Lib.hid (Grew.refl hown)
  have HB := Lib.hid (And.intro hbase (And.intro hl hB))
  have HR := Lib.hid (fun W (s : Below base w W) => hr.below (s.mono hB))
  have HA := Lib.hid hA
  have LO := Lib.hid (fun k (e : v.ownBlock = some k) => (hown.lt k e).1)
  clear hown hbase hl hr hA hB
  have TB := tok_bits n m
  have key : ∃ x y : Nat, min n 15 = x ∧ min m 15 = y ∧ ((x = 15 ∧ 15 < n) ∨ (n = x ∧ n ≤ 15)) ∧ ((y = 15 ∧ 15 < m) ∨ (m = y ∧ m ≤ 15)) := ⟨_, _, rfl, rfl, by omega, by omega⟩
  obtain ⟨x, y, hx, hy, k1, k2⟩ := key
  rw [hx, hy] at TB
  have TT := Lib.hid TB
  clear TB hx hy
  rcases k1 with ⟨k0, k1⟩ | ⟨k0, k1⟩ <;> rcases k2 with ⟨k3, k2⟩ | ⟨k3, k2⟩ <;> (subst k0; subst k3)
  all_goals
    go_enter Try.func47, Try.ntmps47
    go_wp2_with (at_builtin; go_must (refine wpList_pushG w rfl _ _ rfl base v l rfl G0.out.own _ (tokL n m) rfl ?c0 ?c1 ?c2 ?_))
    case c0 => first | exact TT.out | simpa using TT.out
    case c1 => have := HB.out; omega
    case c2 => have := HB.out; omega
    intro v2 w2 g2
    have hg2 := g2
    have S2 := Lib.hid (g2.low (lo := base) LO.out HB.out.1)
    have Z2 := Lib.hid (show w.heap.size ≤ w2.heap.size from g2.gr.size)
    have LO2 := Lib.hid (fun k (e : v2.ownBlock = some k) => (g2.own.lt k e).1)
    have HE := Lib.hid (extL_length n)
    have RC := Lib.hid (rest_any w2 base v2 (l ++ [tokL n m]) n g2.own (by have := HB.out; have := Z2.out; omega) (by omega) (by have := HB.out; simp; omega))
    have G2 := Lib.hid g2
    clear g2 hg2 TT
    go_wp2_with fail
    refine RC.out.mono ?_
    rintro e w3 ⟨v3, rfl, g3⟩
    have G3 := Lib.hid g3
    have S3 := Lib.hid (g3.low (lo := base) LO2.out (by have := HB.out; have := Z2.out; omega))
    have Z3 := Lib.hid (show w2.heap.size ≤ w3.heap.size from g3.gr.size)
    clear g3 RC
    go_wp2_with (at_builtin; go_must (refine wpList_addsG w3 rfl _ _ rfl base v3 (l ++ [tokL n m] ++ extL n) rfl G3.out.own A n c B t rfl (HR.out _ (Below.trans S2.out S3.out)) (fun e => (HA.out e).2) ?c1 ?c2 ?_))
    case c1 => have := HB.out; have := HE.out; simp; omega
    case c2 => have := HB.out; have := Z2.out; have := Z3.out; omega
    intro v4 w4 g4
    have G4 := Lib.hid ((G2.out.trans G3.out).trans g4)
    clear g4
    go_wp2_with fail
    go_ret
    refine ⟨_, rfl, ?_⟩
    have h := G4.out
    unfold litB
    rw [hlen]
    simpa using h
/-- A distance's two bytes. -/
theorem dist_bytes (d : Nat) : leBytes d 2 = [UInt8.ofNat d, UInt8.ofNat (d / 256)] := by simp [leBytes, List.range_succ]

set_option maxRecDepth 100000 in
set_option maxHeartbeats 800000 in
theorem sequence_any (w : World) (base : Nat) (v : Value) (l : List UInt8) (A : Option Addr) (n c : Nat) (t : List UInt8) (B d k : Nat) (hown : w.ownsRow base 5 1 v l.length (bytesV l)) (hbase : base ≤ w.heap.size) (hB : B ≤ base) (hr : Reads w B A n t) (hA : A = none → n = 0 ∧ c = 0) (hn : n ≤ 65536) (hd : d ≤ 65536) (hk : k ≤ 65536) (hk4 : 4 ≤ k) (hl : l.length ≤ 131072) :
    Calls Try.prog 46 #[v, .slice A n c, .int .i64 d, .int .i64 k] w fun e w' => ∃ v', e = .returned v' ∧ Grew w w' base v v' (l ++ seqB t d k) := by
  have LO := Lib.hid (fun k (e : v.ownBlock = some k) => (hown.lt k e).1)
  obtain ⟨m, rfl⟩ : ∃ m, k = m + 4 := ⟨k - 4, by omega⟩
  have L1 := Lib.hid (literals_any w base v l A n c t B m hown hbase hB hr hA hn (by omega) (by omega))
  have HB := Lib.hid (And.intro hbase (And.intro hl hB))
  have HL := Lib.hid (litB_length t m)
  have HT := Lib.hid hr.1
  clear hown hbase hl hr hA hB
  go_enter Try.func46, Try.ntmps46
  go_wp2_with fail
  refine L1.out.mono ?_
  rintro e w1 ⟨v1, rfl, g1⟩
  have Z1 := Lib.hid (show w.heap.size ≤ w1.heap.size from g1.gr.size)
  have LO1 := Lib.hid (fun k (e : v1.ownBlock = some k) => (g1.own.lt k e).1)
  have G1 := Lib.hid g1
  clear g1 L1
  go_wp2_with fail
  refine (put_yes d 2 w1 (by omega) (by omega) (by omega)).mono ?_
  rintro e w2 ⟨rfl, own2, s2⟩
  have R2 := Lib.hid (Reads.of_own own2)
  have Z2 := Lib.hid s2.size
  have OW2 := Lib.hid (own_still G1.out.own s2)
  have S2 := Lib.hid s2
  clear own2 s2
  go_wp2_with (at_builtin; go_must (refine wpList_addsG w2 rfl _ _ rfl base v1 (l ++ litB t m) rfl OW2.out _ 2 2 _ (leBytes d 2) rfl R2.out (fun e => by cases e) ?c1 ?c2 ?_))
  case c1 => have := HB.out; have := HL.out; have := HT.out; simp; omega
  case c2 => have := HB.out; have := Z1.out; have := Z2.out; omega
  intro v3 w3 g3
  have G3 := Lib.hid (G1.out.trans (Grew.still S2.out g3))
  have Z3 := Lib.hid (show w2.heap.size ≤ w3.heap.size from g3.gr.size)
  have RC := Lib.hid (rest_any w3 base v3 (l ++ (litB t m ++ leBytes d 2)) m G3.out.own (by have := HB.out; have := Z1.out; have := Z2.out; have := Z3.out; omega) (by omega) (by have := HB.out; have := HL.out; have := HT.out; simp [leBytes_length]; omega))
  clear g3 R2 OW2 S2
  go_wp2_with fail
  refine RC.out.mono ?_
  rintro e w4 ⟨v4, rfl, g4⟩
  have G4 := Lib.hid (G3.out.trans g4)
  clear g4 RC
  go_wp2_with fail
  go_ret
  refine ⟨_, rfl, ?_⟩
  have h := G4.out
  unfold seqB
  rw [dist_bytes] at h
  rw [Nat.add_sub_cancel]
  simpa using h
end Go.Proofs.Ytcbolakhdndffaa
