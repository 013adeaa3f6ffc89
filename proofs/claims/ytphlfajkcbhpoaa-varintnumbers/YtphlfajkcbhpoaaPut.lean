/-
  The contracts of varint's withRoom, addNumber and Put over the program: what they lay in new memory.
-/
import Derived.Test.YtphlfajkcbhpoaaGet
import Derived.Laws.CopyOwn
namespace Go.Proofs.Ytphlfajkcbhpoaa
open Go.RowKit
set_option linter.unusedVariables false

theorem Try.info5 : (Try.prog.info? 5).map (fun i => (i.zero, i.size, i.bytes)) = some (some (.int .u8 0), 1, 1) := by kernel_rfl
theorem Try.size5 : (Try.prog.info? 5).map (·.size) = some 1 := by kernel_rfl

/-- Bytes as cells. -/
def cs (l : List UInt8) : List Value := l.map fun b => .int .u8 (b.toNat : Int)
theorem cs_len (l : List UInt8) : (cs l).length = l.length := by simp [cs]
theorem cs_append (l m : List UInt8) : cs (l ++ m) = cs l ++ cs m := by simp [cs]
theorem cs_one (l : List UInt8) : ∀ u ∈ cs l, u.oneCell' = true := by
  intro u hu
  simp [cs] at hu
  obtain ⟨b, _, rfl⟩ := hu
  rfl
theorem cs_get {l : List UInt8} {j : Nat} {u : Value} (h : (cs l)[j]? = some u) : j < l.length ∧ u = .int .u8 (M.bAt l j) := by
  have hj : j < l.length := by
    have := (List.getElem?_eq_some_iff.1 h).1
    simpa [cs] using this
  refine ⟨hj, ?_⟩
  simp [cs, List.getElem?_eq_getElem hj] at h
  rw [← h]
  simp [M.bAt, hj]

/-- A slice value owns the bytes l. -/
def Own (w : World) (base : Nat) (v : Value) (l : List UInt8) : Prop := w.ownsRow base 5 1 v l.length (cs l)

theorem add_none (b o j : Nat) : (⟨b, o, none⟩ : Addr).add j = ⟨b, o + j, none⟩ := by unfold Addr.add; split <;> simp_all

theorem Own.byt {w : World} {base : Nat} {v : Value} {l : List UInt8} (h : Own w base v l) : ∃ a cap, v = .slice a l.length cap ∧ Byt w a cap l := by
  obtain ⟨h1, h2⟩ := h
  rcases h2 with ⟨rfl, h0⟩ | ⟨g, cap, cur, rfl, hb, hg, hlc, hcm, hsz, htake⟩
  · refine ⟨none, 0, by rw [h0], by omega, by simp [maxLen], fun _ => rfl, fun i hi => by omega⟩
  · refine ⟨some ⟨g, 0, none⟩, cap, rfl, hlc, hcm, by simp, fun i hi => ⟨g, 0, rfl, ?_⟩⟩
    have hc := World.ownsRow.cells (w := w) (base := base) (e := 5) (size := 1) (v := .slice (some ⟨g, 0, none⟩) l.length cap) (n := l.length) (xs := cs l)
      ⟨h1, .inr ⟨g, cap, cur, rfl, hb, hg, hlc, hcm, hsz, htake⟩⟩ (g := g) rfl i (.int .u8 (M.bAt l i)) (by simp [cs, M.bAt, hi])
    rw [add_none] at hc
    exact hc

/-- What is read below stays as it was. -/
theorem Byt.below {w w' : World} {a : Option Addr} {cap : Nat} {l : List UInt8} (h : Byt w a cap l) (hb : Below w.heap.size w w') : Byt w' a cap l := by
  obtain ⟨h1, h2, h3, h4⟩ := h
  refine ⟨h1, h2, h3, fun i hi => ?_⟩
  obtain ⟨b, off, rfl, hc⟩ := h4 i hi
  refine ⟨b, off, rfl, ?_⟩
  rw [hb.cell (p := ⟨b, off + i, none⟩) (World.block_lt_of_cell? w _ hc)]
  exact hc

/-- 'make([]T, n, c)'. -/
theorem wpList_make_some {P : Program} (w : World) {ops : Array Oper} {rest : List Oper} {o : Oper} {a : Act} {Q : Exit → Act → World → Prop}
    (hg : o.guard = none) (l c : Operand) (t : TypeId) (hop : o.op = Op.makeSlice t l c)
    (e : TypeId) (i : TypeInfo) (z : Value) (h1 : P.underlying t = some (.slice e)) (h2 : P.info? e = some i) (h3 : i.zero = some z) (h4 : i.size = 1) (h5 : i.bytes = 1)
    (kl kc : IntKind) (L C : Int) (n m : Nat) (hl : a.eval l = .int kl L) (hc : a.eval c = .int kc C) (hL : L = (n : Int)) (hC : C = (m : Int)) (b1 : n ≤ m) (b2 : m ≤ 281474976710656)
    (hK : ∀ (w' : World) (cur : List Value), cur.length = m → w'.heap[w.heap.size]? = some (.cells cur.toArray e (0, 0)) → Below w.heap.size w w' → wpList P ops Q rest (a.put o.dst (.slice (some ⟨w.heap.size, 0, none⟩) n m)) w') :
    wpList P ops Q (o :: rest) a w := by
  refine wpList_plain hg fun K hK' => ?_
  subst hL
  subst hC
  have hrun := run_make (P := P) w t e i z h1 h2 h3 kl kc (n : Int) (m : Int) (by omega) (by omega) (by rw [h5]; omega) (by omega)
  simp only [Int.toNat_natCast] at hrun
  unfold Oper.wp
  simp [execOp, hop, hl, hc, hrun, Result.andThen]
  exact hK' _ _ (hK _ (madeCells z.cells (m * i.size)).toList (by simp [size_madeCells, h4]) (by simpa using heap_alloc_new w _) ((Below.refl _ _).alloc (Nat.le_refl _) _))

theorem room_any (a : Option Addr) (cap : Nat) (l : List UInt8) (r : Nat) (w : World) (hB : Byt w a cap l) (hr : l.length + r ≤ 281474976710656) :
    Calls Try.prog 27 #[.slice a l.length cap, .int .i64 r] w fun e w' =>
      ∃ v', e = .returned v' ∧ Own w' w.heap.size v' l ∧ Below w.heap.size w w' := by
  obtain ⟨i0, hi, hz0, hz1, hz2⟩ := info_parts Try.info5
  obtain ⟨hlc, hcm, hnone, hcell⟩ := hB
  have hlen : l.length ≤ 281474976710656 := by omega
  obtain ⟨C, hC⟩ : ∃ C, C = cs l := ⟨_, rfl⟩
  have hCl : C.length = l.length := by rw [hC, cs_len]
  have HC : Hid (C = cs l) := hC
  have hone : ∀ v ∈ C, v.oneCell' = true := by rw [hC]; exact cs_one l
  clear hC
  go_enter Try.func27, Try.ntmps27
  go_wp2_with (first
    | (at_make; refine wpList_make_some _ rfl _ _ 22 rfl 5 i0 (.int .u8 0) Try.underlying22 hi hz0 hz1 hz2 .i64 .i64 _ _ l.length (l.length + r) rfl rfl (by omega) (by omega) (by omega) (by omega) ?_; intro w1 cur hcur hg1 hb1)
    | (have _t := hg1; refine wpList_copy_splice rfl (.tmp 13) (.tmp 14) 22 22 rfl 5 Try.underlying22 Try.size5 _ _ _ _ _ _ rfl rfl w.heap.size 0 cur 5 hg1 C ?c1 ?c2 ?c3 hone w.heap.size w hb1 (Nat.le_refl _) ?_; rotate_right; intro w2 hg2 hb2; clear hg1))
  case c1 => rw [hCl]; exact (Nat.min_self _).symm
  case c2 =>
    intro h0
    obtain ⟨b, off, rfl, _⟩ := hcell 0 h0
    refine ⟨_, rfl, fun j u hu => ?_⟩
    rw [HC.out] at hu
    obtain ⟨hj, rfl⟩ := cs_get hu
    obtain ⟨b', off', hbo, hc⟩ := hcell j hj
    simp at hbo
    obtain ⟨rfl, rfl⟩ := hbo
    rw [add_none, hb1.cell (p := ⟨b, off + j, none⟩) (World.block_lt_of_cell? w _ hc)]
    exact hc
  case c3 => omega
  go_ret
  refine ⟨_, rfl, ?_, hb2⟩
  have hg := hg2.out
  refine ⟨by simp [cs_len], .inr ⟨w.heap.size, l.length + r, _, rfl, Nat.le_refl _, hg, by omega, by unfold maxLen; omega, ?_, ?_⟩⟩
  · simp only [List.size_toArray]; rw [length_splice _ _ _ (by omega)]; omega
  · rw [← HC.out]
    simp [splice, ← hCl]

theorem own_push {w : World} {base : Nat} {v : Value} {l : List UInt8} {c : UInt8} {k : Nat} {X : Int} (h : w.ownsRow base 5 1 v k (cs l ++ [.int .u8 X])) (hk : k = l.length + 1) (hX : X = c.toNat) : Own w base v (l ++ [c]) := by
  subst hX; subst hk
  show w.ownsRow base 5 1 v (l ++ [c]).length (cs (l ++ [c]))
  rw [cs_append, List.length_append]
  exact h
theorem step_below {base : Nat} {w wr w1 : World} {v : Value} {l : List UInt8} {o : Obj} (hbel : Below base w wr) (hsz : base ≤ wr.heap.size) (hown : Own wr base v l) (hg : (wr.alloc o).grownBy w1 v.ownBlock) : Below base w w1 :=
  (hbel.alloc hsz o).grown hg (by simp; omega) (fun k hk => (World.ownsRow.lt hown k hk).1)
theorem one_cell (w : World) (X : Value) (j : Nat) (u : Value) (h : [X][j]? = some u) : (w.alloc (.cells #[X] 5)).cell? ((⟨w.heap.size, 0, none⟩ : Addr).add j) = some u := by
  match j, h with
  | 0, h => simp at h; subst h; simp [Addr.add]

set_option maxRecDepth 100000 in
theorem addNumber_any (base : Nat) (v : Value) (l : List UInt8) (n : Nat) (w : World) (hv : Own w base v l) (hn : n < 18446744073709551616) (hlen : l.length + 10 ≤ 140737488355328) (hb : base ≤ w.heap.size) :
    Calls Try.prog 26 #[v, .int .u64 n] w fun e w' => ∃ v', e = .returned v' ∧ Own w' base v' (l ++ M.digs n) ∧ Below base w w' := by
  obtain ⟨i0, hi, hz0, hz1, hz2⟩ := info_parts Try.info5
  have hD := M.digs_len n
  go_enter Try.func26, Try.ntmps26
  go_wp2
  go_loopw [0, 1] (fun v i wr => ∃ (pre : List UInt8) (N : Nat), N < 18446744073709551616 ∧ i = .int .u64 N ∧ pre ++ M.digs N = M.digs n ∧ Own wr base v (l ++ pre) ∧ Below base w wr) (fun _ i _ => (intOf i).toNat)
  case atStart => exact ⟨[], n, hn, rfl, rfl, by simpa using hv, Below.refl _ _⟩
  case round =>
    obtain ⟨pre, N, hN, rfl, hpre, hown, hbel⟩ := hrel
    have hpl : pre.length + 1 ≤ 10 := by
      have h1 := congrArg List.length hpre
      have h2 := M.digs_len N
      simp at h1; omega
    have hsz := hbel.size
    have HP : Hid (pre ++ M.digs N = M.digs n) := hpre
    clear hpre
    by_cases hlt : 127 < N
    · have h1 := I.and127 (N : Int) (by omega) (by omega)
      have h2 := I.or128b ((N : Int) % 128) (by omega) (by omega)
      go_wp2_with (at_builtin; refine wpList_append_own _ rfl (.tmp 7) (.tmp 12) 22 rfl base 5 i0 (.int .u8 0) 1 1 Try.underlying22 hi hz0 hz1 hz2 rfl (by decide) _ _ _ rfl (hown.alloc _) ⟨wr.heap.size, 0, none⟩ 1 1 [.int .u8 ((N : Int) % 128 + 128)] rfl rfl ?c1 ?c2 ?c3 ?c4 ?c5 ?_)
      case c1 => exact one_cell wr _
      case c2 => intro u hu; simp at hu; subst hu; rfl
      case c3 => simp [maxLen]; omega
      case c4 => simp; omega
      case c5 => simp; omega
      intro v' w1 hown' hgrow _
      have hb' := step_below hbel (by omega) hown hgrow
      have ho' : Own w1 base v' (l ++ (pre ++ [UInt8.ofNat (N % 128 + 128)])) := by
        rw [← List.append_assoc]
        exact own_push hown' (by simp) (by simp; omega)
      have hd : pre ++ [UInt8.ofNat (N % 128 + 128)] ++ M.digs (N / 128) = M.digs n := by
        rw [← HP.out, M.digs_more (by omega) hN]; simp
      have HD : Hid (pre ++ [UInt8.ofNat (N % 128 + 128)] ++ M.digs (N / 128) = M.digs n) := hd
      clear hown' hgrow hown hbel hd
      go_wp2
      go_roundw
      case rel => exact ⟨_, N / 128, by omega, I.int_num (by omega), HD.out, ho', hb'⟩
      case measure => simp [intOf]; omega
    · go_wp2_with (at_builtin; refine wpList_append_own _ rfl (.tmp 16) (.tmp 19) 22 rfl base 5 i0 (.int .u8 0) 1 1 Try.underlying22 hi hz0 hz1 hz2 rfl (by decide) _ _ _ rfl (hown.alloc _) ⟨wr.heap.size, 0, none⟩ 1 1 [.int .u8 (N : Int)] rfl rfl ?d1 ?d2 ?d3 ?d4 ?d5 ?_)
      case d1 => exact one_cell wr _
      case d2 => intro u hu; simp at hu; subst hu; rfl
      case d3 => simp [maxLen]; omega
      case d4 => simp; omega
      case d5 => simp; omega
      intro v' w1 hown' hgrow _
      have hb' := step_below hbel (by omega) hown hgrow
      have ho' : Own w1 base v' (l ++ (pre ++ [UInt8.ofNat N])) := by
        rw [← List.append_assoc]
        exact own_push hown' (by simp) (by simp; omega)
      have hd : pre ++ [UInt8.ofNat N] = M.digs n := by
        rw [← HP.out, M.digs_low (by omega)]
      rw [hd] at ho'
      clear hown' hgrow hown hbel hd
      go_wp2
      go_ret
      exact ⟨_, rfl, ho', hb'⟩

theorem Own.mono {w : World} {base base' : Nat} {v : Value} {l : List UInt8} (h : Own w base v l) (hb : base' ≤ base) : Own w base' v l := by
  obtain ⟨h1, h2⟩ := h
  refine ⟨h1, ?_⟩
  rcases h2 with h2 | ⟨g, cap, cur, hv, hg, r⟩
  · exact .inl h2
  · exact .inr ⟨g, cap, cur, hv, Nat.le_trans hb hg, r⟩

/-- Put: b's bytes and n's, in new memory. -/
theorem put_any (a : Option Addr) (cap : Nat) (l : List UInt8) (n : Nat) (w : World) (hB : Byt w a cap l) (hn : n < 18446744073709551616) (hlen : l.length + 10 ≤ 140737488355328) :
    Calls Try.prog 17 #[.slice a l.length cap, .int .u64 n] w fun e w' => ∃ v', e = .returned v' ∧ Own w' w.heap.size v' (l ++ M.digs n) ∧ Below w.heap.size w w' := by
  go_enter Try.func17, Try.ntmps17
  go_wp2_with fail
  refine (room_any a cap l 10 _ hB (by omega)).mono ?_
  rintro e w1 ⟨v1, rfl, ho1, hb1⟩
  go_wp2_with fail
  refine (addNumber_any _ v1 l n _ ho1 hn hlen hb1.size).mono ?_
  rintro e w2 ⟨v2, rfl, ho2, hb2⟩
  go_wp2
  go_ret
  exact ⟨_, rfl, ho2, hb1.trans hb2⟩
end Go.Proofs.Ytphlfajkcbhpoaa
