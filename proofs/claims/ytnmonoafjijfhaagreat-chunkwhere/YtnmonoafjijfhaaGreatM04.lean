/-
  What a slice of bytes holds, what a call owns, what later worlds keep: the words in which the contracts are said. No function of the program here.
-/
import Derived.Test.YtnmonoafjijfhaaGreatRows
import Derived.Test.YtnmonoafjijfhaaGreatM03
import Derived.Test.YtnmonoafjijfhaaGreatM02
import Derived.WalkKit
import Derived.WalkLawsBesides
import Derived.WalkSpells
import Derived.Outline
import Derived.Laws.CopyOwn
import Derived.Laws.IdiomStrings
import Derived.Lib.Strings
import Derived.Lib.AppendStr
import Derived.Laws.AppendOwnNone
import Derived.Deep.QuietTactic
import Derived.BigQuiet
namespace Go.Proofs.YtnmonoafjijfhaaGreat
open Go.RowKit
set_option linter.unusedVariables false
/-- What a slice of bytes that is read holds: the bytes l. -/
def Byt (w : World) (a : Option Addr) (cap : Nat) (l : List UInt8) : Prop :=
  l.length ≤ cap ∧ cap ≤ maxLen ∧ (a = none → cap = 0) ∧ ∀ i, i < l.length → ∃ b off, a = some ⟨b, off, none⟩ ∧ w.cell? ⟨b, off + i, none⟩ = some (.int .u8 (M.bAt l i))
theorem ret3 {a b c a' b' c' : Value} (h1 : a = a') (h2 : b = b') (h3 : c = c') : Ending.returned (.tuple #[a, b, c]) = .returned (.tuple #[a', b', c']) := by rw [h1, h2, h3]
theorem Tryz.info5 : (Tryz.prog.info? 5).map (fun i => (i.zero, i.size, i.bytes)) = some (some (.int .u8 0), 1, 1) := by kernel_rfl
theorem Tryz.size5 : (Tryz.prog.info? 5).map (·.size) = some 1 := by kernel_rfl
/-- Bytes as cells. -/
def cs (l : List UInt8) : List Value := l.map fun b => .int .u8 (b.toNat : Int)
theorem cs_len (l : List UInt8) : (cs l).length = l.length := by simp [cs]
theorem cs_append (l m : List UInt8) : cs (l ++ m) = cs l ++ cs m := by simp [cs]
theorem cs_one (l : List UInt8) : ∀ u ∈ cs l, u.oneCell' = true := by
  intro u hu
  simp [cs] at hu
  obtain ⟨b, _, rfl⟩ := hu
  rfl
theorem cs_get {l : List UInt8} {j : Nat} {u : Value} (h : (cs l)[j]? = some u) : j < l.length ∧ u = .int .u8 (M.bAt l j) := by
  have hj : j < l.length := by
    have := (List.getElem?_eq_some_iff.1 h).1
    simpa [cs] using this
  refine ⟨hj, ?_⟩
  simp [cs, List.getElem?_eq_getElem hj] at h
  rw [← h]
  simp [M.bAt, hj]
/-- A slice value owns the bytes l. -/
def Own (w : World) (base : Nat) (v : Value) (l : List UInt8) : Prop := w.ownsRow base 5 1 v l.length (cs l)
theorem add_none (b o j : Nat) : (⟨b, o, none⟩ : Addr).add j = ⟨b, o + j, none⟩ := by unfold Addr.add; split <;> simp_all
theorem Own.byt {w : World} {base : Nat} {v : Value} {l : List UInt8} (h : Own w base v l) : ∃ a cap, v = .slice a l.length cap ∧ Byt w a cap l := by
  obtain ⟨h1, h2⟩ := h
  rcases h2 with ⟨rfl, h0⟩ | ⟨g, cap, cur, rfl, hb, hg, hlc, hcm, hsz, htake⟩
  · refine ⟨none, 0, by rw [h0], by omega, by simp [maxLen], fun _ => rfl, fun i hi => by omega⟩
  · refine ⟨some ⟨g, 0, none⟩, cap, rfl, hlc, hcm, by simp, fun i hi => ⟨g, 0, rfl, ?_⟩⟩
    have hc := World.ownsRow.cells (w := w) (base := base) (e := 5) (size := 1) (v := .slice (some ⟨g, 0, none⟩) l.length cap) (n := l.length) (xs := cs l)
      ⟨h1, .inr ⟨g, cap, cur, rfl, hb, hg, hlc, hcm, hsz, htake⟩⟩ (g := g) rfl i (.int .u8 (M.bAt l i)) (by simp [cs, M.bAt, hi])
    rw [add_none] at hc
    exact hc
/-- What is read below stays as it was. -/
theorem Byt.below {w w' : World} {a : Option Addr} {cap : Nat} {l : List UInt8} (h : Byt w a cap l) (hb : Below w.heap.size w w') : Byt w' a cap l := by
  obtain ⟨h1, h2, h3, h4⟩ := h
  refine ⟨h1, h2, h3, fun i hi => ?_⟩
  obtain ⟨b, off, rfl, hc⟩ := h4 i hi
  refine ⟨b, off, rfl, ?_⟩
  rw [hb.cell (p := ⟨b, off + i, none⟩) (World.block_lt_of_cell? w _ hc)]
  exact hc
/-- 'make([]T, n, c)'. -/
theorem wpList_make_some {P : Program} (w : World) {ops : Array Oper} {rest : List Oper} {o : Oper} {a : Act} {Q : Exit → Act → World → Prop}
    (hg : o.guard = none) (l c : Operand) (t : TypeId) (hop : o.op = Op.makeSlice t l c)
    (e : TypeId) (i : TypeInfo) (z : Value) (h1 : P.underlying t = some (.slice e)) (h2 : P.info? e = some i) (h3 : i.zero = some z) (h4 : i.size = 1) (h5 : i.bytes = 1)
    (kl kc : IntKind) (L C : Int) (n m : Nat) (hl : a.eval l = .int kl L) (hc : a.eval c = .int kc C) (hL : L = (n : Int)) (hC : C = (m : Int)) (b1 : n ≤ m) (b2 : m ≤ 281474976710656)
    (hK : ∀ (w' : World) (cur : List Value), cur.length = m → w'.heap[w.heap.size]? = some (.cells cur.toArray e (0, 0)) → Below w.heap.size w w' → wpList P ops Q rest (a.put o.dst (.slice (some ⟨w.heap.size, 0, none⟩) n m)) w') :
    wpList P ops Q (o :: rest) a w := by
  refine wpList_plain hg fun K hK' => ?_
  subst hL
  subst hC
  have hrun := run_make (P := P) w t e i z h1 h2 h3 kl kc (n : Int) (m : Int) (by omega) (by omega) (by rw [h5]; omega) (by omega)
  simp only [Int.toNat_natCast] at hrun
  unfold Oper.wp
  simp [execOp, hop, hl, hc, hrun, Result.andThen]
  exact hK' _ _ (hK _ (madeCells z.cells (m * i.size)).toList (by simp [size_madeCells, h4]) (by simpa using heap_alloc_new w _) ((Below.refl _ _).alloc (Nat.le_refl _) _))
theorem own_push {w : World} {base : Nat} {v : Value} {l : List UInt8} {c : UInt8} {k : Nat} {X : Int} (h : w.ownsRow base 5 1 v k (cs l ++ [.int .u8 X])) (hk : k = l.length + 1) (hX : X = c.toNat) : Own w base v (l ++ [c]) := by
  subst hX; subst hk
  show w.ownsRow base 5 1 v (l ++ [c]).length (cs (l ++ [c]))
  rw [cs_append, List.length_append]
  exact h
theorem step_below {base : Nat} {w wr w1 : World} {v : Value} {l : List UInt8} {o : Obj} (hbel : Below base w wr) (hsz : base ≤ wr.heap.size) (hown : Own wr base v l) (hg : (wr.alloc o).grownBy w1 v.ownBlock) : Below base w w1 :=
  (hbel.alloc hsz o).grown hg (by simp; omega) (fun k hk => (World.ownsRow.lt hown k hk).1)
theorem one_cell (w : World) (X : Value) (j : Nat) (u : Value) (h : [X][j]? = some u) : (w.alloc (.cells #[X] 5)).cell? ((⟨w.heap.size, 0, none⟩ : Addr).add j) = some u := by
  match j, h with
  | 0, h => simp at h; subst h; simp [Addr.add]
theorem Own.mono {w : World} {base base' : Nat} {v : Value} {l : List UInt8} (h : Own w base v l) (hb : base' ≤ base) : Own w base' v l := by
  obtain ⟨h1, h2⟩ := h
  refine ⟨h1, ?_⟩
  rcases h2 with h2 | ⟨g, cap, cur, hv, hg, r⟩
  · exact .inl h2
  · exact .inr ⟨g, cap, cur, hv, Nat.le_trans hb hg, r⟩
/-- Bytes as a string. -/
def str (l : List UInt8) : ByteArray := ⟨l.toArray⟩
theorem str_toList (l : List UInt8) : (str l).toList = l := by rw [Lib.toList_data]; simp [str]
theorem run_str {w : World} {a : Option Addr} {n cap : Nat} {l : List UInt8} (h : Byt w a cap l) (hn : n = l.length) : (convert 22 9 (.slice a n cap)).run Tryz.prog w = .ok (.string (str l)) w := by
  subst hn
  obtain ⟨h1, h2, h3, h4⟩ := h
  cases a with
  | none =>
    have hl : l = [] := List.eq_nil_of_length_eq_zero (by have := h3 rfl; omega)
    subst hl
    rw [run_convert_bytes_string w 22 9 5 none _ cap Tryz.underlying22 Tryz.underlying5 Tryz.underlying9]
    rfl
  | some x =>
    refine run_convert_bytes_back w 22 9 5 x cap l Tryz.underlying22 Tryz.underlying5 Tryz.underlying9 (fun j hj => ?_)
    obtain ⟨b, off, hx, hc⟩ := h4 j hj
    simp at hx
    subst hx
    rw [add_none, hc]
    simp [M.bAt, hj]
/-- A nil slice holds no bytes. -/
theorem Byt.nil (w : World) : Byt w none 0 [] := ⟨by simp, by simp [maxLen], fun _ => rfl, fun i hi => by simp at hi⟩
/-- A slice that is laid out in a new block. -/
theorem Byt.laid (w : World) (l : List UInt8) (hl : l.length ≤ 1000) : Byt (w.alloc (.cells (cs l).toArray 5)) (some ⟨w.heap.size, 0, none⟩) l.length l := by
  refine ⟨Nat.le_refl _, by simp [maxLen]; omega, by simp, fun i hi => ⟨w.heap.size, 0, rfl, ?_⟩⟩
  rw [cell_of_row _ w.heap.size (0 + i) (cs l).toArray 5 (0, 0) (heap_alloc_new w _)]
  simp [cs, M.bAt, hi]
theorem str_of (a : ByteArray) : ∃ s : List UInt8, a = str s := ⟨a.data.toList, by cases a; simp [str]⟩
theorem str_size (l : List UInt8) : (str l).size = l.length := by show (str l).data.size = _; simp [str]
/-- A part of the bytes. -/
theorem Byt.sub {w : World} {a : Option Addr} {cap : Nat} {l : List UInt8} (h : Byt w a cap l) (k n : Nat) (hk : k + n ≤ l.length) : Byt w (Option.map (fun x => x.add k) a) (cap - k) ((l.drop k).take n) := by
  obtain ⟨h1, h2, h3, h4⟩ := h
  have hlen : ((l.drop k).take n).length = n := by simp; omega
  refine ⟨by omega, by omega, fun ha => ?_, fun i hi => ?_⟩
  · have := h3 (by simpa using ha); omega
  · rw [hlen] at hi
    obtain ⟨b, off, rfl, hc⟩ := h4 (k + i) (by omega)
    refine ⟨b, off + k, by rw [Option.map_some, add_none], ?_⟩
    rw [show off + k + i = off + (k + i) from by omega, hc]
    have : k + i < l.length := by omega
    simp [M.bAt, hi]
theorem Byt.empty {w : World} {a : Option Addr} {cap : Nat} {l : List UInt8} (h : Byt w a cap l) : Byt w a cap [] := ⟨by simp, h.2.1, h.2.2.1, fun i hi => by simp at hi⟩
theorem Byt.none_ {w : World} (a : Option Addr) : Byt w a 0 [] := ⟨by simp, by simp [maxLen], fun _ => rfl, fun i hi => by simp at hi⟩
theorem own_text {w : World} {base : Nat} {v : Value} {l s : List UInt8} {k : Nat} (h : w.ownsRow base 5 1 v k (cs l ++ Lib.strCells (str s))) (hk : k = l.length + s.length) : Own w base v (l ++ s) := by
  subst hk
  show w.ownsRow base 5 1 v (l ++ s).length (cs (l ++ s))
  have e : Lib.strCells (str s) = cs s := by simp [Lib.strCells, cs, str]
  rw [e] at h
  rw [cs_append, List.length_append]
  exact h
theorem step_below0 {base : Nat} {w wr w1 : World} {v : Value} {l : List UInt8} (hbel : Below base w wr) (hsz : base ≤ wr.heap.size) (hown : Own wr base v l) (hg : wr.grownBy w1 v.ownBlock) : Below base w w1 :=
  hbel.grown hg hsz (fun k hk => (World.ownsRow.lt hown k hk).1)
/-- A later world: nothing that was there has turned. -/
def Ex (w w' : World) : Prop := Below w.heap.size w w'
theorem Ex.refl (w : World) : Ex w w := Below.refl _ _
theorem Ex.trans {a b c : World} (h : Ex a b) (k : Ex b c) : Ex a c := Below.trans h (Below.mono k h.size)
theorem Ex.drew (w : World) : Ex w w.drew := (Below.refl _ _).drew
/-- A value is a slice of the bytes l. -/
def IsByt (l : List UInt8) (v : Value) (w : World) : Prop := ∃ a cap, v = .slice a l.length cap ∧ Byt w a cap l
theorem IsByt.stands (l : List UInt8) : ∀ v w w', IsByt l v w → Ex w w' → IsByt l v w' := by
  rintro v w w' ⟨a, cap, rfl, h⟩ hb
  exact ⟨a, cap, rfl, h.below hb⟩
theorem Own.isByt {w : World} {base : Nat} {v : Value} {l : List UInt8} (h : Own w base v l) : IsByt l v w := h.byt
theorem Byt.take {w : World} {a : Option Addr} {cap : Nat} {l : List UInt8} (h : Byt w a cap l) {k : Nat} (hk : k ≤ l.length) : Byt w a cap (l.take k) := by
  obtain ⟨h1, h2, h3, h4⟩ := h
  refine ⟨by simp; omega, h2, h3, fun i hi => ?_⟩
  have hi' : i < k := by simp at hi; omega
  obtain ⟨b, off, ha, hc⟩ := h4 i (by omega)
  refine ⟨b, off, ha, ?_⟩
  rw [hc]
  simp [M.bAt, hi']
/-- A text that is cut. -/
theorem str_cut (s : List UInt8) (k : Nat) : (str s).extract 0 k = str (s.take k) := by
  rw [Lib.extract_eq]
  simp [str]
/-- 'append(out, b...)', out the call's own, b whatever bytes that can be read, nil or not. -/
theorem wpList_append_byt {w : World} {ops : Array Oper} {rest : List Oper} {o : Oper} {a : Act} {Q : Exit → Act → World → Prop} (hgd : o.guard = none) (s x : Operand)
    (ho : o.op = .call { callee := .builtin .append, args := #[s, x], argTypes := #[22, 22] }) (base : Nat)
    (v : Value) (xs : List UInt8) (hs : a.eval s = v) (hown : Own w base v xs) (p : Option Addr) (n c : Nat) (l : List UInt8) (hx : a.eval x = .slice p n c) (hn : n = l.length) (hB : Byt w p c l)
    (h63 : xs.length + l.length ≤ 140737488355328) (hbase : base ≤ w.heap.size)
    (h : ∀ v' w', Own w' base v' (xs ++ l) → w.grownBy w' v.ownBlock → wpList Tryz.prog ops Q rest (a.put o.dst v') w') : wpList Tryz.prog ops Q (o :: rest) a w := by
  subst hn
  obtain ⟨i0, hi, hz0, hz1, hz2⟩ := info_parts Tryz.info5
  cases p with
  | none =>
    have hc := hB.2.2.1 rfl
    have hl : l = [] := List.eq_nil_of_length_eq_zero (by have := hB.1; omega)
    subst hl
    subst hc
    refine wpList_append_own_none hgd s x 22 ho base 5 i0 1 Tryz.underlying22 hi v xs.length (cs xs) hs hown hx ?_
    exact h v w (by simpa using hown) (World.grownBy.refl w _)
  | some ad =>
    refine wpList_append_own _ hgd s x 22 ho base 5 i0 (.int .u8 0) 1 1 Tryz.underlying22 hi hz0 hz1 hz2 rfl (by decide) v xs.length (cs xs) hs hown ad l.length c (cs l) hx (by simp [cs]) ?_ (cs_one l) (by unfold maxLen; omega) (by omega) hbase ?_
    · intro j u hu
      obtain ⟨hj, rfl⟩ := cs_get hu
      obtain ⟨b, off, hbo, hc⟩ := hB.2.2.2 j hj
      simp at hbo
      subst hbo
      rw [add_none]
      exact hc
    · intro v' w' ho' hg' _
      refine h v' w' ?_ hg'
      show w'.ownsRow base 5 1 v' (xs ++ l).length (cs (xs ++ l))
      rw [cs_append, List.length_append]
      exact ho'
/-- '[]byte{}'. -/
theorem own_empty (w : World) (base : Nat) (hb : base ≤ w.heap.size) : Own (w.alloc (.cells #[] 5)) base (.slice (some ⟨w.heap.size, 0, none⟩) 0 0) [] :=
  World.ownsRow_made w #[] 0 hb (by simp [maxLen]) (by simp)
theorem Ex.drewN (w : World) : ∀ q, Ex w (w.drewN q)
  | 0 => Ex.refl w
  | q + 1 => (Ex.drewN w q).trans (Ex.drew _)
theorem Ex.size {w w' : World} (h : Ex w w') : w.heap.size ≤ w'.heap.size := Below.size h
theorem Own.later {w w' : World} {base : Nat} {v : Value} {l : List UInt8} (h : Own w base v l) (hx : Ex w w') : Own w' base v l := by
  obtain ⟨h1, h2⟩ := h
  refine ⟨h1, ?_⟩
  rcases h2 with h2 | ⟨g, cap, cur, hv, hb, hg, r⟩
  · exact .inl h2
  · exact .inr ⟨g, cap, cur, hv, hb, by rw [hx.block g (Array.getElem?_eq_some_iff.1 hg).1]; exact hg, r⟩
end Go.Proofs.YtnmonoafjijfhaaGreat
