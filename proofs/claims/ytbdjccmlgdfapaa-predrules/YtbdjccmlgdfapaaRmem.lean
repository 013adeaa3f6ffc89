/-
  Taken out of another text of mine: Rmem.
-/
import Derived.Test.YtbdjccmlgdfapaaWides
import Derived.Test.YtbdjccmlgdfapaaNest
import Derived.Test.YtbdjccmlgdfapaaRow
namespace Go.Proofs.Ytbdjccmlgdfapaa
open Go.RowKit
set_option linter.unusedVariables false
set_option linter.unusedSimpArgs false
/-- A cell's four places; as a value; in a block. -/
def cc (c : Ce) : List Value := [.string (str c.col), .int .i64 c.k, .int .i64 c.n, .string (str c.s)]
def cv (c : Ce) : Value := .agg #[.string (str c.col), .int .i64 c.k, .int .i64 c.n, .string (str c.s)]
abbrev cb (c : Ce) : Obj := .cells #[.string (str c.col), .int .i64 c.k, .int .i64 c.n, .string (str c.s)] 50
/-- A row's three places, the last a slice. -/
structure RV where
  t : Int
  q : Int
  s : SV
def rc (v : RV) : List Value := [.int .i64 v.t, .int .i64 v.q, sv v.s]
def rvv (v : RV) : Value := .agg #[.int .i64 v.t, .int .i64 v.q, sv v.s]
abbrev rb (v : RV) : Obj := .cells #[.int .i64 v.t, .int .i64 v.q, sv v.s] 36
theorem cc_len (c : Ce) : (cc c).length = 4 := rfl
theorem rc_len (v : RV) : (rc v).length = 3 := rfl
theorem cc_one (c : Ce) : ∀ u ∈ cc c, u.oneCell' = true := by
  intro u hu
  simp only [cc, List.mem_cons, List.not_mem_nil, or_false] at hu
  rcases hu with rfl | rfl | rfl | rfl <;> rfl
theorem rc_one (v : RV) : ∀ u ∈ rc v, u.oneCell' = true := by
  intro u hu
  simp only [rc, List.mem_cons, List.not_mem_nil, or_false] at hu
  rcases hu with rfl | rfl | rfl <;> rfl
abbrev RdC := @RdW Ce 4 cc
abbrev OwnC := @OwnW Ce 50 4 cc
theorem RdC.four {w : World} {a : Option Addr} {cap : Nat} {l : List Ce} (h : RdC w a cap l) {i : Nat} (hi : i < l.length) : ∃ b off, a = some ⟨b, off, none⟩ ∧ w.cell? ⟨b, off + i * 4, none⟩ = some (.string (str l[i].col)) ∧ w.cell? ⟨b, off + i * 4 + 1, none⟩ = some (.int .i64 l[i].k) ∧
    w.cell? ⟨b, off + i * 4 + 2, none⟩ = some (.int .i64 l[i].n) ∧ w.cell? ⟨b, off + i * 4 + 3, none⟩ = some (.string (str l[i].s)) := by
  obtain ⟨b, off, e, hc⟩ := h.at hi
  exact ⟨b, off, e, hc 0 _ rfl, hc 1 _ rfl, hc 2 _ rfl, hc 3 _ rfl⟩
/-- A row as it lies reads as the row r. -/
def RvOk (w : World) (v : RV) (r : Rw) : Prop := v.t = r.t ∧ v.q = r.q ∧ v.s.2.1 = r.c.length ∧ RdC w v.s.1 v.s.2.2 r.c
def EachR (w : World) (vs : List RV) (l : List Rw) : Prop := vs.length = l.length ∧ ∀ (i : Nat) (v : RV) (r : Rw), vs[i]? = some v → l[i]? = some r → RvOk w v r
/-- A slice reads as the rows l. -/
def RdR (w : World) (a : Option Addr) (cap : Nat) (l : List Rw) : Prop := ∃ vs, RdW 3 rc w a cap vs ∧ EachR w vs l
theorem RvOk.below {w w' : World} {v : RV} {r : Rw} (h : RvOk w v r) (hx : Ex w w') : RvOk w' v r := ⟨h.1, h.2.1, h.2.2.1, h.2.2.2.below hx⟩
theorem EachR.below {w w' : World} {vs : List RV} {l : List Rw} (h : EachR w vs l) (hx : Ex w w') : EachR w' vs l := ⟨h.1, fun i v r h1 h2 => (h.2 i v r h1 h2).below hx⟩
theorem RdR.below {w w' : World} {a : Option Addr} {cap : Nat} {l : List Rw} (h : RdR w a cap l) (hx : Ex w w') : RdR w' a cap l := by
  obtain ⟨vs, h1, h2⟩ := h
  exact ⟨vs, h1.below hx, h2.below hx⟩
theorem EachR.nil (w : World) : EachR w [] [] := ⟨rfl, fun i s x h _ => by simp at h⟩
theorem RdR.nil (w : World) : RdR w none 0 [] := ⟨[], RdW.nil w, EachR.nil w⟩
theorem RdR.bounds {w : World} {a : Option Addr} {cap : Nat} {l : List Rw} (h : RdR w a cap l) : l.length ≤ cap ∧ cap ≤ maxLen ∧ (a = none → cap = 0) := by
  obtain ⟨vs, h1, h2⟩ := h
  exact ⟨by rw [← h2.1]; exact h1.1, h1.2.1, h1.2.2.1⟩
theorem RdR.at {w : World} {a : Option Addr} {cap : Nat} {l : List Rw} (h : RdR w a cap l) {i : Nat} (hi : i < l.length) : ∃ b off p c, a = some ⟨b, off, none⟩ ∧ w.cell? ⟨b, off + i * 3, none⟩ = some (.int .i64 l[i].t) ∧ w.cell? ⟨b, off + i * 3 + 1, none⟩ = some (.int .i64 l[i].q) ∧
    w.cell? ⟨b, off + i * 3 + 2, none⟩ = some (.slice p l[i].c.length c) ∧ RdC w p c l[i].c := by
  obtain ⟨vs, h1, h2⟩ := h
  have hi' : i < vs.length := by rw [h2.1]; exact hi
  obtain ⟨b, off, e, hc⟩ := h1.at hi'
  obtain ⟨q1, q2, q3, q4⟩ := h2.2 i _ _ (List.getElem?_eq_getElem hi') (List.getElem?_eq_getElem hi)
  refine ⟨b, off, vs[i].s.1, vs[i].s.2.2, e, ?_, ?_, ?_, q4⟩
  · have := hc 0 _ rfl; rw [q1] at this; exact this
  · have := hc 1 _ rfl; rw [q2] at this; exact this
  · have := hc 2 _ rfl; simp only [sv, q3] at this; exact this
theorem RdR.take {w : World} {a : Option Addr} {cap : Nat} {l : List Rw} (h : RdR w a cap l) (n : Nat) : RdR w a cap (l.take n) := by
  obtain ⟨vs, h1, h2⟩ := h
  refine ⟨vs.take n, h1.take n, by simp [h2.1], fun i v r hv hr => ?_⟩
  rw [List.getElem?_take] at hv hr
  split at hv
  · rename_i hin
    rw [if_pos hin] at hr
    exact h2.2 i v r hv hr
  · cases hv
theorem RdR.from {w : World} {b off cap : Nat} {l : List Rw} (h : RdR w (some ⟨b, off, none⟩) cap l) (n : Nat) (hn : n ≤ l.length) : RdR w (some ⟨b, off + n * 3, none⟩) (cap - n) (l.drop n) := by
  obtain ⟨vs, h1, h2⟩ := h
  refine ⟨vs.drop n, h1.from n (by rw [h2.1]; exact hn), by simp [h2.1], fun i v r hv hr => ?_⟩
  rw [List.getElem?_drop] at hv hr
  exact h2.2 _ v r hv hr
/-- No inner list that has cells lies in that block. -/
def AwayR (g : Option Nat) (vs : List RV) : Prop := ∀ v ∈ vs, 0 < v.s.2.1 → ∀ q, (sv v.s).ownBlock = some q → g ≠ some q
/-- A call's own rows. -/
def OwnL (w : World) (base : Nat) (v : Value) (l : List Rw) : Prop := ∃ vs, OwnW 36 3 rc w base v vs ∧ EachR w vs l ∧ AwayR v.ownBlock vs
theorem OwnL.rd {w : World} {base : Nat} {v : Value} {l : List Rw} (h : OwnL w base v l) : ∃ a cap, v = .slice a l.length cap ∧ RdR w a cap l := by
  obtain ⟨vs, h1, h2, _⟩ := h
  obtain ⟨a, cap, rfl, h3⟩ := h1.rd rc_len
  exact ⟨a, cap, by rw [h2.1], vs, h3, h2⟩
theorem OwnL.nil (w : World) (base : Nat) : OwnL w base (.slice none 0 0) [] := ⟨[], ownW_none w base, EachR.nil w, fun v h => by simp at h⟩
theorem OwnL.later {w w' : World} {base : Nat} {v : Value} {l : List Rw} (h : OwnL w base v l) (hx : Ex w w') : OwnL w' base v l := by
  obtain ⟨vs, h1, h2, h3⟩ := h
  exact ⟨vs, h1.later hx, h2.below hx, h3⟩
theorem OwnL.lt {w : World} {base : Nat} {v : Value} {l : List Rw} (h : OwnL w base v l) : ∀ g, v.ownBlock = some g → base ≤ g ∧ g < w.heap.size := by
  obtain ⟨vs, h1, _, _⟩ := h
  exact h1.lt
theorem OwnL.mono {w : World} {base base' : Nat} {v : Value} {l : List Rw} (h : OwnL w base v l) (hb : base' ≤ base) : OwnL w base' v l := by
  obtain ⟨vs, h1, h2, h3⟩ := h
  exact ⟨vs, h1.mono hb, h2, h3⟩
theorem RvOk.block {w : World} {v : RV} {r : Rw} (h : RvOk w v r) (h0 : 0 < v.s.2.1) : ∃ q off, v.s.1 = some ⟨q, off, none⟩ ∧ q < w.heap.size := by
  obtain ⟨_, _, h3, h4⟩ := h
  obtain ⟨q, off, e, hc, _⟩ := h4.four (i := 0) (by omega)
  exact ⟨q, off, e, World.block_lt_of_cell? w _ hc⟩
theorem RvOk.far {w w' : World} {v : RV} {r : Rw} {row : Option Nat} (h : RvOk w v r) (hg : w.grownBy w' row) (ha : 0 < v.s.2.1 → ∀ q, (sv v.s).ownBlock = some q → row ≠ some q) : RvOk w' v r := by
  obtain ⟨h1, h2, h3, h4⟩ := h
  refine ⟨h1, h2, h3, h4.far hg fun h0 b off e => ha (by omega) b (by simp [sv, e, Value.ownBlock])⟩
/-- Rows of which the outer slice has grown. -/
theorem rows_after {w w' : World} {v v' : Value} {vs : List RV} {l : List Rw} (hall : EachR w vs l) (haw : AwayR v.ownBlock vs)
    (hg : w.grownBy w' v.ownBlock) (hat : v'.ownBlock = v.ownBlock ∨ v'.ownBlock = some w.heap.size) : EachR w' vs l ∧ AwayR v'.ownBlock vs := by
  refine ⟨⟨hall.1, fun i t y h1 h2 => (hall.2 i t y h1 h2).far hg (haw t (List.mem_of_getElem? h1))⟩, fun t ht h0 q hq => ?_⟩
  rcases hat with hat | hat
  · rw [hat]; exact haw t ht h0 q hq
  · rw [hat]
    obtain ⟨i, hi⟩ := List.getElem?_of_mem ht
    have hil : i < l.length := by rw [← hall.1]; exact (List.getElem?_eq_some_iff.1 hi).1
    obtain ⟨q', off, e, hlt⟩ := (hall.2 i t _ hi (List.getElem?_eq_getElem hil)).block h0
    have : q = q' := by simp [sv, e, Value.ownBlock] at hq; omega
    intro hh
    simp at hh
    omega
theorem EachR.append {w : World} {vs us : List RV} {l m : List Rw} (h : EachR w vs l) (h' : EachR w us m) : EachR w (vs ++ us) (l ++ m) := by
  refine ⟨by simp [h.1, h'.1], fun i v r hv hr => ?_⟩
  by_cases hi : i < vs.length
  · rw [List.getElem?_append_left hi] at hv
    rw [List.getElem?_append_left (by rw [← h.1]; exact hi)] at hr
    exact h.2 i v r hv hr
  · rw [List.getElem?_append_right (by omega)] at hv
    rw [List.getElem?_append_right (by rw [← h.1]; omega), ← h.1] at hr
    exact h'.2 _ v r hv hr
theorem EachR.one {w : World} {v : RV} {r : Rw} (h : RvOk w v r) : EachR w [v] [r] := by
  refine ⟨rfl, fun i u x h1 h2 => ?_⟩
  match i, h1, h2 with
  | 0, h1, h2 => simp at h1 h2; rw [← h1, ← h2]; exact h
theorem AwayR.append {g : Option Nat} {vs us : List RV} (h : AwayR g vs) (h' : AwayR g us) : AwayR g (vs ++ us) := fun v hv => by
  rcases List.mem_append.1 hv with h1 | h1
  · exact h v h1
  · exact h' v h1
theorem Try.info50 : (Try.prog.info? 50).map (fun i => (i.zero, i.size, i.bytes)) = some (some (.agg #[.string ⟨#[]⟩, .int .i64 0, .int .i64 0, .string ⟨#[]⟩]), 4, 48) := by kernel_rfl
theorem Try.info36 : (Try.prog.info? 36).map (fun i => (i.zero, i.size, i.bytes)) = some (some (.agg #[.int .i64 0, .int .i64 0, .slice none 0 0]), 3, 40) := by kernel_rfl
/-- 'append' of rows that can be read to the call's own, where none of the new ones' cells lie in the block that grows. -/
theorem wpList_append_rows {w : World} {ops : Array Oper} {rest : List Oper} {o : Oper} {a : Act} {Q : Exit → Act → World → Prop} (hgd : o.guard = none) (s x : Operand)
    (ho : o.op = .call { callee := .builtin .append, args := #[s, x], argTypes := #[26, 26] }) (base : Nat)
    (v : Value) (xs : List Rw) (hs : a.eval s = v) (hown : OwnL w base v xs) (p : Option Addr) (n c : Nat) (us : List RV) (l : List Rw) (hx : a.eval x = .slice p n c) (hn : n = l.length) (hB : RdW 3 rc w p c us) (hE : EachR w us l) (hA : AwayR v.ownBlock us)
    (h63 : xs.length + l.length ≤ 1000000) (hbase : base ≤ w.heap.size)
    (h : ∀ v' w', OwnL w' base v' (xs ++ l) → w.grownBy w' v.ownBlock → (v'.ownBlock = v.ownBlock ∨ v'.ownBlock = some w.heap.size) → wpList Try.prog ops Q rest (a.put o.dst v') w') : wpList Try.prog ops Q (o :: rest) a w := by
  obtain ⟨vs, h1, h2, h3⟩ := hown
  refine wpList_append_wide rc_len rc_one hgd s x 26 _ 40 ho Try.underlying26 Try.info36 (by omega) rfl base v vs hs h1 p n c us hx (by rw [hn, hE.1]) hB (by rw [h2.1, hE.1]; unfold maxLen; omega) (by rw [h2.1, hE.1]; omega) hbase ?_
  intro v' w' ho' hg' hat
  have hr := rows_after (h2.append hE) (h3.append hA) hg' hat
  exact h v' w' ⟨vs ++ us, ho', hr.1, hr.2⟩ hg' hat
end Go.Proofs.Ytbdjccmlgdfapaa
