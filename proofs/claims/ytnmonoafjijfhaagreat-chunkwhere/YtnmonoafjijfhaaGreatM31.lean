/-
  Taken out of another text of mine: Rmem. Two rows that a call owns, one beside the other: one is as it was when the other grows or is written. No function of the program here. The landed reader of a column: ints. The document's own put, Find, Begins, From, Rising, Fits (layer 7) over the program.
-/
import Derived.Test.YtnmonoafjijfhaaGreatM30
import Derived.Test.YtnmonoafjijfhaaGreatM10
import Derived.Test.YtnmonoafjijfhaaGreatM22
import Derived.Test.YtnmonoafjijfhaaGreatM29
import Derived.Test.YtnmonoafjijfhaaGreatM08
import Derived.Test.YtnmonoafjijfhaaGreatM28
import Derived.Test.YtnmonoafjijfhaaGreatM15
namespace Go.Proofs.YtnmonoafjijfhaaGreat
open Go.RowKit
set_option linter.unusedVariables false
set_option linter.unusedSimpArgs false
/-- A cell's four places; as a value; in a block. -/
def cc (c : Ce) : List Value := [.string (str c.col), .int .i64 c.k, .int .i64 c.n, .string (str c.s)]
def cv (c : Ce) : Value := .agg #[.string (str c.col), .int .i64 c.k, .int .i64 c.n, .string (str c.s)]
abbrev cb (c : Ce) : Obj := .cells #[.string (str c.col), .int .i64 c.k, .int .i64 c.n, .string (str c.s)] 28
/-- A row's three places, the last a slice. -/
structure RV where
  t : Int
  q : Int
  s : SV
def rc (v : RV) : List Value := [.int .i64 v.t, .int .i64 v.q, sv v.s]
def rvv (v : RV) : Value := .agg #[.int .i64 v.t, .int .i64 v.q, sv v.s]
abbrev rb (v : RV) : Obj := .cells #[.int .i64 v.t, .int .i64 v.q, sv v.s] 59
theorem cc_len (c : Ce) : (cc c).length = 4 := rfl
theorem rc_len (v : RV) : (rc v).length = 3 := rfl
theorem cc_one (c : Ce) : ∀ u ∈ cc c, u.oneCell' = true := by
  intro u hu
  simp only [cc, List.mem_cons, List.not_mem_nil, or_false] at hu
  rcases hu with rfl | rfl | rfl | rfl <;> rfl
abbrev RdC := @RdW Ce 4 cc
abbrev OwnC := @OwnW Ce 28 4 cc
theorem RdC.four {w : World} {a : Option Addr} {cap : Nat} {l : List Ce} (h : RdC w a cap l) {i : Nat} (hi : i < l.length) : ∃ b off, a = some ⟨b, off, none⟩ ∧ w.cell? ⟨b, off + i * 4, none⟩ = some (.string (str l[i].col)) ∧ w.cell? ⟨b, off + i * 4 + 1, none⟩ = some (.int .i64 l[i].k) ∧
    w.cell? ⟨b, off + i * 4 + 2, none⟩ = some (.int .i64 l[i].n) ∧ w.cell? ⟨b, off + i * 4 + 3, none⟩ = some (.string (str l[i].s)) := by
  obtain ⟨b, off, e, hc⟩ := h.at hi
  exact ⟨b, off, e, hc 0 _ rfl, hc 1 _ rfl, hc 2 _ rfl, hc 3 _ rfl⟩
/-- A row as it lies reads as the row r. -/
def RvOk (w : World) (v : RV) (r : Rw) : Prop := v.t = r.t ∧ v.q = r.q ∧ v.s.2.1 = r.c.length ∧ RdC w v.s.1 v.s.2.2 r.c
def EachR (w : World) (vs : List RV) (l : List Rw) : Prop := vs.length = l.length ∧ ∀ (i : Nat) (v : RV) (r : Rw), vs[i]? = some v → l[i]? = some r → RvOk w v r
/-- A slice reads as the rows l. -/
def RdR (w : World) (a : Option Addr) (cap : Nat) (l : List Rw) : Prop := ∃ vs, RdW 3 rc w a cap vs ∧ EachR w vs l
theorem RvOk.below {w w' : World} {v : RV} {r : Rw} (h : RvOk w v r) (hx : Ex w w') : RvOk w' v r := ⟨h.1, h.2.1, h.2.2.1, h.2.2.2.below hx⟩
theorem EachR.below {w w' : World} {vs : List RV} {l : List Rw} (h : EachR w vs l) (hx : Ex w w') : EachR w' vs l := ⟨h.1, fun i v r h1 h2 => (h.2 i v r h1 h2).below hx⟩
theorem RdR.below {w w' : World} {a : Option Addr} {cap : Nat} {l : List Rw} (h : RdR w a cap l) (hx : Ex w w') : RdR w' a cap l := by
  obtain ⟨vs, h1, h2⟩ := h
  exact ⟨vs, h1.below hx, h2.below hx⟩
theorem EachR.nil (w : World) : EachR w [] [] := ⟨rfl, fun i s x h _ => by simp at h⟩
theorem RdR.nil (w : World) : RdR w none 0 [] := ⟨[], RdW.nil w, EachR.nil w⟩
theorem RdR.at {w : World} {a : Option Addr} {cap : Nat} {l : List Rw} (h : RdR w a cap l) {i : Nat} (hi : i < l.length) : ∃ b off p c, a = some ⟨b, off, none⟩ ∧ w.cell? ⟨b, off + i * 3, none⟩ = some (.int .i64 l[i].t) ∧ w.cell? ⟨b, off + i * 3 + 1, none⟩ = some (.int .i64 l[i].q) ∧
    w.cell? ⟨b, off + i * 3 + 2, none⟩ = some (.slice p l[i].c.length c) ∧ RdC w p c l[i].c := by
  obtain ⟨vs, h1, h2⟩ := h
  have hi' : i < vs.length := by rw [h2.1]; exact hi
  obtain ⟨b, off, e, hc⟩ := h1.at hi'
  obtain ⟨q1, q2, q3, q4⟩ := h2.2 i _ _ (List.getElem?_eq_getElem hi') (List.getElem?_eq_getElem hi)
  refine ⟨b, off, vs[i].s.1, vs[i].s.2.2, e, ?_, ?_, ?_, q4⟩
  · have := hc 0 _ rfl; rw [q1] at this; exact this
  · have := hc 1 _ rfl; rw [q2] at this; exact this
  · have := hc 2 _ rfl; simp only [sv, q3] at this; exact this
theorem RdR.take {w : World} {a : Option Addr} {cap : Nat} {l : List Rw} (h : RdR w a cap l) (n : Nat) : RdR w a cap (l.take n) := by
  obtain ⟨vs, h1, h2⟩ := h
  refine ⟨vs.take n, h1.take n, by simp [h2.1], fun i v r hv hr => ?_⟩
  rw [List.getElem?_take] at hv hr
  split at hv
  · rename_i hin
    rw [if_pos hin] at hr
    exact h2.2 i v r hv hr
  · cases hv
theorem RdR.from {w : World} {b off cap : Nat} {l : List Rw} (h : RdR w (some ⟨b, off, none⟩) cap l) (n : Nat) (hn : n ≤ l.length) : RdR w (some ⟨b, off + n * 3, none⟩) (cap - n) (l.drop n) := by
  obtain ⟨vs, h1, h2⟩ := h
  refine ⟨vs.drop n, h1.from n (by rw [h2.1]; exact hn), by simp [h2.1], fun i v r hv hr => ?_⟩
  rw [List.getElem?_drop] at hv hr
  exact h2.2 _ v r hv hr
/-- No inner list that has cells lies in that block. -/
def AwayR (g : Option Nat) (vs : List RV) : Prop := ∀ v ∈ vs, 0 < v.s.2.1 → ∀ q, (sv v.s).ownBlock = some q → g ≠ some q
/-- A call's own rows. -/
def OwnL (w : World) (base : Nat) (v : Value) (l : List Rw) : Prop := ∃ vs, OwnW 59 3 rc w base v vs ∧ EachR w vs l ∧ AwayR v.ownBlock vs
theorem OwnL.rd {w : World} {base : Nat} {v : Value} {l : List Rw} (h : OwnL w base v l) : ∃ a cap, v = .slice a l.length cap ∧ RdR w a cap l := by
  obtain ⟨vs, h1, h2, _⟩ := h
  obtain ⟨a, cap, rfl, h3⟩ := h1.rd rc_len
  exact ⟨a, cap, by rw [h2.1], vs, h3, h2⟩
theorem OwnL.nil (w : World) (base : Nat) : OwnL w base (.slice none 0 0) [] := ⟨[], ownW_none w base, EachR.nil w, fun v h => by simp at h⟩
theorem OwnL.later {w w' : World} {base : Nat} {v : Value} {l : List Rw} (h : OwnL w base v l) (hx : Ex w w') : OwnL w' base v l := by
  obtain ⟨vs, h1, h2, h3⟩ := h
  exact ⟨vs, h1.later hx, h2.below hx, h3⟩
theorem OwnL.lt {w : World} {base : Nat} {v : Value} {l : List Rw} (h : OwnL w base v l) : ∀ g, v.ownBlock = some g → base ≤ g ∧ g < w.heap.size := by
  obtain ⟨vs, h1, _, _⟩ := h
  exact h1.lt
theorem OwnL.mono {w : World} {base base' : Nat} {v : Value} {l : List Rw} (h : OwnL w base v l) (hb : base' ≤ base) : OwnL w base' v l := by
  obtain ⟨vs, h1, h2, h3⟩ := h
  exact ⟨vs, h1.mono hb, h2, h3⟩
theorem RvOk.block {w : World} {v : RV} {r : Rw} (h : RvOk w v r) (h0 : 0 < v.s.2.1) : ∃ q off, v.s.1 = some ⟨q, off, none⟩ ∧ q < w.heap.size := by
  obtain ⟨_, _, h3, h4⟩ := h
  obtain ⟨q, off, e, hc, _⟩ := h4.four (i := 0) (by omega)
  exact ⟨q, off, e, World.block_lt_of_cell? w _ hc⟩
theorem RvOk.far {w w' : World} {v : RV} {r : Rw} {row : Option Nat} (h : RvOk w v r) (hg : w.grownBy w' row) (ha : 0 < v.s.2.1 → ∀ q, (sv v.s).ownBlock = some q → row ≠ some q) : RvOk w' v r := by
  obtain ⟨h1, h2, h3, h4⟩ := h
  refine ⟨h1, h2, h3, h4.far hg fun h0 b off e => ha (by omega) b (by simp [sv, e, Value.ownBlock])⟩
theorem EachR.append {w : World} {vs us : List RV} {l m : List Rw} (h : EachR w vs l) (h' : EachR w us m) : EachR w (vs ++ us) (l ++ m) := by
  refine ⟨by simp [h.1, h'.1], fun i v r hv hr => ?_⟩
  by_cases hi : i < vs.length
  · rw [List.getElem?_append_left hi] at hv
    rw [List.getElem?_append_left (by rw [← h.1]; exact hi)] at hr
    exact h.2 i v r hv hr
  · rw [List.getElem?_append_right (by omega)] at hv
    rw [List.getElem?_append_right (by rw [← h.1]; omega), ← h.1] at hr
    exact h'.2 _ v r hv hr
theorem EachR.one {w : World} {v : RV} {r : Rw} (h : RvOk w v r) : EachR w [v] [r] := by
  refine ⟨rfl, fun i u x h1 h2 => ?_⟩
  match i, h1, h2 with
  | 0, h1, h2 => simp at h1 h2; rw [← h1, ← h2]; exact h
theorem AwayR.append {g : Option Nat} {vs us : List RV} (h : AwayR g vs) (h' : AwayR g us) : AwayR g (vs ++ us) := fun v hv => by
  rcases List.mem_append.1 hv with h1 | h1
  · exact h v h1
  · exact h' v h1
theorem Tryz.info28 : (Tryz.prog.info? 28).map (fun i => (i.zero, i.size, i.bytes)) = some (some (.agg #[.string ⟨#[]⟩, .int .i64 0, .int .i64 0, .string ⟨#[]⟩]), 4, 48) := by kernel_rfl
end Go.Proofs.YtnmonoafjijfhaaGreat
namespace Go.Proofs.YtnmonoafjijfhaaGreat
open Go.RowKit
set_option linter.unusedVariables false

/-- Two values lie in blocks of their own. -/
def Aside (v u : Value) : Prop := ∀ g, v.ownBlock = some g → u.ownBlock ≠ some g
theorem Aside.symm {v u : Value} (h : Aside v u) : Aside u v := fun g hg hv => h g hv hg
theorem Aside.nil (v : Value) : Aside (.slice none 0 0) v := fun g hg => by simp [Value.ownBlock] at hg
theorem ownsRow_far {w w' : World} {base size n : Nat} {e : TypeId} {v u : Value} {xs : List Value} (h : w.ownsRow base e size v n xs) (hg : w.grownBy w' u.ownBlock) (hne : Aside u v) : w'.ownsRow base e size v n xs := by
  obtain ⟨h1, h2⟩ := h
  refine ⟨h1, ?_⟩
  rcases h2 with h2 | ⟨g, cap, cur, hv, hb, hh, r⟩
  · exact .inl h2
  · refine .inr ⟨g, cap, cur, hv, hb, ?_, r⟩
    rw [hg.block g (Array.getElem?_eq_some_iff.1 hh).1 (fun hh => hne g hh.symm (by rw [hv]; rfl))]
    exact hh
theorem Own.far {w w' : World} {base : Nat} {v u : Value} {l : List UInt8} (h : Own w base v l) (hg : w.grownBy w' u.ownBlock) (hne : Aside u v) : Own w' base v l := ownsRow_far h hg hne
theorem OwnR.far {α : Type} {enc : α → Value} {e : TypeId} {w w' : World} {base : Nat} {v u : Value} {l : List α} (h : OwnR e enc w base v l) (hg : w.grownBy w' u.ownBlock) (hne : Aside u v) : OwnR e enc w' base v l := ownsRow_far h hg hne
/-- The one that grew is still aside of the other. -/
theorem Aside.grown {w : World} {base size n : Nat} {e : TypeId} {v v' u : Value} {xs : List Value} (h : Aside v u) (hat : v'.ownBlock = v.ownBlock ∨ v'.ownBlock = some w.heap.size) (hu : w.ownsRow base e size u n xs) : Aside v' u := by
  intro g hg hh
  rcases hat with hat | hat
  · exact h g (by rw [← hat]; exact hg) hh
  · have h1 := (World.ownsRow.lt hu g hh).2
    rw [hat] at hg
    simp at hg
    omega
/-- A byte that is written. -/
theorem Own.set {w : World} {base g n cap k : Nat} {l : List UInt8} {c : UInt8} {v : Value} (h : Own w base (.slice (some ⟨g, 0, none⟩) n cap) l) (hn : n = l.length) (hv : v = .int .u8 (c.toNat : Int)) :
    Own (w.setCell ⟨g, k, none⟩ v) base (.slice (some ⟨g, 0, none⟩) n cap) (l.set k c) ∧ w.grownBy (w.setCell ⟨g, k, none⟩ v) (some g) := by
  subst hn; subst hv
  obtain ⟨h1, h2⟩ := World.ownsRow.stored (show w.ownsRow base 5 1 (.slice (some ⟨g, 0, none⟩) l.length cap) l.length (cs l) from h) k (.int .u8 (c.toNat : Int))
  refine ⟨?_, h2⟩
  show World.ownsRow _ _ _ _ _ _ _
  rw [List.length_set]
  have e : cs (l.set k c) = (cs l).set k (.int .u8 (c.toNat : Int)) := by simp [cs, List.map_set]
  rw [e]
  exact h1
theorem Own.form {w : World} {base : Nat} {v : Value} {l : List UInt8} (h : Own w base v l) (hn : 0 < l.length) : ∃ g cap, v = .slice (some ⟨g, 0, none⟩) l.length cap ∧ base ≤ g ∧ g < w.heap.size ∧ l.length ≤ cap ∧ cap ≤ maxLen := by
  rcases h.2 with ⟨_, h0⟩ | ⟨g, cap, cur, hv, hb, hg, h1, h2, _⟩
  · omega
  · exact ⟨g, cap, hv, hb, (Array.getElem?_eq_some_iff.1 hg).1, h1, h2⟩
theorem Own.frozen {w : World} {base g n cap : Nat} (k : Nat) {l : List UInt8} (h : Own w base (.slice (some ⟨g, 0, none⟩) n cap) l) (hn : n = l.length) : w.frozen? ⟨g, k, none⟩ = false := by
  subst hn
  exact World.ownsRow.frozenAt (show w.ownsRow base 5 1 (.slice (some ⟨g, 0, none⟩) l.length cap) l.length (cs l) from h) k
theorem Own.none_ {w : World} {base : Nat} {v : Value} {l : List UInt8} (h : Own w base v l) (hn : l = []) : Own w base v [] := by subst hn; exact h
end Go.Proofs.YtnmonoafjijfhaaGreat
namespace Go.Proofs.YtnmonoafjijfhaaGreat
open Go.RowKit
set_option linter.unusedVariables false
set_option linter.unusedSimpArgs false
theorem Tryz.info9 : (Tryz.prog.info? 9).map (fun i => (i.zero, i.size, i.bytes)) = some (some (st []), 1, 16) := by kernel_rfl
/-- A cell more: the reader is as it was. -/
theorem cell_step {w w1 w9 : World} {g : Nat} {a : Option Addr} {cap : Nat} {b : List UInt8} {s : CS} {v : Value} {o : List Ce} {ob : Obj} (hR : Rdr w1 g a cap b s) (hg1 : w.grownBy w1 (some g)) (hO : OwnC w1 w.heap.size v o) (hlt : g < w.heap.size) (hb : 0 < b.length → ∀ q off, a = some ⟨q, off, none⟩ → q < w.heap.size)
    (hg9 : (w1.alloc ob).grownBy w9 v.ownBlock) : Rdr w9 g a cap b s ∧ w.grownBy w9 (some g) := by
  have hx : Ex w1 (w1.alloc ob) := (Below.refl _ _).alloc (Nat.le_refl _) _
  refine ⟨(hR.below hx).far hg9 (fun e => ?_) (fun h0 q off e e2 => ?_), ?_⟩
  · have := (hO.lt g e).1; omega
  · have h1 := (hO.lt q e2).1
    have h2 := hb h0 q off e
    omega
  · exact grown_trN (grown_tr hg1 (hx.grownBy _)) hg9 (fun j hj => .inr (hO.lt j hj).1)
theorem Rdr.blk {w : World} {g : Nat} {a : Option Addr} {cap : Nat} {b : List UInt8} {s : CS} (h : Rdr w g a cap b s) : 0 < b.length → ∀ q off, a = some ⟨q, off, none⟩ → q < w.heap.size := by
  intro h0 q off e
  obtain ⟨q', off', e', hc⟩ := h.2.1.2.2.2 0 h0
  rw [e] at e'
  simp only [Option.some.injEq, Addr.mk.injEq, and_true] at e'
  obtain ⟨rfl, rfl⟩ := e'
  exact World.block_lt_of_cell? w _ hc
/-- What a call owns stays where an older block alone has turned. -/
theorem OwnW.grownO {α : Type} {t : TypeId} {k : Nat} {fl : α → List Value} {w w' : World} {base g : Nat} {v : Value} {l : List α} (h : OwnW t k fl w base v l) (hg : w.grownBy w' (some g)) (hlt : g < base) : OwnW t k fl w' base v l :=
  ownsRow_far h (u := .slice (some ⟨g, 0, none⟩) 0 0) hg (fun q hq e => by have := (World.ownsRow.lt h q (by simpa [Value.ownBlock] using e)).1; simp [Value.ownBlock] at hq; omega)
set_option maxHeartbeats 4000000 in
set_option maxRecDepth 100000 in
theorem ints_is (g : Nat) (a : Option Addr) (cap : Nat) (b : List UInt8) (s : CS) (n : Int) (m : Nat) (w : World) (h : Rdr w g a cap b s) (hn : n = m) (hm : m ≤ 70000) :
    Calls Tryz.prog 84 #[.pointer (some ⟨g, 0, none⟩), .int .i64 n] w fun x w' => ∃ u, x = .returned u ∧ OwnC w' w.heap.size u (Ck.lints b m [] s).1 ∧ Rdr w' g a cap b (Ck.lints b m [] s).2 ∧ w.grownBy w' (some g) := by
  subst hn
  have H : Hid (Rdr w g a cap b s) := h
  have hglt : g < w.heap.size := h.1.lt
  have HB : Hid (0 < b.length → ∀ q off, a = some ⟨q, off, none⟩ → q < w.heap.size) := h.blk
  obtain ⟨⟨R1, R2⟩, hR⟩ : ∃ x, Ck.lints b m [] s = x := ⟨_, rfl⟩
  have HR : Hid (Ck.lints b m [] s = (R1, R2)) := hR
  rw [hR]
  clear h hR
  go_enter Tryz.func84, Tryz.ntmps84
  go_wp2_with fail
  go_loopw [5] (fun ov wr => ∃ (f : Nat) (o : List Ce) (s1 : CS) (a9 : Option Addr) (c9 : Nat), o.length + f = m ∧ ov = .slice a9 o.length c9 ∧ Hid (OwnC wr w.heap.size (.slice a9 o.length c9) o) ∧ Hid (Rdr wr g a cap b s1) ∧ Hid (Ck.lints b f o s1 = (R1, R2)) ∧ Hid (w.grownBy wr (some g))) (fun ov wr => m - lenOf ov)
  case atStart => exact ⟨m, [], s, none, 0, by simp, rfl, ownW_none _ _, H, HR, World.grownBy.refl _ _⟩
  case round =>
    obtain ⟨f, o, s1, a9, c9, hf, rfl, HO, HRd, HL, HG⟩ := hrel
    clear H HR
    obtain ⟨at1, y1⟩ := s1
    obtain ⟨i0, i1, i2⟩ := HRd.out.1.all
    simp only at i1 i2
    obtain ⟨ol, hol⟩ : ∃ ol, o.length = ol := ⟨_, rfl⟩
    have HOL : Hid (o.length = ol) := hol
    rw [hol] at hf HO ⊢
    clear hol
    by_cases hf0 : f = 0
    · subst hf0
      have t1 : ¬ (ol : Int) < (m : Int) := by omega
      have hL := HL.out
      simp only [Ck.lints, Prod.mk.injEq] at hL
      obtain ⟨rfl, hL2⟩ := hL
      have HL2 : Hid ((⟨at1, y1⟩ : CS) = R2) := hL2
      clear hL2 HL
      go_wp2_with fail
      go_ret
      exact ⟨_, rfl, HO.out, by rw [← HL2.out]; exact HRd.out, HG.out⟩
    · obtain ⟨f1, hf1⟩ : ∃ f1, f = f1 + 1 := ⟨f - 1, by omega⟩
      have t1 : (ol : Int) < (m : Int) := by omega
      have hle : ol + 1 ≤ m := by omega
      have hL := HL.out
      rw [hf1, Ck.lints] at hL
      by_cases hy : y1 = 0
      · subst hy
        rw [if_neg (by simp)] at hL
        have hn1 := number_is g a cap b ⟨at1, 0⟩
        have hlt := Ck.lnum_lt b ⟨at1, 0⟩
        obtain ⟨⟨V, s2⟩, hV⟩ : ∃ x, Ck.lnum b ⟨at1, 0⟩ = x := ⟨_, rfl⟩
        rw [hV] at hn1 hL hlt
        simp only at hn1 hL hlt
        have HN1 : Hid (∀ w, Rdr w g a cap b ⟨at1, 0⟩ → Calls Tryz.prog 80 #[.pointer (some ⟨g, 0, none⟩)] w fun x w' => x = .returned (.int .u64 (V : Int)) ∧ Rdr w' g a cap b s2 ∧ w.grownBy w' (some g)) := hn1
        have HL1 : Hid (Ck.lints b f1 (o ++ [Ck.ic V]) s2 = (R1, R2)) := hL
        obtain ⟨Z, hZ⟩ : ∃ Z, M.zag (V : Int) = Z := ⟨_, rfl⟩
        have HIC : Hid (Ck.ic V = ⟨[], 1, Z, []⟩) := (by unfold Ck.ic; rw [hZ] : Ck.ic V = ⟨[], 1, Z, []⟩)
        have HZ : Hid (M.zag (V : Int) = Z) := hZ
        have hf2 : ol + 1 + f1 = m := by omega
        clear hn1 hL hV hZ HL hf hf1 hf0
        go_wp2_with fail
        go_at_call 80
        refine (HN1.out _ HRd.out).mono ?_
        rintro e1 w1 ⟨rfl, hR1, hg1⟩
        have HR1 : Hid (Rdr w1 g a cap b s2) := hR1
        have HG1 : Hid (w.grownBy w1 (some g)) := grown_tr HG.out hg1
        have HO1 : Hid (OwnC w1 w.heap.size (.slice a9 ol c9) o) := HO.out.grownO hg1 hglt
        clear hR1 hg1
        go_wp2_with fail
        go_at_call 111
        refine (zag_is _ Z _ (by omega) (by omega) HZ.out).mono ?_
        rintro e2 w2 ⟨rfl, hw2⟩
        have hw2' := hw2.symm; clear hw2; subst hw2'
        have hsz : w.heap.size ≤ w1.heap.size := HG1.out.size
        have hOL : o.length ≤ ol := Nat.le_of_eq HOL.out
        go_wp2_with (at_builtin; refine wpList_append_wide cc_len cc_one rfl (.tmp 17) (.tmp 22) 26 _ 48 rfl Tryz.underlying26 Tryz.info28 (by omega) rfl w.heap.size _ o rfl (OwnW.alloc HO1.out _) (some ⟨w1.heap.size, 0, none⟩) 1 1 [⟨[], 1, Z, []⟩] rfl rfl (RdW.laid cc_len w1 [⟨[], 1, Z, []⟩] (by simp)) (by simp [maxLen]; omega) (by simp; omega) (by simp; omega) ?_; intro v9 w9 ho9 hg9 _)
        obtain ⟨hR9, hG9⟩ := cell_step HR1.out HG1.out HO1.out hglt HB.out hg9
        have HR9 : Hid (Rdr w9 g a cap b s2) := hR9
        have HG9 : Hid (w.grownBy w9 (some g)) := hG9
        have hic : Ck.ic V = ⟨[], 1, Z, []⟩ := HIC.out
        rw [← hic] at ho9
        obtain ⟨a10, c10, hv10, hb10⟩ := ho9.rd cc_len
        have hlen : (o ++ [Ck.ic V]).length = ol + 1 := by simp [HOL.out]
        rw [hlen] at hv10
        subst hv10
        have HO9 : Hid (OwnC w9 w.heap.size (.slice a10 (ol + 1) c10) (o ++ [Ck.ic V])) := ho9
        have HLen : Hid ((o ++ [Ck.ic V]).length = ol + 1) := hlen
        clear ho9 hg9 hR9 hG9 hb10 hlen hic
        go_wp2
        go_roundw
        case rel => exact ⟨f1, o ++ [Ck.ic V], s2, a10, c10, by rw [HLen.out]; omega, by rw [HLen.out], by rw [HLen.out]; exact HO9, HR9, HL1, HG9⟩
        case measure => simp [lenOf]; omega
      · rw [if_pos hy] at hL
        simp only [Prod.mk.injEq] at hL
        obtain ⟨rfl, hL2⟩ := hL
        have HL2 : Hid ((⟨at1, y1⟩ : CS) = R2) := hL2
        have t2 : ((y1 : Int) == 0) = false := beq_eq_false_iff_ne.2 (by omega)
        clear hL2 HL hf1 hf0 hf
        go_wp2_with fail
        go_ret
        exact ⟨_, rfl, HO.out, by rw [← HL2.out]; exact HRd.out, HG.out⟩
end Go.Proofs.YtnmonoafjijfhaaGreat
namespace Go.Proofs.YtnmonoafjijfhaaGreat
open Go.RowKit
set_option linter.unusedVariables false

theorem Rd.from {α : Type} {enc : α → Value} {w : World} {b off cap : Nat} {l : List α} (h : Rd enc w (some ⟨b, off, none⟩) cap l) (k : Nat) (hk : k ≤ l.length) : Rd enc w (some ⟨b, off + k, none⟩) (cap - k) (l.drop k) := by
  obtain ⟨h1, h2, h3, h4⟩ := h
  refine ⟨by simp; omega, by omega, by simp, fun i x hi => ?_⟩
  rw [List.getElem?_drop] at hi
  obtain ⟨b', off', e, hc⟩ := h4 (k + i) x hi
  simp only [Option.some.injEq, Addr.mk.injEq, and_true] at e
  obtain ⟨rfl, rfl⟩ := e
  exact ⟨b, off + k, rfl, by rw [Nat.add_assoc]; exact hc⟩
theorem Rd.none_d {α : Type} {enc : α → Value} (w : World) (a : Option Addr) : Rd enc w a 0 [] := ⟨by simp, by simp [maxLen], fun _ => rfl, fun i x hi => by simp at hi⟩
set_option maxRecDepth 100000 in
theorem rfind_is (a : Option Addr) (n cap : Nat) (d : List (List UInt8)) (s : List UInt8) (w : World) (hn : n = d.length) (hB : Rd st w a cap d) (r : Option Nat) (hr : T.idx s d = r) :
    Calls Tryz.prog 75 #[.slice a n cap, .string (str s)] w fun e w' => e = .returned (.tuple #[.int .i64 ((r.getD 0 : Nat) : Int), .bool r.isSome]) ∧ w' = w := by
  subst hn
  have HB : Hid (Rd st w a cap d) := hB
  have HR : Hid (T.idx s d = r) := hr
  have hcl := hB.1
  have hcm := hB.2.1
  unfold maxLen at hcm
  have zs := str_toList s
  clear hB hr
  go_enter Tryz.func75, Tryz.ntmps75
  go_wp2_with fail
  go_loop [6] (fun i => ∃ k : Nat, k ≤ d.length ∧ i = .int .i64 k ∧ Hid (T.idx s d = (T.idx s (d.drop k)).map (· + k))) (fun i => d.length - (intOf i).toNat)
  case atStart => exact ⟨0, by omega, rfl, (by simp : T.idx s d = (T.idx s (d.drop 0)).map (· + 0))⟩
  case round =>
    obtain ⟨k, hk, rfl, HI⟩ := hrel
    by_cases hlt : k < d.length
    · obtain ⟨b, off, rfl, hc⟩ := HB.out.at hlt
      obtain ⟨x, hx⟩ : ∃ x, x = d[k] := ⟨_, rfl⟩
      rw [← hx] at hc
      have hc' : w.cell? ⟨b, off + k, none⟩ = some (.string (str x)) := hc
      have zx := str_toList x
      have hki : (k : Int) < (d.length : Int) := by omega
      have tk : decide ((k : Int) < (d.length : Int)) = true := by simp; omega
      have hdr : d.drop k = x :: d.drop (k + 1) := by rw [List.drop_eq_getElem_cons hlt, hx]
      have hI := HI.out
      rw [hdr, T.idx] at hI
      clear hc hx hdr HI
      by_cases he : x = s
      · rw [if_pos he, HR.out] at hI
        simp at hI
        subst hI
        subst he
        clear HR
        go_wp2
        go_ret2
        exact ⟨rfl, rfl⟩
      · rw [if_neg he] at hI
        have HN : Hid (T.idx s d = (T.idx s (d.drop (k + 1))).map (· + (k + 1))) := (by rw [hI, Option.map_map]; congr 1; funext z; simp; omega : T.idx s d = (T.idx s (d.drop (k + 1))).map (· + (k + 1)))
        have hne : (x == s) = false := by simpa using he
        clear hI he
        go_wp2
        go_round
        case rel => exact ⟨k + 1, by omega, by go_num, HN⟩
        case measure => simp [intOf]; omega
    · have hI := HI.out
      rw [List.drop_eq_nil_of_le (by omega), T.idx, HR.out] at hI
      simp at hI
      subst hI
      go_wp2
      go_ret2
      exact ⟨rfl, rfl⟩

set_option maxRecDepth 100000 in
theorem rbegins_is (x p : List UInt8) (w : World) (hx : x.length ≤ maxLen) (hp : p.length ≤ maxLen) (r : Bool) (hr : T.begins p x = r) :
    Calls Tryz.prog 61 #[.string (str x), .string (str p)] w fun e w' => e = .returned (.bool r) ∧ w' = w := by
  unfold maxLen at hx hp
  have h1 : (str x).size = x.length := str_size x
  have h2 : (str p).size = p.length := str_size p
  have zp := str_toList p
  unfold T.begins at hr
  by_cases hl : p.length ≤ x.length
  · have t1 : decide ((p.length : Int) ≤ (x.length : Int)) = true := by simp; omega
    have hcut : (str x).extract 0 p.length = str (x.take p.length) := str_cut _ _
    have zx := str_toList (x.take p.length)
    rw [decide_eq_true hl, Bool.true_and] at hr
    by_cases he : x.take p.length = p
    · rw [decide_eq_true he] at hr
      subst hr
      have hq : (x.take p.length == p) = true := by simpa using he
      have HE : Hid (x.take p.length = p) := he
      clear he
      go_enter Tryz.func61, Tryz.ntmps61
      go_wp2
      go_ret
      exact ⟨rfl, rfl⟩
    · rw [decide_eq_false he] at hr
      subst hr
      have hq : (x.take p.length == p) = false := by simpa using he
      clear he
      go_enter Tryz.func61, Tryz.ntmps61
      go_wp2
      go_ret
      exact ⟨rfl, rfl⟩
  · have t1 : decide ((p.length : Int) ≤ (x.length : Int)) = false := by simp; omega
    rw [decide_eq_false hl, Bool.false_and] at hr
    subst hr
    go_enter Tryz.func61, Tryz.ntmps61
    go_wp2
    go_ret
    exact ⟨rfl, rfl⟩
end Go.Proofs.YtnmonoafjijfhaaGreat
