/-
  Plain: a reading that goes on behind its first refusal, noughts and empty texts from there on, and refuses as the other one does. No program here. A region whose order is open, of operations that turn nothing and two stores, the second behind the first, where what reads the memory stands ahead of the first store ('n, r.at, r.why = f(r.b, r.at)'). The landed reader: refuse, begin, number, text, signed, count, texts.
-/
import Derived.Test.YtbdjccmlgdfapaaGreatPmore
import Derived.Test.YtbdjccmlgdfapaaGreatStrs
import Derived.Test.YtbdjccmlgdfapaaGreatPstep
namespace Go.Proofs.YtbdjccmlgdfapaaGreat
set_option linter.unusedVariables false
set_option linter.unusedSimpArgs false
/-- Where a reading is, how many parts have begun, why it is refused. -/
structure RS where
 at' : Int
 c : Nat
 y : Nat
namespace Pd
def refu (e : Nat) (s : RS) : RS := if s.y = 0 then ⟨s.at', s.c, e⟩ else s
def lnum (b : List UInt8) (s : RS) : Nat × RS := if s.y = 0 then ((M.get b s.at').1, ⟨(M.get b s.at').2.1, s.c, (M.get b s.at').2.2⟩) else (0, s)
def ltxt (b : List UInt8) (m : Int) (s : RS) : List UInt8 × RS := if s.y = 0 then ((M.getText b s.at' m).1, ⟨(M.getText b s.at' m).2.1, s.c, (M.getText b s.at' m).2.2⟩) else ([], s)
def lcnt (b : List UInt8) (m : Nat) (s : RS) : Nat × RS := if m < (lnum b s).1 then (0, refu 4 (lnum b s).2) else lnum b s
def ltxts (b : List UInt8) : Nat → RS → List (List UInt8) × RS
 | 0, s => ([], s)
 | n + 1, s => ((ltxts b n s).1 ++ [(ltxt b 40 (ltxts b n s).2).1], (ltxt b 40 (ltxts b n s).2).2)
def lkids (R : RS → Pr × RS) : Nat → RS → List Pr × RS
 | 0, s => ([], s)
 | n + 1, s => ((lkids R n s).1 ++ [(R (lkids R n s).2).1], (R (lkids R n s).2).2)
def lbeg (f : Nat) (s : RS) : RS := if f = 0 then refu 24 ⟨s.at', s.c + 1, s.y⟩ else if 40 < s.c + 1 then refu 4 ⟨s.at', s.c + 1, s.y⟩ else ⟨s.at', s.c + 1, s.y⟩
def lbody (b : List UInt8) (R : RS → Pr × RS) (K : Nat) (s : RS) : Pr × RS :=
 if K = 1 ∨ K = 2 then (Pr.mk' (hk K) (lkids R (lcnt b 40 s).1 (lcnt b 40 s).2).1, (lkids R (lcnt b 40 s).1 (lcnt b 40 s).2).2)
 else if K = 3 then (Pr.mk' (hk 3) (lkids R 1 s).1, (lkids R 1 s).2)
 else if K = 4 ∨ K = 5 then (Pr.mk' ⟨K, (ltxt b 12 s).1, M.zag ((lnum b (ltxt b 12 s).2).1 : Int), 0, [], []⟩ [], (lnum b (ltxt b 12 s).2).2)
 else if K = 6 ∨ K = 8 then (Pr.mk' ⟨K, (ltxt b 12 s).1, 0, 0, (ltxt b 40 (ltxt b 12 s).2).1, []⟩ [], (ltxt b 40 (ltxt b 12 s).2).2)
 else if K = 7 then (Pr.mk' ⟨7, (ltxt b 12 s).1, 0, 0, [], (ltxts b (lcnt b 8 (ltxt b 12 s).2).1 (lcnt b 8 (ltxt b 12 s).2).2).1⟩ [], (ltxts b (lcnt b 8 (ltxt b 12 s).2).1 (lcnt b 8 (ltxt b 12 s).2).2).2)
 else if K = 9 then (Pr.mk' ⟨9, (ltxt b 12 s).1, 0, 0, [], []⟩ [], (ltxt b 12 s).2)
 else if K = 10 then (Pr.mk' ⟨10, [], M.zag ((lnum b s).1 : Int), M.zag ((lnum b (lnum b s).2).1 : Int), [], []⟩ [], (lnum b (lnum b s).2).2)
 else (Pr.mk' (hk (IntKind.i64.wrap (K : Int))) [], refu 12 s)
def lpart (b : List UInt8) : Nat → RS → Pr × RS
 | 0, s => lbody b (fun s => (zero, s)) (lnum b (lbeg 0 s)).1 (lnum b (lbeg 0 s)).2
 | f + 1, s => lbody b (lpart b f) (lnum b (lbeg (f + 1) s)).1 (lnum b (lbeg (f + 1) s)).2
def ldec (b : List UInt8) (p : Int) : Pr × Int × Nat :=
 let o := lpart b 6 ⟨p, 0, 0⟩
 let y := if o.2.y = 0 ∧ ¬ right o.1 = true then 12 else o.2.y
 if y ≠ 0 then (zero, 0, y) else (o.1, o.2.at', 0)
-- what stays
theorem refu_y {e : Nat} {s : RS} (h : s.y ≠ 0) : refu e s = s := if_neg h
theorem lnum_y {b : List UInt8} {s : RS} (h : s.y ≠ 0) : lnum b s = (0, s) := if_neg h
theorem ltxt_y {b : List UInt8} {m : Int} {s : RS} (h : s.y ≠ 0) : ltxt b m s = ([], s) := if_neg h
theorem lcnt_y {b : List UInt8} {m : Nat} {s : RS} (h : s.y ≠ 0) : lcnt b m s = (0, s) := by
 unfold lcnt
 rw [lnum_y h, if_neg (by simp)]
theorem ltxts_y {b : List UInt8} {s : RS} (h : s.y ≠ 0) : ∀ n, (ltxts b n s).2 = s
 | 0 => rfl
 | n + 1 => by rw [ltxts, ltxts_y h n, ltxt_y h]
theorem lkids_y {R : RS → Pr × RS} (hR : ∀ s, s.y ≠ 0 → (R s).2.y = s.y) {s : RS} (h : s.y ≠ 0) : ∀ n, (lkids R n s).2.y = s.y
 | 0 => rfl
 | n + 1 => by
  have h1 := lkids_y hR h n
  rw [lkids, hR _ (by rw [h1]; exact h), h1]
theorem lbody_y {b : List UInt8} {R : RS → Pr × RS} (hR : ∀ s, s.y ≠ 0 → (R s).2.y = s.y) {s : RS} (h : s.y ≠ 0) (K : Nat) : (lbody b R K s).2.y = s.y := by
 unfold lbody
 split
 ·simp only [lcnt_y h, lkids_y hR h]
 split
 ·exact lkids_y hR h 1
 split
 ·simp only [ltxt_y h, lnum_y h]
 split
 ·simp only [ltxt_y h]
 split
 ·simp only [ltxt_y h, lcnt_y h, ltxts_y h]
 split
 ·simp only [ltxt_y h]
 split
 ·simp only [lnum_y h]
 ·simp only [refu_y h]
theorem lbeg_y {f : Nat} {s : RS} (h : s.y ≠ 0) : (lbeg f s).y = s.y := by
 unfold lbeg
 split
 ·rw [refu_y (by exact h)]
 split
 ·rw [refu_y (by exact h)]
 ·rfl
theorem lpart_y {b : List UInt8} : ∀ f {s : RS}, s.y ≠ 0 → (lpart b f s).2.y = s.y
 | 0, s, h => by
  have h1 := lbeg_y (f := 0) h
  rw [lpart, lnum_y (by rw [h1]; exact h), lbody_y (fun s _ => rfl) (by rw [h1]; exact h), h1]
 | f + 1, s, h => by
  have h1 := lbeg_y (f := f + 1) h
  rw [lpart, lnum_y (by rw [h1]; exact h), lbody_y (fun s hs => lpart_y f hs) (by rw [h1]; exact h), h1]
/-- They answer alike. -/
def Rel {α : Type} (o : α × RS) (x : α) (k c e : Nat) : Prop := (e ≠ 0 → o.2.y = e) ∧ (e = 0 → o = (x, ⟨k, c, 0⟩))
theorem rdK_snoc (R : Nat → Nat → Pr × Nat × Nat × Nat) : ∀ n k c o, rdK R (n + 1) k c o = (if (rdK R n k c o).2.2.2 ≠ 0 then ([], 0, 0, (rdK R n k c o).2.2.2) else
  if (R (rdK R n k c o).2.1 (rdK R n k c o).2.2.1).2.2.2 ≠ 0 then ([], 0, 0, (R (rdK R n k c o).2.1 (rdK R n k c o).2.2.1).2.2.2) else
  ((rdK R n k c o).1 ++ [(R (rdK R n k c o).2.1 (rdK R n k c o).2.2.1).1], (R (rdK R n k c o).2.1 (rdK R n k c o).2.2.1).2.1, (R (rdK R n k c o).2.1 (rdK R n k c o).2.2.1).2.2.1, 0))
 | 0, k, c, o => by by_cases h : (R k c).2.2.2 = 0 <;> simp [rdK, h]
 | n + 1, k, c, o => by
  by_cases h : (R k c).2.2.2 = 0
  ·have e1 : rdK R (n + 1 + 1) k c o = rdK R (n + 1) (R k c).2.1 (R k c).2.2.1 (o ++ [(R k c).1]) := by rw [rdK, if_neg (by simpa using h)]
   have e2 : rdK R (n + 1) k c o = rdK R n (R k c).2.1 (R k c).2.2.1 (o ++ [(R k c).1]) := by rw [rdK, if_neg (by simpa using h)]
   rw [e1, e2, rdK_snoc R n]
  ·have e1 : rdK R (n + 1 + 1) k c o = ([], 0, 0, (R k c).2.2.2) := by rw [rdK, if_pos h]
   have e2 : rdK R (n + 1) k c o = ([], 0, 0, (R k c).2.2.2) := by rw [rdK, if_pos h]
   rw [e1, e2, if_pos h]
theorem rdT_snoc (b : List UInt8) : ∀ n k o, rdT b (n + 1) k o = (if (rdT b n k o).2.2 ≠ 0 then ([], 0, (rdT b n k o).2.2) else
  if (M.getText b (rdT b n k o).2.1 40).2.2 ≠ 0 then ([], 0, (M.getText b (rdT b n k o).2.1 40).2.2) else
  ((rdT b n k o).1 ++ [(M.getText b (rdT b n k o).2.1 40).1], (M.getText b (rdT b n k o).2.1 40).2.1, 0))
 | 0, k, o => by by_cases h : (M.getText b k 40).2.2 = 0 <;> simp [rdT, h]
 | n + 1, k, o => by
  by_cases h : (M.getText b k 40).2.2 = 0
  ·have e1 : rdT b (n + 1 + 1) k o = rdT b (n + 1) (M.getText b k 40).2.1 (o ++ [(M.getText b k 40).1]) := by rw [rdT, if_neg (by simpa using h)]
   have e2 : rdT b (n + 1) k o = rdT b n (M.getText b k 40).2.1 (o ++ [(M.getText b k 40).1]) := by rw [rdT, if_neg (by simpa using h)]
   rw [e1, e2, rdT_snoc b n]
  ·have e1 : rdT b (n + 1 + 1) k o = ([], 0, (M.getText b k 40).2.2) := by rw [rdT, if_pos h]
   have e2 : rdT b (n + 1) k o = ([], 0, (M.getText b k 40).2.2) := by rw [rdT, if_pos h]
   rw [e1, e2, if_pos h]
theorem lkids_rd {R : RS → Pr × RS} {Q : Nat → Nat → Pr × Nat × Nat × Nat} (hR : ∀ s, s.y ≠ 0 → (R s).2.y = s.y) (hQ : ∀ k c : Nat, Rel (R ⟨k, c, 0⟩) (Q k c).1 (Q k c).2.1 (Q k c).2.2.1 (Q k c).2.2.2) :
  ∀ n (k c : Nat), Rel (lkids R n ⟨k, c, 0⟩) (rdK Q n k c []).1 (rdK Q n k c []).2.1 (rdK Q n k c []).2.2.1 (rdK Q n k c []).2.2.2
 | 0, k, c => ⟨fun h => absurd rfl h, fun _ => rfl⟩
 | n + 1, k, c => by
  obtain ⟨h1, h2⟩ := lkids_rd hR hQ n k c
  rw [rdK_snoc]
  by_cases e : (rdK Q n k c []).2.2.2 = 0
  ·have g := h2 e
   rw [if_neg (by simpa using e)]
   obtain ⟨q1, q2⟩ := hQ (rdK Q n k c []).2.1 (rdK Q n k c []).2.2.1
   by_cases e' : (Q (rdK Q n k c []).2.1 (rdK Q n k c []).2.2.1).2.2.2 = 0
   ·rw [if_neg (by simpa using e')]
    refine ⟨fun h => absurd rfl h, fun _ => ?_⟩
    rw [lkids, g]
    simp only
    rw [q2 e']
   ·rw [if_pos e']
    refine ⟨fun _ => ?_, fun h => absurd h e'⟩
    rw [lkids, g]
    exact q1 e'
  ·rw [if_pos e]
   refine ⟨fun _ => ?_, fun h => absurd h e⟩
   rw [lkids]
   simp only
   rw [hR _ (by rw [h1 e]; exact e), h1 e]
theorem ltxts_rd {b : List UInt8} : ∀ n (k c : Nat), Rel (ltxts b n ⟨k, c, 0⟩) (rdT b n k []).1 (rdT b n k []).2.1 c (rdT b n k []).2.2
 | 0, k, c => ⟨fun h => absurd rfl h, fun _ => rfl⟩
 | n + 1, k, c => by
  obtain ⟨h1, h2⟩ := ltxts_rd n k c
  rw [rdT_snoc]
  by_cases e : (rdT b n k []).2.2 = 0
  ·have g := h2 e
   rw [if_neg (by simpa using e)]
   by_cases e' : (M.getText b (rdT b n k []).2.1 40).2.2 = 0
   ·rw [if_neg (by simpa using e')]
    refine ⟨fun h => absurd rfl h, fun _ => ?_⟩
    rw [ltxts, g]
    simp only [ltxt, if_true, e']
   ·rw [if_pos e']
    refine ⟨fun _ => ?_, fun h => absurd h e'⟩
    rw [ltxts, g]
    simp only [ltxt, if_true]
  ·rw [if_pos e]
   refine ⟨fun _ => ?_, fun h => absurd h e⟩
   rw [ltxts]
   simp only
   rw [ltxt_y (by rw [h1 e]; exact e)]
   exact h1 e
theorem lnum_0 (b : List UInt8) (k : Int) (c : Nat) : lnum b ⟨k, c, 0⟩ = ((M.get b k).1, ⟨(M.get b k).2.1, c, (M.get b k).2.2⟩) := if_pos rfl
theorem ltxt_0 (b : List UInt8) (m k : Int) (c : Nat) : ltxt b m ⟨k, c, 0⟩ = ((M.getText b k m).1, ⟨(M.getText b k m).2.1, c, (M.getText b k m).2.2⟩) := if_pos rfl
theorem get_no {b : List UInt8} {k : Int} (h : (M.get b k).2.2 ≠ 0) : (M.get b k).1 = 0 := by
 unfold M.get at h ⊢
 split
 ·rfl
 rename_i h1
 rw [if_neg h1] at h
 split
 ·rename_i h2; rw [if_pos h2] at h; exact absurd rfl h
 ·rfl
theorem lcnt_rd (b : List UInt8) (m : Nat) (k : Int) (c : Nat) : lcnt b m ⟨k, c, 0⟩ = (if (M.get b k).2.2 ≠ 0 then (0, ⟨(M.get b k).2.1, c, (M.get b k).2.2⟩) else if m < (M.get b k).1 then (0, ⟨(M.get b k).2.1, c, 4⟩) else ((M.get b k).1, ⟨(M.get b k).2.1, c, 0⟩)) := by
 unfold lcnt
 rw [lnum_0]
 by_cases h : (M.get b k).2.2 = 0
 ·rw [if_neg (show ¬ (M.get b k).2.2 ≠ 0 by simpa using h), h]
  simp only [refu, if_true]
 ·rw [if_pos h, get_no h]
  simp
theorem rd4_no (Q : Nat → Nat → Pr × Nat × Nat × Nat) (c : Nat) (h : Hd) (n k e : Nat) (he : e ≠ 0) : rd4 Q c (h, n, k, e) = (zero, 0, 0, e) := by unfold rd4; simp only; rw [if_pos he]
theorem rd4_0 (Q : Nat → Nat → Pr × Nat × Nat × Nat) (c : Nat) (h : Hd) (k : Nat) : rd4 Q c (h, 0, k, 0) = (Pr.mk' h [], k, c, 0) := by unfold rd4; simp [rdK]
/-- Alike, said of four. -/
def Rel4 (o : Pr × RS) (r : Pr × Nat × Nat × Nat) : Prop := Rel o r.1 r.2.1 r.2.2.1 r.2.2.2
theorem rel_no {o : Pr × RS} {e : Nat} (he : e ≠ 0) (h : o.2.y = e) : Rel4 o (zero, 0, 0, e) := ⟨fun _ => h, fun h => absurd h he⟩
theorem rel_0 {o : Pr × RS} {p : Pr} {k c : Nat} (h : o = (p, ⟨k, c, 0⟩)) : Rel4 o (p, k, c, 0) := ⟨fun h => absurd rfl h, fun _ => h⟩
theorem rel_kids {R : RS → Pr × RS} {Q : Nat → Nat → Pr × Nat × Nat × Nat} (hR : ∀ s, s.y ≠ 0 → (R s).2.y = s.y) (hQ : ∀ k c : Nat, Rel4 (R ⟨k, c, 0⟩) (Q k c)) (h : Hd) (n k c : Nat) :
  Rel4 (Pr.mk' h (lkids R n ⟨k, c, 0⟩).1, (lkids R n ⟨k, c, 0⟩).2) (rd4 Q c (h, n, k, 0)) := by
 obtain ⟨h1, h2⟩ := lkids_rd hR hQ n k c
 unfold rd4
 simp only
 rw [if_neg (by simp)]
 by_cases e : (rdK Q n k c []).2.2.2 = 0
 ·rw [if_neg (by simpa using e)]
  exact rel_0 (by rw [h2 e])
 ·rw [if_pos e]
  exact rel_no e (h1 e)
theorem lbody_rd {b : List UInt8} {R : RS → Pr × RS} {Q : Nat → Nat → Pr × Nat × Nat × Nat} (hR : ∀ s, s.y ≠ 0 → (R s).2.y = s.y) (hQ : ∀ k c : Nat, Rel4 (R ⟨k, c, 0⟩) (Q k c)) (K k c : Nat) (hK : 1 ≤ K ∧ K ≤ 10) :
  Rel4 (lbody b R K ⟨k, c, 0⟩) (rd4 Q c (rdH b K k)) := by
 unfold lbody rdH
 by_cases h1 : K = 1 ∨ K = 2
 ·rw [if_pos h1, if_pos h1, lcnt_rd]
  by_cases e : (M.get b k).2.2 = 0
  ·rw [if_neg (show ¬ (M.get b k).2.2 ≠ 0 by simpa using e), if_neg (show ¬ (M.get b k).2.2 ≠ 0 by simpa using e)]
   by_cases e2 : 40 < (M.get b k).1
   ·rw [if_pos e2, if_pos e2, rd4_no _ _ _ _ _ _ (by decide)]
    exact rel_no (by decide) (lkids_y hR (s := ⟨_, c, 4⟩) (by simp) 0)
   ·rw [if_neg e2, if_neg e2]
    exact rel_kids hR hQ _ _ _ _
  ·rw [if_pos e, if_pos e, rd4_no _ _ _ _ _ _ e]
   exact rel_no e (lkids_y hR (by exact e) 0)
 rw [if_neg h1, if_neg h1]
 by_cases h3 : K = 3
 ·rw [if_pos h3, if_pos h3]
  exact rel_kids hR hQ _ _ _ _
 rw [if_neg h3, if_neg h3]
 by_cases h10 : K = 10
 ·rw [if_neg (by omega), if_neg (by omega), if_neg (by omega), if_neg (by omega), if_pos h10, if_pos h10, lnum_0]
  by_cases e : (M.get b k).2.2 = 0
  ·rw [if_neg (show ¬ (M.get b k).2.2 ≠ 0 by simpa using e), e]
   simp only
   rw [lnum_0]
   by_cases e2 : (M.get b (M.get b k).2.1).2.2 = 0
   ·rw [if_neg (show ¬ (M.get b (M.get b k).2.1).2.2 ≠ 0 by simpa using e2), rd4_0, e2]
    exact rel_0 rfl
   ·rw [if_pos e2, rd4_no _ _ _ _ _ _ e2]
    exact rel_no e2 rfl
  ·rw [if_pos e, rd4_no _ _ _ _ _ _ e]
   simp only
   rw [lnum_y (by exact e)]
   exact rel_no e rfl
 rw [if_neg (show ¬ K = 10 from h10), if_neg (show ¬ K = 10 from h10), ltxt_0]
 by_cases e : (M.getText b k 12).2.2 = 0
 ·rw [if_neg (show ¬ (M.getText b k 12).2.2 ≠ 0 by simpa using e), e]
  simp only
  unfold rdC2
  by_cases h4 : K = 4 ∨ K = 5
  ·rw [if_pos h4, if_pos h4, lnum_0]
   by_cases e2 : (M.get b (M.getText b k 12).2.1).2.2 = 0
   ·rw [if_neg (show ¬ (M.get b (M.getText b k 12).2.1).2.2 ≠ 0 by simpa using e2), rd4_0, e2]
    exact rel_0 rfl
   ·rw [if_pos e2, rd4_no _ _ _ _ _ _ e2]
    exact rel_no e2 rfl
  rw [if_neg h4, if_neg h4]
  by_cases h6 : K = 6 ∨ K = 8
  ·rw [if_pos h6, if_pos h6, ltxt_0]
   by_cases e2 : (M.getText b (M.getText b k 12).2.1 40).2.2 = 0
   ·rw [if_neg (show ¬ (M.getText b (M.getText b k 12).2.1 40).2.2 ≠ 0 by simpa using e2), rd4_0, e2]
    exact rel_0 rfl
   ·rw [if_pos e2, rd4_no _ _ _ _ _ _ e2]
    exact rel_no e2 rfl
  rw [if_neg h6, if_neg h6]
  by_cases h7 : K = 7
  ·rw [if_pos h7, if_pos h7, lcnt_rd]
   by_cases e2 : (M.get b (M.getText b k 12).2.1).2.2 = 0
   ·rw [if_neg (show ¬ (M.get b (M.getText b k 12).2.1).2.2 ≠ 0 by simpa using e2), if_neg (show ¬ (M.get b (M.getText b k 12).2.1).2.2 ≠ 0 by simpa using e2)]
    by_cases e3 : 8 < (M.get b (M.getText b k 12).2.1).1
    ·rw [if_pos e3, if_pos e3, rd4_no _ _ _ _ _ _ (by decide)]
     exact rel_no (by decide) rfl
    ·rw [if_neg e3, if_neg e3]
     simp only
     obtain ⟨t1, t2⟩ := ltxts_rd (b := b) (M.get b (M.getText b k 12).2.1).1 (M.get b (M.getText b k 12).2.1).2.1 c
     by_cases e4 : (rdT b (M.get b (M.getText b k 12).2.1).1 (M.get b (M.getText b k 12).2.1).2.1 []).2.2 = 0
     ·rw [if_neg (by simpa using e4), rd4_0, t2 e4]
      subst h7
      exact rel_0 rfl
     ·rw [if_pos e4, rd4_no _ _ _ _ _ _ e4]
      exact rel_no e4 (t1 e4)
   ·rw [if_pos e2, if_pos e2, rd4_no _ _ _ _ _ _ e2]
    exact rel_no e2 rfl
  have h9 : K = 9 := by omega
  rw [if_neg h7, if_neg h7, if_pos h9, rd4_0]
  subst h9
  exact rel_0 rfl
 ·rw [if_pos e, rd4_no _ _ _ _ _ _ e]
  have hy : ∀ z, (⟨z, c, (M.getText b k 12).2.2⟩ : RS).y ≠ 0 := fun z => e
  refine rel_no e ?_
  split
  ·rw [lnum_y (hy _)]
  split
  ·rw [ltxt_y (hy _)]
  split
  ·rw [lcnt_y (hy _), ltxts_y (hy _)]
  split
  ·rfl
  ·omega
theorem lpart_rd {b : List UInt8} : ∀ f (k : Int) (c : Nat), Rel4 (lpart b f ⟨k, c, 0⟩) (rd b f k c)
 | 0, k, c => by
  have h1 : lbeg 0 ⟨k, c, 0⟩ = ⟨k, c + 1, 24⟩ := rfl
  rw [lpart, h1, lnum_y (by simp), rd]
  exact rel_no (by decide) (lbody_y (fun _ _ => rfl) (by simp) 0)
 | f + 1, k, c => by
  rw [lpart, rd]
  by_cases hc : 40 < c + 1
  ·have h1 : lbeg (f + 1) ⟨k, c, 0⟩ = ⟨k, c + 1, 4⟩ := by unfold lbeg; rw [if_neg (by omega), if_pos hc]; rfl
   rw [h1, if_pos hc, lnum_y (by simp)]
   exact rel_no (by decide) (lbody_y (fun _ h => lpart_y f h) (by simp) 0)
  ·have h1 : lbeg (f + 1) ⟨k, c, 0⟩ = ⟨k, c + 1, 0⟩ := by unfold lbeg; rw [if_neg (by omega), if_neg hc]
   rw [h1, if_neg hc, lnum_0]
   by_cases e : (M.get b k).2.2 = 0
   ·rw [if_neg (show ¬ (M.get b k).2.2 ≠ 0 by simpa using e), e]
    simp only
    by_cases hK : (M.get b k).1 < 1 ∨ 10 < (M.get b k).1
    ·rw [if_pos hK]
     refine rel_no (by decide) ?_
     unfold lbody
     rw [if_neg (by omega), if_neg (by omega), if_neg (by omega), if_neg (by omega), if_neg (by omega), if_neg (by omega), if_neg (by omega)]
     rfl
    ·rw [if_neg hK]
     exact lbody_rd (fun _ h => lpart_y f h) (fun k c => lpart_rd f k c) _ _ _ (by omega)
   ·rw [if_pos e]
    exact rel_no e (lbody_y (fun _ h => lpart_y f h) (by exact e) _)
/-- Decode, either way. -/
theorem ldec_is (b : List UInt8) (p : Int) : ldec b p = ((dec b p).1, ((dec b p).2.1 : Int), (dec b p).2.2) := by
 obtain ⟨h1, h2⟩ := lpart_rd (b := b) 6 p 0
 unfold ldec dec
 by_cases e : (rd b 6 p 0).2.2.2 = 0
 ·have g := h2 e
  rw [g, if_neg (show ¬ (rd b 6 p 0).2.2.2 ≠ 0 by simpa using e)]
  simp only
  by_cases hr : right (rd b 6 p 0).1 = true
  ·rw [if_pos hr, if_neg (by simp [hr])]
  ·rw [if_neg hr, if_pos (by simp [hr])]
   simp [hr]
 ·have g := h1 e
  rw [if_pos e]
  simp only
  rw [g, if_neg (show ¬ ((rd b 6 p 0).2.2.2 = 0 ∧ ¬ right (lpart b 6 ⟨p, 0, 0⟩).1 = true) from fun h => e h.1), if_pos e]
  rfl
/-- How many parts at most. -/
theorem lkids_c {R : RS → Pr × RS} {M : Nat} (hR : ∀ s, (R s).2.c ≤ s.c + M) : ∀ n s, (lkids R n s).2.c ≤ s.c + n * M
 | 0, s => by simp [lkids]
 | n + 1, s => by
  have h1 := lkids_c hR n s
  have h2 := hR (lkids R n s).2
  rw [lkids, Nat.succ_mul]
  simp only
  omega
end Pd
end Go.Proofs.YtbdjccmlgdfapaaGreat
namespace Go.Proofs.YtbdjccmlgdfapaaGreat
open Go.RowKit
set_option linter.unusedVariables false
namespace Rg.Fr
/-- Each operation but those at x and y has its sentence; those of R in some worlds alone. -/
def GoodsLate (ops : Array Oper) (specs : List Spec) (a0 : Act) (C : World → Prop) (x y : Nat) (R : List Nat) : Nat → List Oper → List Spec → Prop
 | _, [], [] => True
 | k, o :: os, s :: ss => (k ≠ x → k ≠ y → GoodOp Tryz.prog ops specs a0 (fun w => k ∈ R → C w) (fun w w' => w' = w) o s) ∧ GoodsLate ops specs a0 C x y R (k + 1) os ss
 | _, _, _ => False
theorem late_at {ops : Array Oper} {specs : List Spec} {a0 : Act} {C : World → Prop} {x y : Nat} {R : List Nat} : ∀ (os : List Oper) (ss : List Spec) (k : Nat), GoodsLate ops specs a0 C x y R k os ss → ∀ (i : Nat) (o : Oper), os[i]? = some o → k + i ≠ x → k + i ≠ y →
  ∃ s, ss[i]? = some s ∧ GoodOp Tryz.prog ops specs a0 (fun w => (k + i) ∈ R → C w) (fun w w' => w' = w) o s
 | [], _, _, _, i, o, h, _, _ => by simp at h
 | _ :: _, [], _, h, _, _, _, _, _ => h.elim
 | o :: os, s :: ss, k, h, 0, o', ho, hk, hk2 => by simp at ho; subst ho; exact ⟨s, rfl, h.1 (by omega) (by omega)⟩
 | o :: os, s :: ss, k, h, i + 1, o', ho, hk, hk2 => by
  obtain ⟨s', h1, h2⟩ := late_at os ss (k + 1) h.2 i o' (by simpa using ho) (by omega) (by omega)
  rw [show k + (i + 1) = k + 1 + i by omega]
  exact ⟨s', by simpa using h1, h2⟩
theorem late_len {ops : Array Oper} {specs : List Spec} {a0 : Act} {C : World → Prop} {x y : Nat} {R : List Nat} : ∀ (os : List Oper) (ss : List Spec) (k : Nat), GoodsLate ops specs a0 C x y R k os ss → os.length ≤ ss.length
 | [], _, _, _ => by simp
 | _ :: _, [], _, h => h.elim
 | o :: os, s :: ss, k, h => by have := late_len os ss (k + 1) h.2; simp; omega
theorem wp_late {id : Nat} {Q : Exit → Act → World → Prop} {w : World} {l : List Oper} {a0 : Act} (x y : Nat) (hxy : x ≠ y) (w1 w2 : World) (R : List Nat) (specs : List Spec) (n : Nat) (hm : Tryz.prog.follows .mixedOrders = true) (hn : a0.tmps.size = n) (hs : sound l.toArray n = true) (hng : l.all (fun o => o.guard.isNone) = true)
  (hst : Stands (fun _ _ => True) specs) (ox oy : Oper) (lx : l[x]? = some ox) (ly : l[y]? = some oy) (hd : oy.after.any (fun e => Region.binds .any e && e.on == x) = true) (hR : R.all (fun i => ox.after.any (fun e => Region.binds .any e && e.on == i)) = true)
  (tx : (specs[x]?).getD (.inl undef) = .inl undef) (ty : (specs[y]?).getD (.inl undef) = .inl undef)
  (rx : ∀ (ρ : Operand → Value), (∀ z ∈ ox.op.operands, (argS l.toArray specs a0 z).ok (ρ z) w.drew) → (execOp ρ ox).run Tryz.prog w.drew = .ok .skip w1)
  (ry : ∀ (ρ : Operand → Value), (∀ z ∈ oy.op.operands, (argS l.toArray specs a0 z).ok (ρ z) w1) → (execOp ρ oy).run Tryz.prog w1 = .ok .skip w2)
  (hG : GoodsLate l.toArray specs a0 (fun w' => w' = w.drew) x y R 0 l specs)
  (hF : later w2 (fun a' => Q .normal a' w2) l specs a0) : (Code.region id l.toArray true).wp Tryz.prog Q a0 w := by
 refine wp_rows_free (fun L _ w' => (L y = true → L x = true) ∧ (L x = false → w' = w.drew) ∧ (L x = true → L y = false → w' = w1) ∧ (L y = true → w' = w2) ∧ (L x = true → ∀ i ∈ R, L i = true)) (fun _ => True) specs n hm hn hs hst hng trivial ⟨fun h => (by cases h), fun _ => rfl, fun h => (by cases h), fun h => (by cases h), fun h => (by cases h)⟩ ?_ ?_
 ·intro i o L a w' ho hL hdep hsz _ hargs hV
  obtain ⟨v1, v2, v3, v4, v5⟩ := hV
  by_cases hix : i = x
  ·subst hix
   rw [lx] at ho
   cases ho
   have hw := v2 hL
   subst hw
   have hy0 : L y = false := by
    cases e : L y with
    | false => rfl
    | true => rw [v1 e] at hL; cases hL
   refine wp_skip (rx a.eval hargs) ⟨undef, rfl, by rw [tx]; rfl, trivial, fun _ => upd_self' _ _, fun h => (by rw [upd_self'] at h; cases h), fun _ _ => rfl, fun h => ?_, fun _ j hj => ?_⟩
   ·rw [upd_ne' hxy, hy0] at h
    cases h
   ·have h1 := dep_of (List.all_eq_true.1 hR j hj) hdep
    unfold upd
    split
    ·rfl
    ·exact h1
  ·by_cases hiy : i = y
   ·subst hiy
    rw [ly] at ho
    cases ho
    have hx1 := dep_of hd hdep
    have hw := v3 hx1 hL
    subst hw
    refine wp_skip (ry a.eval hargs) ⟨undef, rfl, by rw [ty]; rfl, trivial, fun _ => by rw [upd_ne' (Ne.symm hxy)]; exact hx1, fun h => ?_, fun _ h => (by rw [upd_self'] at h; cases h), fun _ => rfl, fun _ j hj => ?_⟩
    ·rw [upd_ne' (Ne.symm hxy), hx1] at h
     cases h
    ·unfold upd
     split
     ·rfl
     ·exact v5 hx1 j hj
   ·obtain ⟨s, hss, hg⟩ := late_at l specs 0 hG i o ho (by omega) (by omega)
    have hgn : o.guard = none := by
     have := List.all_eq_true.1 hng o (List.mem_of_getElem? ho)
     simpa using this
    have hlk : ∀ t ∈ o.looksAt l.toArray, (slotS l.toArray specs a0 t).ok (a.eval (.tmp t)) w' := by
     intro t ht
     unfold Oper.looksAt at ht
     rw [hgn] at ht
     simp only [List.append_nil, List.mem_filterMap] at ht
     obtain ⟨y', hy, he⟩ := ht
     cases y' with
     | tmp t' =>
      simp only [Option.some.injEq] at he
      subst he
      exact hargs (.tmp t') (by simpa using hy)
     | const _ => simp at he
     | global _ => simp at he
     | func _ => simp at he
    have hwant : Region.wanted o (yielded l.toArray a.tmps) = true := by unfold Region.wanted; rw [hgn]
    have hC : 0 + i ∈ R → w' = w.drew := fun hi => v2 (by
     cases e : L x with
     | false => rfl
     | true => rw [Nat.zero_add] at hi; rw [v5 e i hi] at hL; cases hL)
    refine Oper.wp_mono (fun a' w3 hk => ?_) ((hg Q a w' hC hlk).1 hwant)
    obtain ⟨v, h1, h2, h3, h4⟩ := hk
    refine ⟨v, h1, by rw [hss]; exact h2, trivial, ?_⟩
    rw [upd_ne' hix, upd_ne' hiy, h3]
    refine ⟨v1, v2, v3, v4, fun hx j hj => ?_⟩
    unfold upd
    split
    ·rfl
    ·exact v5 hx j hj
 ·intro w' _
  refine Classical.byCases (fun e : w' = w2 => ?_) (fun e => ?_)
  ·subst e
   exact later_mono (fun a h _ => h) _ _ _ hF
  ·refine later_all ?_ _ _ _ (late_len l specs 0 hG)
   rintro a ⟨L, hall, h1, h2, h3, h4, h5⟩
   exact absurd (h4 (hall y (List.getElem?_eq_some_iff.1 ly).1)) e
end Rg.Fr
end Go.Proofs.YtbdjccmlgdfapaaGreat
namespace Go.Proofs.YtbdjccmlgdfapaaGreat
open Go.RowKit
set_option linter.unusedVariables false
set_option linter.unusedSimpArgs false
abbrev rdb (a : Option Addr) (n cap : Nat) (s : RS) : Obj := .cells #[.slice a n cap, .int .i64 s.at', .int .i64 (s.c : Int), .int .i64 (s.y : Int)] 74
/-- A reader in a block. -/
def RAt (w : World) (g : Nat) (a : Option Addr) (n cap : Nat) (s : RS) : Prop := w.heap[g]? = some (rdb a n cap s)
theorem RAt.lt {w : World} {g : Nat} {a : Option Addr} {n cap : Nat} {s : RS} (h : RAt w g a n cap s) : g < w.heap.size := (Array.getElem?_eq_some_iff.1 h).1
theorem RAt.all {w : World} {g : Nat} {a : Option Addr} {n cap : Nat} {s : RS} (h : RAt w g a n cap s) : w.cell? ⟨g, 0, none⟩ = some (.slice a n cap) ∧ w.cell? ⟨g, 1, none⟩ = some (.int .i64 s.at') ∧ w.cell? ⟨g, 2, none⟩ = some (.int .i64 (s.c : Int)) ∧ w.cell? ⟨g, 3, none⟩ = some (.int .i64 (s.y : Int)) := by
 refine ⟨?_, ?_, ?_, ?_⟩ <;> (rw [cell_of_row w g _ _ 74 (0, 0) h]; rfl)
theorem RAt.fro {w : World} {g : Nat} {a : Option Addr} {n cap : Nat} {s : RS} (h : RAt w g a n cap s) : w.frozen? ⟨g, 1, none⟩ = false ∧ w.frozen? ⟨g, 2, none⟩ = false ∧ w.frozen? ⟨g, 3, none⟩ = false := ⟨frozen_of_row _ _ _ _ _ h, frozen_of_row _ _ _ _ _ h, frozen_of_row _ _ _ _ _ h⟩
theorem RAt.set1 {w : World} {g : Nat} {a : Option Addr} {n cap : Nat} {s : RS} (h : RAt w g a n cap s) (x : Int) : RAt (w.setCell ⟨g, 1, none⟩ (.int .i64 x)) g a n cap ⟨x, s.c, s.y⟩ := by
 unfold RAt; rw [heap_setCell_same w g 1 _ 74 _ h]; rfl
theorem RAt.set2 {w : World} {g : Nat} {a : Option Addr} {n cap : Nat} {s : RS} (h : RAt w g a n cap s) (x : Nat) : RAt (w.setCell ⟨g, 2, none⟩ (.int .i64 (x : Int))) g a n cap ⟨s.at', x, s.y⟩ := by
 unfold RAt; rw [heap_setCell_same w g 2 _ 74 _ h]; rfl
theorem RAt.set3 {w : World} {g : Nat} {a : Option Addr} {n cap : Nat} {s : RS} (h : RAt w g a n cap s) (x : Nat) : RAt (w.setCell ⟨g, 3, none⟩ (.int .i64 (x : Int))) g a n cap ⟨s.at', s.c, x⟩ := by
 unfold RAt; rw [heap_setCell_same w g 3 _ 74 _ h]; rfl
theorem RAt.below {w w' : World} {g : Nat} {a : Option Addr} {n cap : Nat} {s : RS} (h : RAt w g a n cap s) (hx : Ex w w') : RAt w' g a n cap s := by
 unfold RAt; rw [hx.block g h.lt]; exact h
theorem RAt.far {w w' : World} {g : Nat} {a : Option Addr} {n cap : Nat} {s : RS} {row : Option Nat} (h : RAt w g a n cap s) (hg : w.grownBy w' row) (hne : row ≠ some g) : RAt w' g a n cap s := by
 unfold RAt; rw [hg.block g h.lt (fun e => hne e.symm)]; exact h
/-- Bytes far from a block that has grown. -/
theorem byt_far {w w' : World} {a : Option Addr} {cap : Nat} {l : List UInt8} {row : Option Nat} (h : Byt w a cap l) (hg : w.grownBy w' row) (ha : 0 < l.length → ∀ b off, a = some ⟨b, off, none⟩ → row ≠ some b) : Byt w' a cap l := by
 refine ⟨h.1, h.2.1, h.2.2.1, fun i hi => ?_⟩
 obtain ⟨b, off, e, hc⟩ := h.2.2.2 i hi
 refine ⟨b, off, e, ?_⟩
 rw [hg.cell_far ⟨b, off + i, none⟩ (World.block_lt_of_cell? w _ hc) (Ne.symm (ha (by omega) b off e))]
 exact hc
/-- A reader of these bytes, which lie elsewhere. -/
def Rdr (w : World) (g : Nat) (a : Option Addr) (cap : Nat) (b : List UInt8) (s : RS) : Prop := RAt w g a b.length cap s ∧ Byt w a cap b ∧ (0 < b.length → ∀ q off, a = some ⟨q, off, none⟩ → q ≠ g)
theorem Rdr.below {w w' : World} {g : Nat} {a : Option Addr} {cap : Nat} {b : List UInt8} {s : RS} (h : Rdr w g a cap b s) (hx : Ex w w') : Rdr w' g a cap b s := ⟨h.1.below hx, h.2.1.below hx, h.2.2⟩
theorem Rdr.far {w w' : World} {g : Nat} {a : Option Addr} {cap : Nat} {b : List UInt8} {s : RS} {row : Option Nat} (h : Rdr w g a cap b s) (hg : w.grownBy w' row) (hne : row ≠ some g) (ha : 0 < b.length → ∀ q off, a = some ⟨q, off, none⟩ → row ≠ some q) : Rdr w' g a cap b s := ⟨h.1.far hg hne, byt_far h.2.1 hg ha, h.2.2⟩
/-- Written to. -/
theorem Rdr.to {w w' : World} {g : Nat} {a : Option Addr} {cap : Nat} {b : List UInt8} {s s' : RS} (h : Rdr w g a cap b s) (hR : RAt w' g a b.length cap s') (hg : w.grownBy w' (some g)) : Rdr w' g a cap b s' := ⟨hR, byt_far h.2.1 hg (fun h0 q off e => fun e2 => h.2.2 h0 q off e (by simpa using e2.symm)), h.2.2⟩
theorem Rg.good_nil {P : Program} {ops : Array Oper} {specs : List Rg.Spec} {a0 : Act} {C : World → Prop} {E : World → World → Prop} {o : Oper} {x : Operand} {q : Addr} (hrefl : ∀ w, E w w) (ho : o.op = .nilCheck x) (hg : Rg.guardV ops specs a0 o = some true)
  (hx : Rg.argS ops specs a0 x = .inl (.pointer (some q))) : Rg.GoodOp P ops specs a0 C E o (.inl (.pointer (some q))) :=
 Rg.good_val hrefl hg fun a w hC hh => by
  have h1 := hh x (by rw [ho]; simp [Op.operands])
  rw [hx] at h1
  simp only [Rg.Spec.ok] at h1
  refine ⟨.pointer (some q), ?_, rfl⟩
  unfold execOp
  rw [ho]
  simp only [h1]
  rfl
theorem Rg.good_extract {P : Program} {ops : Array Oper} {specs : List Rg.Spec} {a0 : Act} {C : World → Prop} {E : World → World → Prop} {o : Oper} {x : Operand} {k : Nat} {vs : Array Value} {v : Value} (hrefl : ∀ w, E w w) (ho : o.op = .extract x k) (hg : Rg.guardV ops specs a0 o = some true)
  (hx : Rg.argS ops specs a0 x = .inl (.tuple vs)) (hv : vs[k]? = some v) : Rg.GoodOp P ops specs a0 C E o (.inl v) :=
 Rg.good_val hrefl hg fun a w hC hh => by
  have h1 := hh x (by rw [ho]; simp [Op.operands])
  rw [hx] at h1
  simp only [Rg.Spec.ok] at h1
  refine ⟨v, ?_, rfl⟩
  unfold execOp
  rw [ho]
  simp only [h1, Instr.extract, hv]
  rfl
set_option maxHeartbeats 1000000 in
theorem refuse_is (g : Nat) (a : Option Addr) (cap : Nat) (b : List UInt8) (s : RS) (E : Int) (e : Nat) (w : World) (h : Rdr w g a cap b s) (hE : E = e) :
  Calls Tryz.prog 79 #[.pointer (some ⟨g, 0, none⟩), .int .i64 E] w fun x w' => x = .returned (.tuple #[]) ∧ Rdr w' g a cap b (Pd.refu e s) ∧ w.grownBy w' (some g) := by
 subst hE
 obtain ⟨at', c, y⟩ := s
 have H : Hid (Rdr w g a cap b ⟨at', c, y⟩) := h
 obtain ⟨i0, i1, i2, i3⟩ := h.1.all
 obtain ⟨j1, j2, j3⟩ := h.1.fro
 simp only at i1 i2 i3
 clear h
 go_enter Tryz.func79, Tryz.ntmps79
 by_cases hy : y = 0
 ·subst hy
  have HR : Hid (Pd.refu e ⟨at', c, 0⟩ = ⟨at', c, e⟩) := (rfl : Pd.refu e ⟨at', c, 0⟩ = ⟨at', c, e⟩)
  go_wp2_with fail
  refine bodyPost_end (results_none Tryz.results79 _ _ _) rfl ?_
  refine ⟨rfl, ?_, grown_set1 _ _ _ _⟩
  rw [HR.out]
  exact H.out.to (H.out.1.set3 e) (grown_set1 _ _ _ _)
 ·have t1 : ((y : Int) == 0) = false := beq_eq_false_iff_ne.2 (by omega)
  have HR : Hid (Pd.refu e ⟨at', c, y⟩ = ⟨at', c, y⟩) := Pd.refu_y hy
  go_wp2_with fail
  refine bodyPost_end (results_none Tryz.results79 _ _ _) rfl ?_
  exact ⟨rfl, by rw [HR.out]; exact H.out, World.grownBy.refl _ _⟩
set_option maxHeartbeats 4000000 in
set_option maxRecDepth 100000 in
theorem number_is (g : Nat) (a : Option Addr) (cap : Nat) (b : List UInt8) (s : RS) (w : World) (h : Rdr w g a cap b s) :
  Calls Tryz.prog 73 #[.pointer (some ⟨g, 0, none⟩)] w fun x w' => x = .returned (.int .u64 ((Pd.lnum b s).1 : Int)) ∧ Rdr w' g a cap b (Pd.lnum b s).2 ∧ w.grownBy w' (some g) := by
 obtain ⟨at', c, y⟩ := s
 have H : Hid (Rdr w g a cap b ⟨at', c, y⟩) := h
 obtain ⟨i0, i1, i2, i3⟩ := h.1.all
 simp only at i1 i2 i3
 by_cases hy : y = 0
 ·subst hy
  obtain ⟨⟨V, k, e⟩, hG⟩ : ∃ x, M.get b at' = x := ⟨_, rfl⟩
  have HG : Hid (M.get b at' = (V, k, e)) := hG
  have HP : Hid (Pd.lnum b ⟨at', c, 0⟩ = (V, ⟨(k : Int), c, e⟩)) := (by rw [Pd.lnum_0, hG] : Pd.lnum b ⟨at', c, 0⟩ = (V, ⟨(k : Int), c, e⟩))
  rw [HP.out]
  clear h hG
  go_enter Tryz.func73, Tryz.ntmps73
  go_wp2_with fail
  have hre : ∀ u : World, u = u := fun _ => rfl
  have HD : Hid (Rdr w.drew g a cap b ⟨at', c, 0⟩) := H.out.below (Ex.drew w)
  obtain ⟨w8, hw8⟩ : ∃ w8, w.drew.setCell ⟨g, 1, none⟩ (.int .i64 (k : Int)) = w8 := ⟨_, rfl⟩
  have HR8 : Hid (RAt w8 g a b.length cap ⟨(k : Int), c, 0⟩) := (by rw [← hw8]; exact HD.out.1.set1 (k : Int) : RAt _ _ _ _ _ _)
  have hg8 : w.drew.grownBy w8 (some g) := by rw [← hw8]; exact grown_set1 _ _ _ _
  obtain ⟨w9, hw9⟩ : ∃ w9, w8.setCell ⟨g, 3, none⟩ (.int .i64 (e : Int)) = w9 := ⟨_, rfl⟩
  have HR9 : Hid (RAt w9 g a b.length cap ⟨(k : Int), c, e⟩) := (by rw [← hw9]; exact HR8.out.set3 e : RAt _ _ _ _ _ _)
  have HG9 : Hid (w.drew.grownBy w9 (some g)) := (grown_tr hg8 (by rw [← hw9]; exact grown_set1 _ _ _ _) : World.grownBy _ _ _)
  obtain ⟨j0, j1, j2, j3⟩ := HD.out.1.all
  obtain ⟨f1, f2, f3⟩ := HD.out.1.fro
  obtain ⟨l0, l1, l2, l3⟩ := HR8.out.all
  obtain ⟨m1, m2, m3⟩ := HR8.out.fro
  simp only at j1 j2 j3 l1 l2 l3
  refine Rg.Fr.wp_late 18 21 (by decide) w8 w9 [5, 9, 10] [.inl (Value.pointer (some ⟨g, 0, none⟩)), .inl (Value.pointer (some ⟨g, 0, none⟩)), .inl (Value.pointer (some ⟨g, 0, none⟩)), .inl (Value.pointer (some ⟨g, 0, none⟩)), .inl (Value.pointer (some ⟨g, 0, none⟩)), .inl (Value.slice a b.length cap), .inl (Value.pointer (some ⟨g, 0, none⟩)), .inl (Value.pointer (some ⟨g, 0, none⟩)), .inl (Value.pointer (some ⟨g, 1, none⟩)), .inl (Value.int .i64 at'), .inl (Value.tuple #[Value.int .u64 (V : Int), .int .i64 (k : Int), .int .i64 (e : Int)]), .inl (Value.tuple #[Value.int .u64 (V : Int), .int .i64 (k : Int), .int .i64 (e : Int)]), .inl (Value.int .u64 (V : Int)), .inl (Value.int .i64 (k : Int)), .inl (Value.int .i64 (e : Int)), .inl (Value.int .u64 (V : Int)), .inl (Value.pointer (some ⟨g, 0, none⟩)), .inl (Value.pointer (some ⟨g, 1, none⟩)), .inl undef, .inl (Value.pointer (some ⟨g, 0, none⟩)), .inl (Value.pointer (some ⟨g, 3, none⟩)), .inl undef] 29 (by kernel_rfl) rfl (by kernel_rfl) (by kernel_rfl) trivial _ _ rfl rfl (by kernel_rfl) (by kernel_rfl) rfl rfl ?rx ?ry ?hG ?hF
  case rx =>
   intro ρ ha
   have h1 : ρ (.tmp 25) = .pointer (some ⟨g, 1, none⟩) := ha (.tmp 25) (by simp [Op.operands])
   have h2 : ρ (.tmp 22) = .int .i64 (k : Int) := ha (.tmp 22) (by simp [Op.operands])
   rw [← hw8]
   simp [execOp, h1, h2, go_sem, j1, f1]
  case ry =>
   intro ρ ha
   have h1 : ρ (.tmp 27) = .pointer (some ⟨g, 3, none⟩) := ha (.tmp 27) (by simp [Op.operands])
   have h2 : ρ (.tmp 23) = .int .i64 (e : Int) := ha (.tmp 23) (by simp [Op.operands])
   rw [← hw9]
   simp [execOp, h1, h2, go_sem, l3, m3]
  case hG =>
   refine ⟨fun _ _ => Rg.good_move hre rfl rfl rfl, ?_⟩
   refine ⟨fun _ _ => Rg.good_move hre rfl rfl rfl, ?_⟩
   refine ⟨fun _ _ => Rg.good_move hre rfl rfl rfl, ?_⟩
   refine ⟨fun _ _ => Rg.good_nil hre rfl rfl rfl, ?_⟩
   refine ⟨fun _ _ => Rg.good_field hre rfl rfl rfl (fun wx hC => by go_simp), ?_⟩
   refine ⟨fun _ _ => Rg.good_load hre rfl rfl rfl (fun wx hC => by have hw := hC (by decide); subst hw; go_simp), ?_⟩
   refine ⟨fun _ _ => Rg.good_move hre rfl rfl rfl, ?_⟩
   refine ⟨fun _ _ => Rg.good_nil hre rfl rfl rfl, ?_⟩
   refine ⟨fun _ _ => Rg.good_field hre rfl rfl rfl (fun wx hC => by go_simp), ?_⟩
   refine ⟨fun _ _ => Rg.good_load hre rfl rfl rfl (fun wx hC => by have hw := hC (by decide); subst hw; go_simp), ?_⟩
   refine ⟨fun _ _ => Rg.good_call2 Tryz.func103 (by kernel_rfl) rfl rfl rfl (by rintro y0 y1 wx hC rfl rfl; have hw := hC (by decide); exact (get_is a _ cap b at' wx V k e HG.out (by rw [hw]; exact HD.out.2.1) rfl).mono fun x w' ⟨h1, h2⟩ => ⟨_, h1, rfl, h2, by rw [h2]; exact hC⟩), ?_⟩
   refine ⟨fun _ _ => Rg.good_move hre rfl rfl rfl, ?_⟩
   refine ⟨fun _ _ => Rg.good_extract hre rfl rfl rfl rfl, ?_⟩
   refine ⟨fun _ _ => Rg.good_extract hre rfl rfl rfl rfl, ?_⟩
   refine ⟨fun _ _ => Rg.good_extract hre rfl rfl rfl rfl, ?_⟩
   refine ⟨fun _ _ => Rg.good_assign hre rfl rfl rfl, ?_⟩
   refine ⟨fun _ _ => Rg.good_nil hre rfl rfl rfl, ?_⟩
   refine ⟨fun _ _ => Rg.good_field hre rfl rfl rfl (fun wx hC => by go_simp), ?_⟩
   refine ⟨fun h => absurd rfl h, ?_⟩
   refine ⟨fun _ _ => Rg.good_nil hre rfl rfl rfl, ?_⟩
   refine ⟨fun _ _ => Rg.good_field hre rfl rfl rfl (fun wx hC => by go_simp), ?_⟩
   refine ⟨fun _ h => absurd rfl h, ?_⟩
   exact trivial
  case hF =>
   simp only [Rg.later, Act.put, List.setIfInBounds_toArray, List.set_cons_succ, List.set_cons_zero]
   clear hg8 j0 j1 j2 j3 f1 f2 f3 l0 l1 l2 l3 m1 m2 m3 hw8 hw9
   go_wp2_with fail
   go_ret
   exact ⟨rfl, HD.out.to HR9.out HG9.out, grown_tr ((Ex.drew w).grownBy _) HG9.out⟩
 ·have t1 : ((y : Int) == 0) = false := beq_eq_false_iff_ne.2 (by omega)
  have t2 : ((y : Int) != 0) = true := by simp [bne, t1]
  have HP : Hid (Pd.lnum b ⟨at', c, y⟩ = (0, ⟨at', c, y⟩)) := Pd.lnum_y hy
  rw [HP.out]
  clear h
  go_enter Tryz.func73, Tryz.ntmps73
  go_wp2_with fail
  go_ret
  exact ⟨rfl, H.out, World.grownBy.refl _ _⟩
set_option maxHeartbeats 4000000 in
set_option maxRecDepth 100000 in
theorem text_is (g : Nat) (a : Option Addr) (cap : Nat) (b : List UInt8) (s : RS) (m : Int) (w : World) (h : Rdr w g a cap b s) (hm : -9223372036854775808 ≤ m ∧ m ≤ 9223372036854775807) :
  Calls Tryz.prog 76 #[.pointer (some ⟨g, 0, none⟩), .int .i64 m] w fun x w' => x = .returned (.string (str (Pd.ltxt b m s).1)) ∧ Rdr w' g a cap b (Pd.ltxt b m s).2 ∧ w.grownBy w' (some g) := by
 obtain ⟨at', c, y⟩ := s
 have H : Hid (Rdr w g a cap b ⟨at', c, y⟩) := h
 obtain ⟨i0, i1, i2, i3⟩ := h.1.all
 simp only at i1 i2 i3
 by_cases hy : y = 0
 ·subst hy
  obtain ⟨⟨V, k, e⟩, hG⟩ : ∃ x, M.getText b at' m = x := ⟨_, rfl⟩
  have HG : Hid (M.getText b at' m = (V, k, e)) := hG
  have HP : Hid (Pd.ltxt b m ⟨at', c, 0⟩ = (V, ⟨(k : Int), c, e⟩)) := (by rw [Pd.ltxt_0, hG] : Pd.ltxt b m ⟨at', c, 0⟩ = (V, ⟨(k : Int), c, e⟩))
  rw [HP.out]
  clear h hG
  go_enter Tryz.func76, Tryz.ntmps76
  go_wp2_with fail
  have hre : ∀ u : World, u = u := fun _ => rfl
  have HD : Hid (Rdr w.drew g a cap b ⟨at', c, 0⟩) := H.out.below (Ex.drew w)
  obtain ⟨w8, hw8⟩ : ∃ w8, w.drew.setCell ⟨g, 1, none⟩ (.int .i64 (k : Int)) = w8 := ⟨_, rfl⟩
  have HR8 : Hid (RAt w8 g a b.length cap ⟨(k : Int), c, 0⟩) := (by rw [← hw8]; exact HD.out.1.set1 (k : Int) : RAt _ _ _ _ _ _)
  have hg8 : w.drew.grownBy w8 (some g) := by rw [← hw8]; exact grown_set1 _ _ _ _
  obtain ⟨w9, hw9⟩ : ∃ w9, w8.setCell ⟨g, 3, none⟩ (.int .i64 (e : Int)) = w9 := ⟨_, rfl⟩
  have HR9 : Hid (RAt w9 g a b.length cap ⟨(k : Int), c, e⟩) := (by rw [← hw9]; exact HR8.out.set3 e : RAt _ _ _ _ _ _)
  have HG9 : Hid (w.drew.grownBy w9 (some g)) := (grown_tr hg8 (by rw [← hw9]; exact grown_set1 _ _ _ _) : World.grownBy _ _ _)
  obtain ⟨j0, j1, j2, j3⟩ := HD.out.1.all
  obtain ⟨f1, f2, f3⟩ := HD.out.1.fro
  obtain ⟨l0, l1, l2, l3⟩ := HR8.out.all
  obtain ⟨m1, m2, m3⟩ := HR8.out.fro
  simp only at j1 j2 j3 l1 l2 l3
  refine Rg.Fr.wp_late 19 22 (by decide) w8 w9 [5, 9, 11] [.inl (Value.pointer (some ⟨g, 0, none⟩)), .inl (Value.pointer (some ⟨g, 0, none⟩)), .inl (Value.pointer (some ⟨g, 0, none⟩)), .inl (Value.pointer (some ⟨g, 0, none⟩)), .inl (Value.pointer (some ⟨g, 0, none⟩)), .inl (Value.slice a b.length cap), .inl (Value.pointer (some ⟨g, 0, none⟩)), .inl (Value.pointer (some ⟨g, 0, none⟩)), .inl (Value.pointer (some ⟨g, 1, none⟩)), .inl (Value.int .i64 at'), .inl (Value.int .i64 m), .inl (Value.tuple #[Value.string (str V), .int .i64 (k : Int), .int .i64 (e : Int)]), .inl (Value.tuple #[Value.string (str V), .int .i64 (k : Int), .int .i64 (e : Int)]), .inl (Value.string (str V)), .inl (Value.int .i64 (k : Int)), .inl (Value.int .i64 (e : Int)), .inl (Value.string (str V)), .inl (Value.pointer (some ⟨g, 0, none⟩)), .inl (Value.pointer (some ⟨g, 1, none⟩)), .inl undef, .inl (Value.pointer (some ⟨g, 0, none⟩)), .inl (Value.pointer (some ⟨g, 3, none⟩)), .inl undef] 32 (by kernel_rfl) rfl (by kernel_rfl) (by kernel_rfl) trivial _ _ rfl rfl (by kernel_rfl) (by kernel_rfl) rfl rfl ?rx ?ry ?hG ?hF
  case rx =>
   intro ρ ha
   have h1 : ρ (.tmp 28) = .pointer (some ⟨g, 1, none⟩) := ha (.tmp 28) (by simp [Op.operands])
   have h2 : ρ (.tmp 25) = .int .i64 (k : Int) := ha (.tmp 25) (by simp [Op.operands])
   rw [← hw8]
   simp [execOp, h1, h2, go_sem, j1, f1]
  case ry =>
   intro ρ ha
   have h1 : ρ (.tmp 30) = .pointer (some ⟨g, 3, none⟩) := ha (.tmp 30) (by simp [Op.operands])
   have h2 : ρ (.tmp 26) = .int .i64 (e : Int) := ha (.tmp 26) (by simp [Op.operands])
   rw [← hw9]
   simp [execOp, h1, h2, go_sem, l3, m3]
  case hG =>
   refine ⟨fun _ _ => Rg.good_move hre rfl rfl rfl, ?_⟩
   refine ⟨fun _ _ => Rg.good_move hre rfl rfl rfl, ?_⟩
   refine ⟨fun _ _ => Rg.good_move hre rfl rfl rfl, ?_⟩
   refine ⟨fun _ _ => Rg.good_nil hre rfl rfl rfl, ?_⟩
   refine ⟨fun _ _ => Rg.good_field hre rfl rfl rfl (fun wx hC => by go_simp), ?_⟩
   refine ⟨fun _ _ => Rg.good_load hre rfl rfl rfl (fun wx hC => by have hw := hC (by decide); subst hw; go_simp), ?_⟩
   refine ⟨fun _ _ => Rg.good_move hre rfl rfl rfl, ?_⟩
   refine ⟨fun _ _ => Rg.good_nil hre rfl rfl rfl, ?_⟩
   refine ⟨fun _ _ => Rg.good_field hre rfl rfl rfl (fun wx hC => by go_simp), ?_⟩
   refine ⟨fun _ _ => Rg.good_load hre rfl rfl rfl (fun wx hC => by have hw := hC (by decide); subst hw; go_simp), ?_⟩
   refine ⟨fun _ _ => Rg.good_move hre rfl rfl rfl, ?_⟩
   refine ⟨fun _ _ => Rg.good_call3 Tryz.func104 (by kernel_rfl) rfl rfl rfl (by rintro y0 y1 y2 wx hC rfl rfl rfl; have hw := hC (by decide); exact (getText_any a _ cap b at' m wx (by rw [hw]; exact HD.out.2.1) rfl hm.1 hm.2 V k e HG.out).mono fun x w' ⟨h1, h2⟩ => ⟨_, h1, rfl, h2, by rw [h2]; exact hC⟩), ?_⟩
   refine ⟨fun _ _ => Rg.good_move hre rfl rfl rfl, ?_⟩
   refine ⟨fun _ _ => Rg.good_extract hre rfl rfl rfl rfl, ?_⟩
   refine ⟨fun _ _ => Rg.good_extract hre rfl rfl rfl rfl, ?_⟩
   refine ⟨fun _ _ => Rg.good_extract hre rfl rfl rfl rfl, ?_⟩
   refine ⟨fun _ _ => Rg.good_assign hre rfl rfl rfl, ?_⟩
   refine ⟨fun _ _ => Rg.good_nil hre rfl rfl rfl, ?_⟩
   refine ⟨fun _ _ => Rg.good_field hre rfl rfl rfl (fun wx hC => by go_simp), ?_⟩
   refine ⟨fun h => absurd rfl h, ?_⟩
   refine ⟨fun _ _ => Rg.good_nil hre rfl rfl rfl, ?_⟩
   refine ⟨fun _ _ => Rg.good_field hre rfl rfl rfl (fun wx hC => by go_simp), ?_⟩
   refine ⟨fun _ h => absurd rfl h, ?_⟩
   exact trivial
  case hF =>
   simp only [Rg.later, Act.put, List.setIfInBounds_toArray, List.set_cons_succ, List.set_cons_zero]
   clear hg8 j0 j1 j2 j3 f1 f2 f3 l0 l1 l2 l3 m1 m2 m3 hw8 hw9
   go_wp2_with fail
   go_ret
   exact ⟨rfl, HD.out.to HR9.out HG9.out, grown_tr ((Ex.drew w).grownBy _) HG9.out⟩
 ·have t1 : ((y : Int) == 0) = false := beq_eq_false_iff_ne.2 (by omega)
  have t2 : ((y : Int) != 0) = true := by simp [bne, t1]
  have HP : Hid (Pd.ltxt b m ⟨at', c, y⟩ = ([], ⟨at', c, y⟩)) := Pd.ltxt_y hy
  rw [HP.out]
  clear h
  go_enter Tryz.func76, Tryz.ntmps76
  go_wp2_with fail
  go_ret
  exact ⟨rfl, H.out, World.grownBy.refl _ _⟩
set_option maxHeartbeats 4000000 in
set_option maxRecDepth 100000 in
theorem begin_is (g : Nat) (a : Option Addr) (cap : Nat) (b : List UInt8) (s : RS) (D : Int) (f : Nat) (w : World) (h : Rdr w g a cap b s) (hD : D + f = 7) (hf : f ≤ 6) (hc : s.c ≤ 1000000000000) :
  Calls Tryz.prog 72 #[.pointer (some ⟨g, 0, none⟩), .int .i64 D] w fun x w' => x = .returned (.tuple #[]) ∧ Rdr w' g a cap b (Pd.lbeg f s) ∧ w.grownBy w' (some g) := by
 obtain ⟨at', c, y⟩ := s
 simp only at hc
 have H : Hid (Rdr w g a cap b ⟨at', c, y⟩) := h
 obtain ⟨i0, i1, i2, i3⟩ := h.1.all
 obtain ⟨j1, j2, j3⟩ := h.1.fro
 simp only at i1 i2 i3
 obtain ⟨c1, hc1⟩ : ∃ c1, c + 1 = c1 := ⟨_, rfl⟩
 have HC1 : Hid (c + 1 = c1) := hc1
 have t0 : (c : Int) + 1 = (c1 : Int) := by omega
 obtain ⟨w1, hw1⟩ : ∃ w1, w.setCell ⟨g, 2, none⟩ (.int .i64 (c1 : Int)) = w1 := ⟨_, rfl⟩
 have hg1 : w.grownBy w1 (some g) := by rw [← hw1]; exact grown_set1 _ _ _ _
 have HG1 : Hid (w.grownBy w1 (some g)) := hg1
 have HR1 : Hid (Rdr w1 g a cap b ⟨at', c1, y⟩) := (h.to (by rw [← hw1]; exact h.1.set2 c1) hg1 : Rdr _ _ _ _ _ _)
 obtain ⟨l0, l1, l2, l3⟩ := HR1.out.1.all
 obtain ⟨m1, m2, m3⟩ := HR1.out.1.fro
 simp only at l1 l2 l3
 clear h hg1 hc1
 go_enter Tryz.func72, Tryz.ntmps72
 by_cases hf0 : f = 0
 ·subst hf0
  have hD7 : D = 7 := by omega
  subst hD7
  have HB : Hid (Pd.lbeg 0 ⟨at', c, y⟩ = Pd.refu 24 ⟨at', c1, y⟩) := (by rw [← HC1.out]; rfl : Pd.lbeg 0 ⟨at', c, y⟩ = Pd.refu 24 ⟨at', c1, y⟩)
  go_wp2_with fail
  go_at_call 79
  refine (refuse_is g a cap b ⟨at', c1, y⟩ _ 24 w1 HR1.out rfl).mono ?_
  rintro e w2 ⟨rfl, hR2, hg2⟩
  have HR2 : Hid (Rdr w2 g a cap b (Pd.refu 24 ⟨at', c1, y⟩)) := hR2
  have HG2 : Hid (w.grownBy w2 (some g)) := (grown_tr HG1.out hg2 : World.grownBy _ _ _)
  clear hR2 hg2
  go_wp2_with fail
  refine bodyPost_end (results_none Tryz.results72 _ _ _) rfl ?_
  exact ⟨rfl, by rw [HB.out]; exact HR2.out, HG2.out⟩
 ·have hD6 : ¬ (6 : Int) < D := by omega
  by_cases h40 : 40 < c1
  ·have hci : (40 : Int) < (c1 : Int) := by omega
   have HB : Hid (Pd.lbeg f ⟨at', c, y⟩ = Pd.refu 4 ⟨at', c1, y⟩) := (by unfold Pd.lbeg; simp only [HC1.out]; rw [if_neg hf0, if_pos h40] : Pd.lbeg f ⟨at', c, y⟩ = Pd.refu 4 ⟨at', c1, y⟩)
   go_wp2_with fail
   go_at_call 79
   refine (refuse_is g a cap b ⟨at', c1, y⟩ _ 4 w1 HR1.out rfl).mono ?_
   rintro e w2 ⟨rfl, hR2, hg2⟩
   have HR2 : Hid (Rdr w2 g a cap b (Pd.refu 4 ⟨at', c1, y⟩)) := hR2
   have HG2 : Hid (w.grownBy w2 (some g)) := (grown_tr HG1.out hg2 : World.grownBy _ _ _)
   clear hR2 hg2
   go_wp2_with fail
   refine bodyPost_end (results_none Tryz.results72 _ _ _) rfl ?_
   exact ⟨rfl, by rw [HB.out]; exact HR2.out, HG2.out⟩
  ·have hci : ¬ (40 : Int) < (c1 : Int) := by omega
   have HB : Hid (Pd.lbeg f ⟨at', c, y⟩ = ⟨at', c1, y⟩) := (by unfold Pd.lbeg; simp only [HC1.out]; rw [if_neg hf0, if_neg h40] : Pd.lbeg f ⟨at', c, y⟩ = ⟨at', c1, y⟩)
   go_wp2_with fail
   refine bodyPost_end (results_none Tryz.results72 _ _ _) rfl ?_
   exact ⟨rfl, by rw [HB.out]; exact HR1.out, HG1.out⟩
theorem Pd.lnum_lt (b : List UInt8) (s : RS) : (Pd.lnum b s).1 < 18446744073709551616 := by
 unfold Pd.lnum
 split
 ·exact (M.get_all b s.at').1
 ·simp
set_option maxHeartbeats 1000000 in
theorem signed_is (g : Nat) (a : Option Addr) (cap : Nat) (b : List UInt8) (s : RS) (w : World) (h : Rdr w g a cap b s) :
  Calls Tryz.prog 77 #[.pointer (some ⟨g, 0, none⟩)] w fun x w' => x = .returned (.int .i64 (M.zag ((Pd.lnum b s).1 : Int))) ∧ Rdr w' g a cap b (Pd.lnum b s).2 ∧ w.grownBy w' (some g) := by
 have hn := number_is g a cap b s w h
 have hlt := Pd.lnum_lt b s
 obtain ⟨⟨V, s1⟩, hV⟩ : ∃ x, Pd.lnum b s = x := ⟨_, rfl⟩
 rw [hV] at hn hlt ⊢
 simp only at hn hlt ⊢
 have HN : Hid _ := hn
 obtain ⟨Z, hZ⟩ : ∃ Z, M.zag (V : Int) = Z := ⟨_, rfl⟩
 have HZ : Hid (M.zag (V : Int) = Z) := hZ
 rw [hZ]
 clear hn h hV hZ
 go_enter Tryz.func77, Tryz.ntmps77
 go_wp2_with fail
 go_at_call 73
 refine Calls.mono HN.out ?_
 rintro e w1 ⟨rfl, hR1, hg1⟩
 have HR1 : Hid (Rdr w1 g a cap b s1) := hR1
 have HG1 : Hid (w.grownBy w1 (some g)) := hg1
 clear hR1 hg1 HN
 go_wp2_with fail
 go_at_call 105
 refine (zag_is (V : Int) Z w1 (by omega) (by omega) HZ.out).mono ?_
 rintro e w2 ⟨rfl, hw⟩
 replace hw := hw.symm
 subst hw
 go_wp2_with fail
 go_ret
 exact ⟨rfl, HR1.out, HG1.out⟩
theorem wi64r (n : Int) (h1 : -9223372036854775808 ≤ n) (h2 : n ≤ 9223372036854775807) : IntKind.i64.wrap n = n := by
 simp only [IntKind.wrap, IntKind.bits, IntKind.signed]
 simp
 omega
set_option maxHeartbeats 1000000 in
theorem count_is (g : Nat) (a : Option Addr) (cap : Nat) (b : List UInt8) (s : RS) (M' : Int) (m : Nat) (w : World) (h : Rdr w g a cap b s) (hM : M' = m) (hm : m ≤ 1000) :
  Calls Tryz.prog 75 #[.pointer (some ⟨g, 0, none⟩), .int .u64 M'] w fun x w' => x = .returned (.int .i64 ((Pd.lcnt b m s).1 : Int)) ∧ Rdr w' g a cap b (Pd.lcnt b m s).2 ∧ w.grownBy w' (some g) := by
 subst hM
 have hn := number_is g a cap b s w h
 have hlt := Pd.lnum_lt b s
 obtain ⟨⟨V, s1⟩, hV⟩ : ∃ x, Pd.lnum b s = x := ⟨_, rfl⟩
 have hL : Pd.lcnt b m s = if m < V then (0, Pd.refu 4 s1) else (V, s1) := by unfold Pd.lcnt; rw [hV]
 obtain ⟨⟨C, s3⟩, hC⟩ : ∃ x, Pd.lcnt b m s = x := ⟨_, rfl⟩
 rw [hC] at hL ⊢
 simp only
 have HL : Hid ((C, s3) = if m < V then (0, Pd.refu 4 s1) else (V, s1)) := hL
 rw [hV] at hn hlt
 simp only at hn hlt
 have HN : Hid _ := hn
 clear hn h hV hL hC
 go_enter Tryz.func75, Tryz.ntmps75
 go_wp2_with fail
 go_at_call 73
 refine Calls.mono HN.out ?_
 rintro e w1 ⟨rfl, hR1, hg1⟩
 have HR1 : Hid (Rdr w1 g a cap b s1) := hR1
 have HG1 : Hid (w.grownBy w1 (some g)) := hg1
 clear hR1 hg1 HN
 by_cases hlt2 : m < V
 ·have hL := HL.out
  rw [if_pos hlt2] at hL
  simp only [Prod.mk.injEq] at hL
  obtain ⟨rfl, rfl⟩ := hL
  clear HL
  have hti : (m : Int) < (V : Int) := by omega
  go_wp2_with fail
  go_at_call 79
  refine (refuse_is g a cap b s1 _ 4 w1 HR1.out rfl).mono ?_
  rintro e w2 ⟨rfl, hR2, hg2⟩
  have HR2 : Hid (Rdr w2 g a cap b (Pd.refu 4 s1)) := hR2
  have HG2 : Hid (w.grownBy w2 (some g)) := (grown_tr HG1.out hg2 : World.grownBy _ _ _)
  clear hR2 hg2
  go_wp2_with fail
  go_ret
  exact ⟨rfl, HR2.out, HG2.out⟩
 ·have hL := HL.out
  rw [if_neg hlt2] at hL
  simp only [Prod.mk.injEq] at hL
  obtain ⟨hL1, hL2⟩ := hL
  subst hL1 hL2
  clear HL
  have hti : ¬ (m : Int) < (C : Int) := by omega
  have hw : IntKind.i64.wrap (C : Int) = (C : Int) := wi64r _ (by omega) (by omega)
  go_wp2_with fail
  go_ret
  exact ⟨rfl, HR1.out, HG1.out⟩
theorem OwnR.far' {e : TypeId} {enc : List UInt8 → Value} {w w' : World} {base : Nat} {v : Value} {l : List (List UInt8)} {row : Option Nat} (h : OwnR e enc w base v l) (hg : w.grownBy w' row) (hne : ∀ q, v.ownBlock = some q → row ≠ some q) : OwnR e enc w' base v l := by
 obtain ⟨h1, h2⟩ := h
 refine ⟨h1, ?_⟩
 rcases h2 with h2 | ⟨g, cap, cur, hv, hb, hg2, r⟩
 ·exact .inl h2
 ·refine .inr ⟨g, cap, cur, hv, hb, ?_, r⟩
  rw [hg.block g (Array.getElem?_eq_some_iff.1 hg2).1 (fun e => hne g (by rw [hv]; rfl) e.symm)]
  exact hg2
theorem Rdr.lt {w : World} {g : Nat} {a : Option Addr} {cap : Nat} {b : List UInt8} {s : RS} (h : Rdr w g a cap b s) : 0 < b.length → ∀ q off, a = some ⟨q, off, none⟩ → q < w.heap.size := by
 intro h0 q off e
 obtain ⟨q', off', e', hc⟩ := h.2.1.2.2.2 0 h0
 rw [e] at e'
 cases e'
 exact World.block_lt_of_cell? w _ hc
/-- A reader in a world in which a block has grown that is new. -/
theorem Rdr.new {w w1 w' : World} {g : Nat} {a : Option Addr} {cap : Nat} {b : List UInt8} {s0 s : RS} {row : Option Nat} (h0 : Rdr w g a cap b s0) (h : Rdr w1 g a cap b s) (hg : w1.grownBy w' row) (hr : ∀ j, row = some j → w.heap.size ≤ j) : Rdr w' g a cap b s :=
 h.far hg (fun e => by have := hr g e; have h2 := h0.1.lt; omega) (fun hp q off e e2 => by have h1 := hr q e2; have h2 := h0.lt hp q off e; omega)
theorem Pd.ltxts_len (b : List UInt8) (s : RS) : ∀ n, (Pd.ltxts b n s).1.length = n
 | 0 => rfl
 | n + 1 => by rw [Pd.ltxts, List.length_append, Pd.ltxts_len b s n]; rfl
set_option maxHeartbeats 4000000 in
set_option maxRecDepth 100000 in
theorem texts_is (g : Nat) (a : Option Addr) (cap : Nat) (b : List UInt8) (s : RS) (n : Nat) (w : World) (h : Rdr w g a cap b s) (hn : n ≤ 1000) :
  Calls Tryz.prog 78 #[.pointer (some ⟨g, 0, none⟩), .int .i64 (n : Int)] w fun x w' => ∃ a' c', x = .returned (.slice a' n c') ∧ Rd st w' a' c' (Pd.ltxts b n s).1 ∧ (∀ q off, a' = some ⟨q, off, none⟩ → w.heap.size ≤ q ∧ q < w'.heap.size) ∧ Rdr w' g a cap b (Pd.ltxts b n s).2 ∧ w.grownBy w' (some g) := by
 have H : Hid (Rdr w g a cap b s) := h
 have HLT : Hid (g < w.heap.size) := h.1.lt
 clear h
 go_enter Tryz.func78, Tryz.ntmps78
 go_wp2_with fail
 go_loopw [7, 5] (fun iv ov wr => ∃ i : Nat, i ≤ n ∧ iv = .int .i64 i ∧ Hid (OwnR 9 st wr w.heap.size ov (Pd.ltxts b i s).1) ∧ Hid (Rdr wr g a cap b (Pd.ltxts b i s).2) ∧ Hid (w.grownBy wr (some g))) (fun iv ov wr => n - (intOf iv).toNat)
 case atStart => exact ⟨0, by omega, rfl, (World.ownsRow_nil _ _ _ _ : OwnR 9 st w w.heap.size (.slice none 0 0) []), H, World.grownBy.refl _ _⟩
 case round =>
  obtain ⟨i, hi, rfl, HO, HR, HG⟩ := hrel
  by_cases hlt : i < n
  ·have hti : (i : Int) < (n : Int) := by omega
   have ht := text_is g a cap b (Pd.ltxts b i s).2 40 wr HR.out (by omega)
   obtain ⟨⟨t, s2⟩, hV⟩ : ∃ x, Pd.ltxt b 40 (Pd.ltxts b i s).2 = x := ⟨_, rfl⟩
   rw [hV] at ht
   simp only at ht
   have HNX : Hid (Pd.ltxts b (i + 1) s = ((Pd.ltxts b i s).1 ++ [t], s2)) := (by rw [Pd.ltxts, hV] : Pd.ltxts b (i + 1) s = ((Pd.ltxts b i s).1 ++ [t], s2))
   have HT : Hid _ := ht
   have HLL : Hid ((Pd.ltxts b i s).1.length = i) := Pd.ltxts_len b s i
   clear ht hV
   go_wp2_with fail
   go_at_call 76
   refine Calls.mono HT.out ?_
   rintro e w1 ⟨rfl, hR1, hg1⟩
   have HOB : Hid (∀ q, u5.ownBlock = some q → w.heap.size ≤ q ∧ q < wr.heap.size) := (fun q hq => World.ownsRow.lt HO.out q hq : ∀ q, u5.ownBlock = some q → w.heap.size ≤ q ∧ q < wr.heap.size)
   have HO1 : Hid (OwnR 9 st w1 w.heap.size u5 (Pd.ltxts b i s).1) := (HO.out.far' hg1 (fun q hq e => by have h1 := (HOB.out q hq).1; have h2 := HLT.out; simp at e; omega) : OwnR 9 st w1 w.heap.size u5 _)
   have HR1 : Hid (Rdr w1 g a cap b s2) := hR1
   have HG1 : Hid (w.grownBy w1 (some g)) := (grown_tr HG.out hg1 : World.grownBy _ _ _)
   have HX2 : Hid (Ex w1 (w1.alloc (.cells #[.string (str t)] 9))) := ((Below.refl _ _).alloc (Nat.le_refl _) _ : Ex w1 _)
   have HO2 : Hid (OwnR 9 st (w1.alloc (.cells #[.string (str t)] 9)) w.heap.size u5 (Pd.ltxts b i s).1) := (HO1.out.alloc _ : OwnR 9 st _ _ _ _)
   have HT2 : Hid (Rd st (w1.alloc (.cells #[.string (str t)] 9)) (some ⟨w1.heap.size, 0, none⟩) 1 [t]) := (Rd.laid w1 9 [t] (by simp) : Rd st _ _ _ _)
   have HSZ : Hid (w.heap.size ≤ (w1.alloc (.cells #[.string (str t)] 9)).heap.size) := (Nat.le_trans HG1.out.size HX2.out.size : w.heap.size ≤ _)
   have hstep : ∀ v9 w9, OwnR 9 st w9 w.heap.size v9 ((Pd.ltxts b i s).1 ++ [t]) → World.grownBy (w1.alloc (.cells #[.string (str t)] 9)) w9 u5.ownBlock → Hid (OwnR 9 st w9 w.heap.size v9 (Pd.ltxts b (i + 1) s).1) ∧ Hid (Rdr w9 g a cap b (Pd.ltxts b (i + 1) s).2) ∧ Hid (w.grownBy w9 (some g)) := by
    intro v9 w9 ho9 hg9
    refine ⟨by rw [HNX.out]; exact ho9, ?_, ?_⟩
    ·rw [HNX.out]
     exact Rdr.new H.out (HR1.out.below HX2.out) hg9 (fun j hj => (HOB.out j hj).1)
    ·exact grown_trN (grown_tr HG1.out (HX2.out.grownBy _)) hg9 (fun j hj => .inr (HOB.out j hj).1)
   clear hR1 hg1 HT
   go_wp2_with (at_builtin; refine wpList_append_rd_at (e := 9) (enc := st) rfl (.tmp 9) (.tmp 12) 30 rfl [] 16 Tryz.underlying30 Tryz.info9 rfl (fun _ => rfl) w.heap.size u5 (Pd.ltxts b i s).1 rfl HO2.out _ _ _ [t] rfl rfl HT2.out (by have := HLL.out; simp [maxLen]; omega) (by have := HLL.out; simp; omega) HSZ.out ?_; intro v9 w9 ho9 hg9 hat9; obtain ⟨HO9, HR9, HG9⟩ := hstep v9 w9 ho9 hg9; clear ho9 hg9 hat9)
   go_roundw
   case rel => exact ⟨i + 1, by omega, by go_num, HO9, HR9, HG9⟩
   case measure => simp [intOf]; omega
  ·have hti : ¬ (i : Int) < (n : Int) := by omega
   have hin : i = n := by omega
   subst hin
   obtain ⟨a9, c9, hv9, hr9⟩ := HO.out.rd
   rw [Pd.ltxts_len] at hv9
   subst hv9
   have HR9 : Hid (Rd st wr a9 c9 (Pd.ltxts b i s).1) := hr9
   have HB9 : Hid (∀ q off, a9 = some ⟨q, off, none⟩ → w.heap.size ≤ q ∧ q < wr.heap.size) := (fun q off e => World.ownsRow.lt HO.out q (by rw [e]; rfl) : ∀ q off, a9 = some ⟨q, off, none⟩ → w.heap.size ≤ q ∧ q < wr.heap.size)
   clear hr9 HO
   go_wp2_with fail
   go_ret
   exact ⟨_, _, rfl, HR9.out, HB9.out, HR.out, HG.out⟩
end Go.Proofs.YtbdjccmlgdfapaaGreat
