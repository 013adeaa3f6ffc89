/-
  Plain: the landed reading of a column, which goes on behind its first refusal, and what it tells of bytes. No program here.
-/
import Derived.Test.YtnmonoafjijfhaaGreatM13
namespace Go.Proofs.YtnmonoafjijfhaaGreat
set_option linter.unusedVariables false
set_option linter.unusedSimpArgs false
/-- Where a reading is, why it is refused. -/
structure CS where
  at' : Int
  y : Nat
namespace Ck
def refu (e : Nat) (s : CS) : CS := if s.y = 0 then ⟨s.at', e⟩ else s
def lnum (b : List UInt8) (s : CS) : Nat × CS := if s.y = 0 then ((M.get b s.at').1, ⟨(M.get b s.at').2.1, (M.get b s.at').2.2⟩) else (0, s)
def ltxt (b : List UInt8) (s : CS) : List UInt8 × CS := if s.y = 0 then ((M.getText b s.at' 40).1, ⟨(M.getText b s.at' 40).2.1, (M.getText b s.at' 40).2.2⟩) else ([], s)
def lcnt (b : List UInt8) (s : CS) : Nat × CS := if 65536 < (lnum b s).1 then (0, refu 4 (lnum b s).2) else lnum b s
def lruns (b : List UInt8) (n : Nat) (wd : Int) (s : CS) : List Nat × CS := if s.y = 0 then ((R.dec b s.at' n wd).1, ⟨(R.dec b s.at' n wd).2.1, (R.dec b s.at' n wd).2.2⟩) else ([], s)
def ldict (b : List UInt8) (s : CS) : List (List UInt8) × CS := if s.y = 0 then ((T.dec b s.at').1, ⟨(T.dec b s.at').2.1, (T.dec b s.at').2.2⟩) else ([], s)
def lints (b : List UInt8) : Nat → List Ce → CS → List Ce × CS
  | 0, o, s => (o, s)
  | f + 1, o, s => if s.y ≠ 0 then (o, s) else lints b f (o ++ [ic (lnum b s).1]) (lnum b s).2
def ltexts (b : List UInt8) : Nat → List Ce → CS → List Ce × CS
  | 0, o, s => (o, s)
  | f + 1, o, s => if s.y ≠ 0 then (o, s) else ltexts b f (o ++ [tc (ltxt b s).1]) (ltxt b s).2
def lplaces (b : List UInt8) (n m : Nat) (s : CS) : List Nat × CS :=
  if (lruns b n (dw m : Nat) s).1.all (fun p => decide (p < m)) = true then lruns b n (dw m : Nat) s else ([], refu 12 (lruns b n (dw m : Nat) s).2)
/-- What a reading of a column has come to. -/
structure LR where
  f : Nat
  ma : List Nat
  words : List Ce
  pl : List Nat
  s : CS
def lvals (b : List UInt8) (F : Nat) (mk : List Nat) (s : CS) : LR :=
  if F = 1 then ⟨F, mk, (lints b (nought mk) [] s).1, List.range (nought mk), (lints b (nought mk) [] s).2⟩
  else if F = 2 then ⟨F, mk, (ldict b s).1.map tc, (lplaces b (nought mk) (ldict b s).1.length (ldict b s).2).1, (lplaces b (nought mk) (ldict b s).1.length (ldict b s).2).2⟩
  else if F = 3 then ⟨F, mk, (ltexts b (nought mk) [] s).1, List.range (nought mk), (ltexts b (nought mk) [] s).2⟩
  else ⟨F, mk, [], [], refu 12 s⟩
def lread (b : List UInt8) : LR :=
  lvals b (lnum b ⟨0, 0⟩).1 (lruns b (lcnt b (lnum b ⟨0, 0⟩).2).1 1 (lcnt b (lnum b ⟨0, 0⟩).2).2).1 (lruns b (lcnt b (lnum b ⟨0, 0⟩).2).1 1 (lcnt b (lnum b ⟨0, 0⟩).2).2).2
theorem refu_y {e : Nat} {s : CS} (h : s.y ≠ 0) : refu e s = s := if_neg h
theorem lnum_y {b : List UInt8} {s : CS} (h : s.y ≠ 0) : lnum b s = (0, s) := if_neg h
theorem lcnt_y {b : List UInt8} {s : CS} (h : s.y ≠ 0) : lcnt b s = (0, s) := by
  unfold lcnt
  rw [lnum_y h, if_neg (by simp)]
theorem lruns_y {b : List UInt8} {n : Nat} {wd : Int} {s : CS} (h : s.y ≠ 0) : lruns b n wd s = ([], s) := if_neg h
theorem ldict_y {b : List UInt8} {s : CS} (h : s.y ≠ 0) : ldict b s = ([], s) := if_neg h
theorem lints_y {b : List UInt8} {s : CS} (h : s.y ≠ 0) : ∀ n o, lints b n o s = (o, s)
  | 0, o => rfl
  | n + 1, o => by rw [lints, if_pos h]
theorem ltexts_y {b : List UInt8} {s : CS} (h : s.y ≠ 0) : ∀ n o, ltexts b n o s = (o, s)
  | 0, o => rfl
  | n + 1, o => by rw [ltexts, if_pos h]
theorem lplaces_y {b : List UInt8} {n m : Nat} {s : CS} (h : s.y ≠ 0) : (lplaces b n m s).2 = s := by
  unfold lplaces
  rw [lruns_y h, if_pos (by simp)]
theorem lnum_0 (b : List UInt8) (k : Int) : lnum b ⟨k, 0⟩ = ((M.get b k).1, ⟨(M.get b k).2.1, (M.get b k).2.2⟩) := if_pos rfl
theorem ltxt_0 (b : List UInt8) (k : Int) : ltxt b ⟨k, 0⟩ = ((M.getText b k 40).1, ⟨(M.getText b k 40).2.1, (M.getText b k 40).2.2⟩) := if_pos rfl
theorem lruns_0 (b : List UInt8) (n : Nat) (wd k : Int) : lruns b n wd ⟨k, 0⟩ = ((R.dec b k n wd).1, ⟨(R.dec b k n wd).2.1, (R.dec b k n wd).2.2⟩) := if_pos rfl
theorem ldict_0 (b : List UInt8) (k : Int) : ldict b ⟨k, 0⟩ = ((T.dec b k).1, ⟨(T.dec b k).2.1, (T.dec b k).2.2⟩) := if_pos rfl
theorem lnum_lt (b : List UInt8) (s : CS) : (lnum b s).1 < 18446744073709551616 := by
  unfold lnum
  split
  · exact (M.get_all b s.at').1
  · simp
theorem lcnt_le (b : List UInt8) (s : CS) : (lcnt b s).1 ≤ 65536 := by
  unfold lcnt
  split
  · simp
  · omega
theorem lints_rd {b : List UInt8} : ∀ (n k : Nat) (o : List Ce), ((rdI b n k o).2.2 ≠ 0 → (lints b n o ⟨k, 0⟩).2.y ≠ 0) ∧ ((rdI b n k o).2.2 = 0 → lints b n o ⟨k, 0⟩ = ((rdI b n k o).1, ⟨((rdI b n k o).2.1 : Nat), 0⟩))
  | 0, k, o => by simp [rdI, lints]
  | n + 1, k, o => by
    have hs : lints b (n + 1) o ⟨k, 0⟩ = lints b n (o ++ [ic (M.get b k).1]) ⟨(M.get b k).2.1, (M.get b k).2.2⟩ := by rw [lints, if_neg (by simp), lnum_0]
    rw [hs, rdI]
    by_cases e : (M.get b k).2.2 = 0
    · rw [if_neg (by simpa using e), e]
      exact lints_rd n (M.get b k).2.1 (o ++ [ic (M.get b k).1])
    · rw [if_pos e, lints_y (by exact e)]
      exact ⟨fun _ => e, fun h => absurd h e⟩
theorem ltexts_rd {b : List UInt8} : ∀ (n k : Nat) (o : List (List UInt8)), ((T.rd b n k o).2.2 ≠ 0 → (ltexts b n (o.map tc) ⟨k, 0⟩).2.y ≠ 0) ∧ ((T.rd b n k o).2.2 = 0 → ltexts b n (o.map tc) ⟨k, 0⟩ = ((T.rd b n k o).1.map tc, ⟨((T.rd b n k o).2.1 : Nat), 0⟩))
  | 0, k, o => by simp [T.rd, ltexts]
  | n + 1, k, o => by
    have hs : ltexts b (n + 1) (o.map tc) ⟨k, 0⟩ = ltexts b n (o.map tc ++ [tc (M.getText b k 40).1]) ⟨(M.getText b k 40).2.1, (M.getText b k 40).2.2⟩ := by rw [ltexts, if_neg (by simp), ltxt_0]
    rw [hs, T.rd]
    have em : o.map tc ++ [tc (M.getText b k 40).1] = (o ++ [(M.getText b k 40).1]).map tc := by simp
    by_cases e : (M.getText b k 40).2.2 = 0
    · rw [if_neg (by simpa using e), e, em]
      exact ltexts_rd n (M.getText b k 40).2.1 (o ++ [(M.getText b k 40).1])
    · rw [if_pos e, ltexts_y (by exact e)]
      exact ⟨fun _ => e, fun h => absurd h e⟩
theorem rdI_len {b : List UInt8} : ∀ (n k : Nat) (o : List Ce), (rdI b n k o).2.2 = 0 → (rdI b n k o).1.length = o.length + n
  | 0, k, o, _ => by simp [rdI]
  | n + 1, k, o, h => by
    rw [rdI] at h ⊢
    by_cases e : (M.get b k).2.2 = 0
    · rw [if_neg (by simpa using e)] at h ⊢
      rw [rdI_len n _ _ h]
      simp; omega
    · rw [if_pos e] at h; exact absurd h e
theorem trd_len {b : List UInt8} : ∀ (n k : Nat) (o : List (List UInt8)), (T.rd b n k o).2.2 = 0 → (T.rd b n k o).1.length = o.length + n
  | 0, k, o, _ => by simp [T.rd]
  | n + 1, k, o, h => by
    rw [T.rd] at h ⊢
    by_cases e : (M.getText b k 40).2.2 = 0
    · rw [if_neg (by simpa using e)] at h ⊢
      rw [trd_len n _ _ h]
      simp; omega
    · rw [if_pos e] at h; exact absurd h e
theorem range_get (l : List Ce) (n : Nat) (h : l.length = n) : (List.range n).map (fun p => l.getD p Rw.none_) = l := by
  subst h
  apply List.ext_getElem
  · simp
  · intro i h1 h2
    simp [h2]
theorem nought_le (z : List Nat) : nought z ≤ z.length := List.countP_le_length
/-- What the landed reading comes to, by what stands in the bytes. -/
theorem lread_is (b : List UInt8) : ((lread b).s.y ≠ 0 → parse b = none) ∧ ((lread b).s.y = 0 → ∃ d, parse b = some ((lread b).f, (lread b).ma, d, (lread b).pl.map fun p => (lread b).words.getD p Rw.none_) ∧
    ((lread b).f = 2 → (lread b).words = d.map tc) ∧ ((lread b).f ≠ 2 → d = []) ∧ (lread b).pl.length = nought (lread b).ma ∧ (∀ p ∈ (lread b).pl, p < (lread b).words.length) ∧ 1 ≤ (lread b).f ∧ (lread b).f ≤ 3 ∧ (lread b).ma.length ≤ 65536 ∧ (lread b).words.length ≤ 65536) := by
  unfold lread parse
  rw [lnum_0]
  simp only
  obtain ⟨⟨F, k1, e1⟩, h1⟩ : ∃ x, M.get b 0 = x := ⟨_, rfl⟩
  rw [h1]
  simp only
  by_cases y1 : e1 = 0
  rotate_left
  · have hs : (⟨(k1 : Nat), e1⟩ : CS).y ≠ 0 := y1
    rw [if_pos y1, lcnt_y hs, lruns_y hs]
    simp only
    have : (lvals b F [] ⟨(k1 : Nat), e1⟩).s.y = e1 := by
      unfold lvals
      split
      · simp only [lints_y hs]
      split
      · simp only [ldict_y hs, lplaces_y hs]
      split
      · simp only [ltexts_y hs]
      · simp only [refu_y hs]
    rw [this]
    exact ⟨fun _ => by trivial, fun h => absurd h y1⟩
  subst y1
  rw [if_neg (by simp)]
  obtain ⟨⟨N, k2, e2⟩, h2⟩ : ∃ x, M.get b (k1 : Nat) = x := ⟨_, rfl⟩
  have hl : lcnt b ⟨(k1 : Nat), 0⟩ = if 65536 < N then (0, refu 4 ⟨(k2 : Nat), e2⟩) else (N, ⟨(k2 : Nat), e2⟩) := by
    unfold lcnt
    rw [lnum_0, h2]
  have hno : ∀ (s : CS) (mk : List Nat), s.y ≠ 0 → (lvals b F mk s).s.y ≠ 0 := by
    intro s mk hs
    unfold lvals
    split
    · simp only [lints_y hs]; exact hs
    split
    · simp only [ldict_y hs, lplaces_y hs]; exact hs
    split
    · simp only [ltexts_y hs]; exact hs
    · simp only [refu_y hs]; exact hs
  have hF0 : ∀ (s : CS) (mk : List Nat), (F < 1 ∨ 3 < F) → (lvals b F mk s).s.y ≠ 0 := by
    intro s mk hf
    unfold lvals
    rw [if_neg (by omega), if_neg (by omega), if_neg (by omega)]
    simp only [refu]
    split
    · simp
    · assumption
  rw [h2]
  simp only
  by_cases hF : F < 1 ∨ 3 < F
  · rw [if_pos hF]
    exact ⟨fun _ => rfl, fun h => absurd h (hF0 _ _ hF)⟩
  rw [if_neg hF]
  by_cases y2 : e2 = 0
  rotate_left
  · have hs : (lcnt b ⟨(k1 : Nat), 0⟩).2.y ≠ 0 := by
      rw [hl]
      split
      · rw [refu_y (by exact y2)]; exact y2
      · exact y2
    rw [if_pos y2, lruns_y hs]
    exact ⟨fun _ => rfl, fun h => absurd h (hno _ _ hs)⟩
  subst y2
  rw [if_neg (by simp)]
  by_cases hN : 65536 < N
  · have hs : (lcnt b ⟨(k1 : Nat), 0⟩).2.y ≠ 0 := by
      rw [hl, if_pos hN]; simp [refu]
    rw [if_pos hN, lruns_y hs]
    exact ⟨fun _ => rfl, fun h => absurd h (hno _ _ hs)⟩
  rw [if_neg hN, hl, if_neg hN]
  simp only
  rw [lruns_0]
  obtain ⟨⟨mk, k3, e3⟩, h3⟩ : ∃ x, R.dec b (k2 : Nat) (N : Nat) 1 = x := ⟨_, rfl⟩
  rw [h3]
  simp only
  by_cases y3 : e3 = 0
  rotate_left
  · rw [if_pos y3]
    exact ⟨fun _ => rfl, fun h => absurd h (hno _ _ y3)⟩
  subst y3
  rw [if_neg (by simp)]
  have hmk : mk.length = N := by have := (R.dec_ok h3).2.2.2.2.2.2.1; simpa using this
  have hnm := nought_le mk
  obtain ⟨n, hn⟩ : ∃ n, nought mk = n := ⟨_, rfl⟩
  rw [hn] at hnm
  by_cases f1 : F = 1
  · subst f1
    have hv : lvals b 1 mk ⟨(k3 : Nat), 0⟩ = ⟨1, mk, (lints b n [] ⟨(k3 : Nat), 0⟩).1, List.range n, (lints b n [] ⟨(k3 : Nat), 0⟩).2⟩ := by unfold lvals; rw [if_pos rfl, hn]
    rw [hv, hn, if_pos rfl]
    simp only
    obtain ⟨r1, r2⟩ := lints_rd (b := b) n k3 []
    by_cases e : (rdI b n k3 []).2.2 = 0
    · have hlen := rdI_len n k3 [] e
      simp only [List.length_nil, Nat.zero_add] at hlen
      rw [if_neg (by simpa using e), r2 e]
      simp only
      refine ⟨fun h => absurd rfl h, fun _ => ⟨[], ?_, fun h => absurd h (by decide), fun _ => rfl, by simp, ?_, by omega, by omega, by omega, by omega⟩⟩
      · rw [range_get _ _ hlen]
      · intro p hp
        rw [hlen]
        simpa using hp
    · rw [if_pos e]
      exact ⟨fun _ => rfl, fun h => absurd h (r1 e)⟩
  by_cases f2 : F = 2
  · subst f2
    have hv : lvals b 2 mk ⟨(k3 : Nat), 0⟩ = ⟨2, mk, (ldict b ⟨(k3 : Nat), 0⟩).1.map tc, (lplaces b n (ldict b ⟨(k3 : Nat), 0⟩).1.length (ldict b ⟨(k3 : Nat), 0⟩).2).1, (lplaces b n (ldict b ⟨(k3 : Nat), 0⟩).1.length (ldict b ⟨(k3 : Nat), 0⟩).2).2⟩ := by unfold lvals; rw [if_neg (by decide), if_pos rfl, hn]
    rw [hv, hn, if_neg (by decide), if_pos rfl, ldict_0]
    simp only
    obtain ⟨⟨d, k4, e4⟩, h4⟩ : ∃ x, T.dec b (k3 : Nat) = x := ⟨_, rfl⟩
    rw [h4]
    simp only
    by_cases y4 : e4 = 0
    rotate_left
    · rw [if_pos y4, lplaces_y (by exact y4)]
      exact ⟨fun _ => rfl, fun h => absurd h y4⟩
    subst y4
    rw [if_neg (by simp)]
    unfold lplaces
    rw [lruns_0]
    obtain ⟨⟨p, k5, e5⟩, h5⟩ : ∃ x, R.dec b (k4 : Nat) (n : Nat) (dw d.length : Nat) = x := ⟨_, rfl⟩
    rw [h5]
    simp only
    by_cases y5 : e5 = 0
    rotate_left
    · have hb := R.dec_bad h5 y5
      rw [if_pos y5, hb.1, if_pos (by simp)]
      exact ⟨fun _ => rfl, fun h => absurd h y5⟩
    subst y5
    rw [if_neg (show ¬ ((0 : Nat) ≠ 0) from fun h => h rfl)]
    have hpl : p.length = n := by have := (R.dec_ok h5).2.2.2.2.2.2.1; simpa using this
    have hd16 : d.length ≤ 16 := ((T.fits_iff d).1 ((T.dec_all h4).1 rfl).1).2.1
    by_cases ha : p.all (fun q => decide (q < d.length)) = true
    · rw [if_pos ha, if_pos ha]
      simp only
      have hp : ∀ q ∈ p, q < d.length := by
        intro q hq
        simpa using List.all_eq_true.1 ha q hq
      refine ⟨fun h => absurd rfl h, fun _ => ⟨d, ?_, fun _ => rfl, fun h => absurd rfl h, hpl, fun q hq => by rw [List.length_map]; exact hp q hq, by omega, by omega, by omega, by rw [List.length_map]; omega⟩⟩
      congr 4
      refine List.map_congr_left fun q hq => ?_
      have := hp q hq
      simp [List.getD_eq_getElem?_getD, this]
    · rw [if_neg ha, if_neg ha]
      refine ⟨fun _ => rfl, fun h => ?_⟩
      simp [refu] at h
  · have f3 : F = 3 := by omega
    subst f3
    have hv : lvals b 3 mk ⟨(k3 : Nat), 0⟩ = ⟨3, mk, (ltexts b n [] ⟨(k3 : Nat), 0⟩).1, List.range n, (ltexts b n [] ⟨(k3 : Nat), 0⟩).2⟩ := by unfold lvals; rw [if_neg (by decide), if_neg (by decide), if_pos rfl, hn]
    rw [hv, hn, if_neg (by decide), if_neg (by decide)]
    simp only
    obtain ⟨r1, r2⟩ := ltexts_rd (b := b) n k3 []
    simp only [List.map_nil] at r1 r2
    by_cases e : (T.rd b n k3 []).2.2 = 0
    · have hlen := trd_len n k3 [] e
      simp only [List.length_nil, Nat.zero_add] at hlen
      rw [if_neg (by simpa using e), r2 e]
      simp only
      refine ⟨fun h => absurd rfl h, fun _ => ⟨[], ?_, fun h => absurd h (by decide), fun _ => rfl, by simp, ?_, by omega, by omega, by omega, by rw [List.length_map]; omega⟩⟩
      · rw [range_get _ _ (by rw [List.length_map]; exact hlen)]
      · intro p hp
        rw [List.length_map, hlen]
        simpa using hp
    · rw [if_pos e]
      exact ⟨fun _ => rfl, fun h => absurd h (r1 e)⟩
/-- Each row's place among the words: those of marks of 0 in their order, the others none. -/
def sprd : List Nat → List Nat → Nat → List Nat
  | [], _, _ => []
  | m :: z, ps, q => if m = 0 then ps.headD 0 :: sprd z ps.tail q else q :: sprd z ps q
theorem sprd_len (q : Nat) : ∀ (z ps : List Nat), (sprd z ps q).length = z.length
  | [], _ => rfl
  | m :: z, ps => by rw [sprd]; split <;> simp [sprd_len q z]
theorem sprd_lt {q m : Nat} (hq : q < m) : ∀ (z ps : List Nat), (∀ p ∈ ps, p < m) → ∀ p ∈ sprd z ps q, p < m
  | [], _, _, p, hp => by simp [sprd] at hp
  | x :: z, ps, h, p, hp => by
    rw [sprd] at hp
    split at hp
    · rcases List.mem_cons.1 hp with rfl | hp
      · cases ps with
        | nil => simp only [List.headD_nil]; omega
        | cons y r => exact h y (by simp)
      · exact sprd_lt hq z ps.tail (fun y hy => h y (List.mem_of_mem_tail hy)) p hp
    · rcases List.mem_cons.1 hp with rfl | hp
      · exact hq
      · exact sprd_lt hq z ps h p hp
/-- The cells are those at the places. -/
theorem spr_sprd (W : List Ce) : ∀ (z ps : List Nat), (∀ p ∈ ps, p < W.length) → nought z ≤ ps.length → (sprd z ps W.length).map (fun p => (W ++ [Rw.none_]).getD p Rw.none_) = spr z (ps.map fun p => W.getD p Rw.none_)
  | [], _, _, _ => rfl
  | x :: z, ps, h, hn => by
    rw [sprd, spr]
    by_cases hx : x = 0
    · subst hx
      rw [if_pos rfl, if_pos rfl]
      have hn1 : nought (0 :: z) = nought z + 1 := by simp [nought]
      cases ps with
      | nil => rw [hn1] at hn; simp at hn
      | cons y r =>
        have hy := h y (by simp)
        simp only [List.headD_cons, List.tail_cons, List.map_cons]
        rw [spr_sprd W z r (fun p hp => h p (by simp [hp])) (by rw [hn1] at hn; simpa using hn)]
        simp [List.getD_eq_getElem?_getD, List.getElem?_append_left hy]
    · have hn1 : nought (x :: z) = nought z := by simp [nought, hx]
      rw [if_neg hx, if_neg hx, List.map_cons, spr_sprd W z ps h (by rw [← hn1]; exact hn)]
      simp [List.getD_eq_getElem?_getD]
end Ck
end Go.Proofs.YtnmonoafjijfhaaGreat
