/-
  Plain facts on the bytes of a column: what is written for cells, what is read of bytes, there and back. No program here.
-/
import Derived.Test.YtnmonoafjijfhaaGreatM10
import Derived.Test.YtnmonoafjijfhaaGreatM12
namespace Go.Proofs.YtnmonoafjijfhaaGreat
set_option linter.unusedVariables false
set_option linter.unusedSimpArgs false
namespace Ck
/-- Cells of numbers, of texts. -/
def ic (v : Nat) : Ce := ⟨[], 1, M.zag (v : Int), []⟩
def tc (s : List UInt8) : Ce := ⟨[], 2, 0, s⟩
/-- A cell as a column keeps it. -/
def cz (c : Ce) : Ce := if c.k = 0 then Rw.none_ else if c.k = 1 then ⟨[], 1, c.n, []⟩ else ⟨[], 2, 0, c.s⟩
def fits (kind : Int) (c : Ce) : Bool := !(decide (c.k ≠ 0) && decide (c.k ≠ kind) || decide (c.k = 2) && decide (40 < c.s.length))
def mark (c : Ce) : Nat := if c.k = 0 then 1 else 0
def marks (l : List Ce) : List Nat := l.map mark
def vals (l : List Ce) : List Ce := l.filter fun c => decide (c.k ≠ 0)
def txts (l : List Ce) : List (List UInt8) := (vals l).map Ce.s
def nums (l : List Ce) : List Int := (vals l).map Ce.n
def pl (tx : List (List UInt8)) : List Nat := tx.map (T.place (T.bld tx))
def bI (ns : List Int) : List UInt8 := ns.flatMap fun n => M.digs (M.zig n).toNat
def bL (tx : List (List UInt8)) : List UInt8 := T.enc (T.bld tx) ++ R.enc (B.width (pl tx)) (pl tx)
def form (kind : Int) (l : List Ce) : Nat := if kind = 1 then 1 else if (T.bld (txts l)).length ≤ 16 then 2 else 3
def body (f : Nat) (l : List Ce) : List UInt8 := if f = 1 then bI (nums l) else if f = 2 then bL (txts l) else T.texts (txts l)
def hd (f : Nat) (l : List Ce) : List UInt8 := M.digs f ++ M.digs l.length ++ R.enc 1 (marks l)
def enc (kind : Int) (l : List Ce) : List UInt8 := hd (form kind l) l ++ body (form kind l) l
def encE (kind : Int) (l : List Ce) : List UInt8 × Nat := if kind ≠ 1 ∧ kind ≠ 2 then ([], 22) else if 65536 < l.length then ([], 4) else if l.all (fits kind) = true then (enc kind l, 0) else ([], 1)
/-- How many noughts. -/
def nought (z : List Nat) : Nat := z.countP (fun m => decide (m = 0))
def rdI (b : List UInt8) : Nat → Nat → List Ce → List Ce × Nat × Nat
  | 0, k, o => (o, k, 0)
  | n + 1, k, o => if (M.get b k).2.2 ≠ 0 then ([], 0, (M.get b k).2.2) else rdI b n (M.get b k).2.1 (o ++ [ic (M.get b k).1])
/-- The width of a dictionary's places. -/
def dw (n : Nat) : Nat := B.wid (n - 1)
/-- What stands in bytes: the form, the marks, the dictionary, the cells that are not null. -/
def parse (b : List UInt8) : Option (Nat × List Nat × List (List UInt8) × List Ce) :=
  if (M.get b 0).2.2 ≠ 0 then none else
  if (M.get b 0).1 < 1 ∨ 3 < (M.get b 0).1 then none else
  if (M.get b ((M.get b 0).2.1 : Nat)).2.2 ≠ 0 then none else
  if 65536 < (M.get b ((M.get b 0).2.1 : Nat)).1 then none else
  match R.dec b ((M.get b ((M.get b 0).2.1 : Nat)).2.1 : Nat) ((M.get b ((M.get b 0).2.1 : Nat)).1 : Nat) 1 with
  | (mk, k, e) =>
    if e ≠ 0 then none else
    if (M.get b 0).1 = 1 then
      if (rdI b (nought mk) k []).2.2 ≠ 0 then none else some (1, mk, [], (rdI b (nought mk) k []).1)
    else if (M.get b 0).1 = 2 then
      if (T.dec b (k : Nat)).2.2 ≠ 0 then none else
      if (R.dec b ((T.dec b (k : Nat)).2.1 : Nat) (nought mk : Nat) (dw (T.dec b (k : Nat)).1.length : Nat)).2.2 ≠ 0 then none else
      if (R.dec b ((T.dec b (k : Nat)).2.1 : Nat) (nought mk : Nat) (dw (T.dec b (k : Nat)).1.length : Nat)).1.all (fun p => decide (p < (T.dec b (k : Nat)).1.length)) = true then
        some (2, mk, (T.dec b (k : Nat)).1, (R.dec b ((T.dec b (k : Nat)).2.1 : Nat) (nought mk : Nat) (dw (T.dec b (k : Nat)).1.length : Nat)).1.map fun p => tc ((T.dec b (k : Nat)).1.getD p []))
      else none
    else
      if (T.rd b (nought mk) k []).2.2 ≠ 0 then none else some (3, mk, [], (T.rd b (nought mk) k []).1.map tc)
/-- The cells of marks and of what is not null. -/
def spr : List Nat → List Ce → List Ce
  | [], _ => []
  | m :: z, vs => if m = 0 then vs.headD Rw.none_ :: spr z vs.tail else Rw.none_ :: spr z vs
def kindOf (f : Nat) : Int := if f = 1 then 1 else 2
/-- The column whose bytes these are. -/
def opn (b : List UInt8) : Option (Int × List Ce × List (List UInt8)) :=
  match parse b with
  | none => none
  | some (f, mk, d, vs) => if encE (kindOf f) (spr mk vs) = (b, 0) then some (kindOf f, spr mk vs, d) else none
theorem marks_len (l : List Ce) : (marks l).length = l.length := by simp [marks]
theorem marks_le (l : List Ce) : B.width (marks l) ≤ 1 := by
  rw [B.width_le]
  intro x hx
  simp only [marks, List.mem_map] at hx
  obtain ⟨c, _, rfl⟩ := hx
  unfold mark
  split <;> decide
theorem nought_marks (l : List Ce) : nought (marks l) = (vals l).length := by
  unfold nought marks vals
  rw [List.countP_map, ← List.countP_eq_length_filter]
  congr 1
  funext c
  simp only [Function.comp, mark]
  by_cases h : c.k = 0 <;> simp [h]
theorem spr_marks (l : List Ce) (vs : List Ce) (h : vs = (vals l).map cz) : spr (marks l) vs = l.map cz := by
  subst h
  induction l with
  | nil => rfl
  | cons c l ih =>
    by_cases h : c.k = 0
    · have e : vals (c :: l) = vals l := by simp [vals, h]
      have e1 : mark c = 1 := by simp [mark, h]
      rw [e]
      show spr (mark c :: marks l) _ = cz c :: l.map cz
      rw [e1, spr, if_neg (by decide), ih]
      simp [cz, h]
    · have e : vals (c :: l) = c :: vals l := by simp [vals, h]
      have e1 : mark c = 0 := by simp [mark, h]
      rw [e]
      show spr (mark c :: marks l) _ = cz c :: l.map cz
      rw [e1, spr, if_pos rfl]
      simp only [List.map_cons, List.headD_cons, List.tail_cons, ih]
theorem rdI_at (Z : List UInt8) : ∀ (ns : List Int), (∀ n ∈ ns, In64 n) → ∀ (P : List UInt8) (o : List Ce), rdI (P ++ bI ns ++ Z) ns.length P.length o = (o ++ ns.map (fun n => ⟨[], 1, n, []⟩), (P ++ bI ns).length, 0)
  | [], _, P, o => by simp [rdI, bI]
  | n :: ns, h, P, o => by
    have hz := Rw.zig_lt (h n (by simp))
    have e : P ++ bI (n :: ns) ++ Z = P ++ M.digs (M.zig n).toNat ++ (bI ns ++ Z) := by simp [bI]
    have e2 : P ++ M.digs (M.zig n).toNat ++ (bI ns ++ Z) = (P ++ M.digs (M.zig n).toNat) ++ bI ns ++ Z := by simp
    rw [e, List.length_cons, rdI, M.get_digs hz.1 P (bI ns ++ Z)]
    simp only [ne_eq, not_true_eq_false, if_false]
    have e3 : P.length + (M.digs (M.zig n).toNat).length = (P ++ M.digs (M.zig n).toNat).length := by simp
    have e4 : ic (M.zig n).toNat = ⟨[], 1, n, []⟩ := by
      unfold ic
      rw [Int.toNat_of_nonneg hz.2, M.zag_zig]
    rw [e3, e2, rdI_at Z ns (fun x hx => h x (by simp [hx])), e4]
    simp [bI]
theorem wid_lt16 {n : Nat} (h : n < 65537) : B.wid n ≤ 17 := by
  rw [B.wid_le]
  omega
theorem pl_len (tx : List (List UInt8)) : (pl tx).length = tx.length := by simp [pl]
theorem pl_lt {tx : List (List UInt8)} : ∀ p ∈ pl tx, p < (T.bld tx).length := by
  intro p hp
  simp only [pl, List.mem_map] at hp
  obtain ⟨s, hs, rfl⟩ := hp
  have := T.place_at (d := T.bld tx) (s := s) ((T.mem_bld tx s).2 hs)
  exact (List.getElem?_eq_some_iff.1 this).1
theorem pl_get {tx : List (List UInt8)} : (pl tx).map (fun p => tc ((T.bld tx).getD p [])) = tx.map tc := by
  unfold pl
  rw [List.map_map]
  refine List.map_congr_left fun s hs => ?_
  have := T.place_at (d := T.bld tx) (s := s) ((T.mem_bld tx s).2 hs)
  simp [Function.comp, List.getD_eq_getElem?_getD, this]
/-- The greatest place is that of the last text. -/
theorem pl_width (tx : List (List UInt8)) : B.width (pl tx) = dw (T.bld tx).length := by
  unfold dw
  apply Nat.le_antisymm
  · rw [B.width_le]
    intro p hp
    have h1 := pl_lt p hp
    have h2 := (B.wid_le ((T.bld tx).length - 1) _).1 (Nat.le_refl _)
    omega
  · rw [B.wid_le]
    by_cases h : (T.bld tx).length = 0
    · rw [h]; exact Nat.pow_pos (by decide)
    · obtain ⟨s, hs⟩ : ∃ s, (T.bld tx)[(T.bld tx).length - 1]? = some s := ⟨_, List.getElem?_eq_getElem (by omega)⟩
      have hm : s ∈ tx := (T.mem_bld tx s).1 (List.mem_of_getElem? hs)
      have hp := T.place_at (d := T.bld tx) (s := s) ((T.mem_bld tx s).2 hm)
      have he := T.rise_inj (T.rise_bld tx) hs hp
      have hin : (T.bld tx).length - 1 ∈ pl tx := by rw [he]; exact List.mem_map.2 ⟨s, hm, rfl⟩
      exact (B.width_le _ (pl tx)).1 (Nat.le_refl _) _ hin
theorem fits_iff (kind : Int) (c : Ce) : fits kind c = true ↔ (c.k = 0 ∨ c.k = kind) ∧ (c.k = 2 → c.s.length ≤ 40) := by
  unfold fits
  simp only [Bool.not_eq_true', Bool.or_eq_false_iff, Bool.and_eq_false_iff, decide_eq_false_iff_not]
  constructor
  · rintro ⟨h1, h2⟩
    refine ⟨?_, fun h => ?_⟩
    · rcases h1 with h | h
      · exact .inl (by simpa using h)
      · exact .inr (by simpa using h)
    · rcases h2 with h' | h'
      · exact absurd h h'
      · omega
  · rintro ⟨h1, h2⟩
    refine ⟨?_, ?_⟩
    · rcases h1 with h | h
      · exact .inl (by simpa using h)
      · exact .inr (by simpa using h)
    · by_cases h : c.k = 2
      · exact .inr (by have := h2 h; omega)
      · exact .inl h
theorem vals_kind {kind : Int} {l : List Ce} (hf : l.all (fits kind) = true) : ∀ c ∈ vals l, c.k = kind ∧ (c.k = 2 → c.s.length ≤ 40) ∧ c ∈ l := by
  intro c hc
  simp only [vals, List.mem_filter, decide_eq_true_eq] at hc
  have := (fits_iff kind c).1 (List.all_eq_true.1 hf c hc.1)
  rcases this.1 with h | h
  · exact absurd h hc.2
  · exact ⟨h, this.2, hc.1⟩
theorem vals_len (l : List Ce) : (vals l).length ≤ l.length := by unfold vals; exact List.length_filter_le _ _
/-- What is written is read. -/
theorem parse_enc {kind : Int} {l : List Ce} (hk : kind = 1 ∨ kind = 2) (hl : l.length ≤ 65536) (hf : l.all (fits kind) = true) (hn : ∀ c ∈ l, In64 c.n) :
    parse (enc kind l) = some (form kind l, marks l, (if form kind l = 2 then T.bld (txts l) else []), (vals l).map cz) := by
  obtain ⟨F, hF⟩ : ∃ F, form kind l = F := ⟨_, rfl⟩
  have hF3 : F = 1 ∧ kind = 1 ∨ F = 2 ∧ kind = 2 ∧ (T.bld (txts l)).length ≤ 16 ∨ F = 3 ∧ kind = 2 := by
    rw [← hF]; unfold form
    rcases hk with rfl | rfl
    · exact .inl ⟨rfl, rfl⟩
    · by_cases h : (T.bld (txts l)).length ≤ 16
      · exact .inr (.inl ⟨by simp [h], rfl, h⟩)
      · exact .inr (.inr ⟨by simp [h], rfl⟩)
  have hF13 : 1 ≤ F ∧ F ≤ 3 := by rcases hF3 with ⟨h, _⟩ | ⟨h, _⟩ | ⟨h, _⟩ <;> omega
  obtain ⟨E, hE⟩ : ∃ E, R.enc 1 (marks l) = E := ⟨_, rfl⟩
  obtain ⟨Bd, hB⟩ : ∃ Bd, body F l = Bd := ⟨_, rfl⟩
  have hb : enc kind l = M.digs F ++ M.digs l.length ++ E ++ Bd := by unfold enc hd; rw [hF, hE, hB]
  have g0 : M.get (enc kind l) 0 = (F, (M.digs F).length, 0) := by
    have := M.get_digs (n := F) (by omega) [] (M.digs l.length ++ E ++ Bd)
    rw [hb]; simpa using this
  have g1 : M.get (enc kind l) ((M.digs F).length : Nat) = (l.length, (M.digs F).length + (M.digs l.length).length, 0) := by
    have := M.get_digs (n := l.length) (by omega) (M.digs F) (E ++ Bd)
    rw [hb]; simpa using this
  have hmw : B.width (marks l) ≤ 1 := marks_le l
  have g2 : R.dec (enc kind l) ((M.digs F).length + (M.digs l.length).length : Nat) (l.length : Nat) 1 = (marks l, (M.digs F).length + (M.digs l.length).length + E.length, 0) := by
    have := R.dec_enc (l := marks l) (w := 1) (by decide) hmw (by rw [marks_len]; omega) (M.digs F ++ M.digs l.length) Bd
    rw [marks_len, hE] at this
    rw [hb]
    simpa using this
  have hP : (M.digs F).length + (M.digs l.length).length + E.length = (M.digs F ++ M.digs l.length ++ E).length := by simp [Nat.add_assoc]
  unfold parse
  rw [g0]
  simp only
  rw [if_neg (by simp), if_neg (by omega), g1]
  simp only
  rw [if_neg (by simp), if_neg (by omega), g2]
  simp only
  rw [if_neg (by simp), nought_marks, hF]
  rcases hF3 with ⟨h1, h2⟩ | ⟨h1, h2, h3⟩ | ⟨h1, h2⟩
  · subst h1; subst h2
    have hn' : ∀ n ∈ nums l, In64 n := by
      intro n hn1
      simp only [nums, List.mem_map] at hn1
      obtain ⟨c, hc, rfl⟩ := hn1
      exact hn c (vals_kind hf c hc).2.2
    have hr := rdI_at [] (nums l) hn' (M.digs 1 ++ M.digs l.length ++ E) []
    have hBb : Bd = bI (nums l) := by rw [← hB]; unfold body; rw [if_pos rfl]
    have hlen : (nums l).length = (vals l).length := by simp [nums]
    rw [hlen, List.append_nil, ← hBb] at hr
    rw [if_pos rfl, hb, hP, hr]
    simp only
    rw [if_neg (by simp)]
    have hm : (nums l).map (fun n => (⟨[], 1, n, []⟩ : Ce)) = (vals l).map cz := by
      unfold nums
      rw [List.map_map]
      refine List.map_congr_left fun c hc => ?_
      have := (vals_kind hf c hc).1
      simp [Function.comp, cz, this]
    simp [hm]
  · subst h1; subst h2
    have hfit : T.fits (T.bld (txts l)) = true := by
      rw [T.fits_iff]
      refine ⟨fun s hs => ?_, h3, T.rise_bld _⟩
      rw [T.mem_bld] at hs
      simp only [txts, List.mem_map] at hs
      obtain ⟨c, hc, rfl⟩ := hs
      have := vals_kind hf c hc
      exact this.2.1 this.1
    have hBb : Bd = T.enc (T.bld (txts l)) ++ R.enc (B.width (pl (txts l))) (pl (txts l)) := by rw [← hB]; unfold body bL; rw [if_neg (by decide), if_pos rfl]
    have hd1 := T.dec_enc hfit (M.digs 2 ++ M.digs l.length ++ E) (R.enc (B.width (pl (txts l))) (pl (txts l)))
    have e1 : enc 2 l = M.digs 2 ++ M.digs l.length ++ E ++ T.enc (T.bld (txts l)) ++ R.enc (B.width (pl (txts l))) (pl (txts l)) := by rw [hb, hBb]; simp [List.append_assoc]
    have hlen : (pl (txts l)).length = (vals l).length := by rw [pl_len]; simp [txts]
    have hdw := pl_width (txts l)
    have hdl : dw (T.bld (txts l)).length ≤ 32 := by
      have := wid_lt16 (n := (T.bld (txts l)).length - 1) (by omega)
      unfold dw; omega
    have hd2 := R.dec_enc (l := pl (txts l)) (w := dw (T.bld (txts l)).length) hdl (by rw [hdw]; exact Nat.le_refl _) (by rw [hlen]; have := vals_len l; omega) (M.digs 2 ++ M.digs l.length ++ E ++ T.enc (T.bld (txts l))) []
    rw [hlen, List.append_nil, ← hdw, ← e1] at hd2
    rw [← e1] at hd1
    rw [if_neg (by decide), if_pos rfl, hP, hd1]
    simp only
    rw [if_neg (by simp), ← hdw, hd2]
    simp only
    rw [if_neg (by simp), if_pos (by rw [List.all_eq_true]; intro p hp; simpa using pl_lt p hp), pl_get]
    have hm : (txts l).map tc = (vals l).map cz := by
      unfold txts
      rw [List.map_map]
      refine List.map_congr_left fun c hc => ?_
      have := (vals_kind hf c hc).1
      simp [Function.comp, cz, tc, this]
    simp [hm]
  · subst h1; subst h2
    have hBb : Bd = T.texts (txts l) := by rw [← hB]; unfold body; rw [if_neg (by decide), if_neg (by decide)]
    have hr := T.rd_texts (txts l) (fun s hs => by
      simp only [txts, List.mem_map] at hs
      obtain ⟨c, hc, rfl⟩ := hs
      have := vals_kind hf c hc
      exact this.2.1 this.1) (M.digs 3 ++ M.digs l.length ++ E) [] []
    have hlen : (txts l).length = (vals l).length := by simp [txts]
    rw [hlen, List.append_nil, ← hBb] at hr
    rw [if_neg (by decide), if_neg (by decide), hb, hP, hr]
    simp only
    rw [if_neg (by simp)]
    have hm : (txts l).map tc = (vals l).map cz := by
      unfold txts
      rw [List.map_map]
      refine List.map_congr_left fun c hc => ?_
      have := (vals_kind hf c hc).1
      simp [Function.comp, cz, tc, this]
    simp [hm]
theorem cz_k {kind : Int} {c : Ce} (hk : kind = 1 ∨ kind = 2) (h : fits kind c = true) : (cz c).k = c.k ∧ (c.k ≠ 0 → (c.k = 1 → (cz c).n = c.n) ∧ (c.k = 2 → (cz c).s = c.s)) := by
  have := ((fits_iff kind c).1 h).1
  unfold cz
  by_cases h0 : c.k = 0
  · rw [if_pos h0]; exact ⟨h0.symm, fun h => absurd h0 h⟩
  · by_cases h1 : c.k = 1
    · rw [if_neg h0, if_pos h1]; exact ⟨h1.symm, fun _ => ⟨fun _ => rfl, fun h => by omega⟩⟩
    · have h2 : c.k = 2 := by rcases this with h | h <;> omega
      rw [if_neg h0, if_neg h1]; exact ⟨h2.symm, fun _ => ⟨fun h => by omega, fun _ => rfl⟩⟩
theorem marks_cz {kind : Int} {l : List Ce} (hk : kind = 1 ∨ kind = 2) (hf : l.all (fits kind) = true) : marks (l.map cz) = marks l := by
  unfold marks
  rw [List.map_map]
  refine List.map_congr_left fun c hc => ?_
  have := (cz_k hk (List.all_eq_true.1 hf c hc)).1
  simp [Function.comp, mark, this]
theorem vals_cz {kind : Int} {l : List Ce} (hk : kind = 1 ∨ kind = 2) (hf : l.all (fits kind) = true) : vals (l.map cz) = (vals l).map cz := by
  induction l with
  | nil => rfl
  | cons c l ih =>
    have hc := (cz_k hk (List.all_eq_true.1 hf c (by simp))).1
    have ih' := ih (by rw [List.all_eq_true] at hf ⊢; exact fun x hx => hf x (by simp [hx]))
    by_cases h : c.k = 0
    · have e : vals (c :: l) = vals l := by simp [vals, h]
      have e1 : vals ((c :: l).map cz) = vals (l.map cz) := by simp [vals, hc, h]
      rw [e, e1, ih']
    · have e : vals (c :: l) = c :: vals l := by simp [vals, h]
      have e1 : vals ((c :: l).map cz) = cz c :: vals (l.map cz) := by simp [vals, hc, h]
      rw [e, e1, ih', List.map_cons]
theorem enc_cz {kind : Int} {l : List Ce} (hk : kind = 1 ∨ kind = 2) (hf : l.all (fits kind) = true) : enc kind (l.map cz) = enc kind l := by
  have hv := vals_cz hk hf
  have ht : kind = 2 → txts (l.map cz) = txts l := by
    intro h2
    unfold txts
    rw [hv, List.map_map]
    refine List.map_congr_left fun c hc => ?_
    have h := vals_kind hf c hc
    have := (cz_k hk (List.all_eq_true.1 hf c h.2.2)).2 (by omega)
    exact this.2 (by omega)
  have hn : kind = 1 → nums (l.map cz) = nums l := by
    intro h1
    unfold nums
    rw [hv, List.map_map]
    refine List.map_congr_left fun c hc => ?_
    have h := vals_kind hf c hc
    have := (cz_k hk (List.all_eq_true.1 hf c h.2.2)).2 (by omega)
    exact this.1 (by omega)
  have hfm : form kind (l.map cz) = form kind l := by
    unfold form
    rcases hk with rfl | rfl
    · rfl
    · rw [ht rfl]
  unfold enc hd
  rw [hfm, marks_cz hk hf, List.length_map]
  congr 1
  unfold body
  rcases hk with rfl | rfl
  · have : form 1 l = 1 := rfl
    rw [this, if_pos rfl, if_pos rfl, hn rfl]
  · rw [ht rfl]
    have : form 2 l ≠ 1 := by unfold form; rw [if_neg (by decide)]; split <;> decide
    rw [if_neg this, if_neg this]
theorem fits_cz {kind : Int} {l : List Ce} (hk : kind = 1 ∨ kind = 2) (hf : l.all (fits kind) = true) : (l.map cz).all (fits kind) = true := by
  rw [List.all_eq_true] at hf ⊢
  intro x hx
  obtain ⟨c, hc, rfl⟩ := List.mem_map.1 hx
  have h := cz_k hk (hf c hc)
  have h2 := (fits_iff kind c).1 (hf c hc)
  rw [fits_iff, h.1]
  refine ⟨h2.1, fun hk2 => ?_⟩
  rw [(h.2 (by omega)).2 hk2]
  exact h2.2 hk2
theorem encE_ok {kind : Int} {l : List Ce} (hk : kind = 1 ∨ kind = 2) (hl : l.length ≤ 65536) (hf : l.all (fits kind) = true) : encE kind l = (enc kind l, 0) := by
  unfold encE
  rw [if_neg (by omega), if_neg (by omega), if_pos hf]
theorem kind_form {kind : Int} {l : List Ce} (hk : kind = 1 ∨ kind = 2) : kindOf (form kind l) = kind := by
  unfold form kindOf
  rcases hk with rfl | rfl
  · rfl
  · rw [if_neg (show ¬ (2 : Int) = 1 by decide)]
    split <;> rfl
/-- A column is opened as it was written. -/
theorem opn_enc {kind : Int} {l : List Ce} (hk : kind = 1 ∨ kind = 2) (hl : l.length ≤ 65536) (hf : l.all (fits kind) = true) (hn : ∀ c ∈ l, In64 c.n) :
    opn (enc kind l) = some (kind, l.map cz, if form kind l = 2 then T.bld (txts l) else []) := by
  unfold opn
  rw [parse_enc hk hl hf hn]
  simp only
  rw [kind_form hk, spr_marks l _ rfl, encE_ok hk (by simpa using hl) (fits_cz hk hf), enc_cz hk hf, if_pos rfl]
end Ck
end Go.Proofs.YtnmonoafjijfhaaGreat
