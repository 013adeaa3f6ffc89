/-
  The laws' own made: a column of one kind, as some list of normal cells. What Open finds in the bytes of a column of normal cells. The books' own Cells and Cols: the same lists? The laws' own known. A chunk beside its own cells, as a law asks it. What the laws keep of a chunk that is asked while memory behind it is written into; Dict's texts lie apart from the chunk.
-/
import Derived.Test.YtnmonoafjijfhaaGreatM47
import Derived.Laws.Runes
import Derived.Test.YtnmonoafjijfhaaGreatM41
namespace Go.Proofs.YtnmonoafjijfhaaGreat
open Go.RowKit
set_option linter.unusedVariables false
set_option linter.unusedSimpArgs false
theorem rune_len (n : Int) : ∃ t : List UInt8, t.length ≤ 4 ∧ Utf8.encode n = str t := by
  obtain ⟨t, ht⟩ := str_of (Utf8.encode n)
  refine ⟨t, ?_, ht⟩
  have h2 : (Utf8.encode n).size ≤ 4 := by
    unfold Utf8.encode
    generalize (if Utf8.valid n = true then n.toNat else Utf8.runeError) = c
    simp only
    repeat' split
    all_goals (first | decide | (show Array.size _ ≤ 4; simp) | simp [ByteArray.size])
  rw [ht, str_size] at h2
  exact h2
theorem rune_conv (n : Int) : ∃ t : List UInt8, t.length ≤ 4 ∧ ∀ w : World, (convert 21 9 (.int .i32 n)).run Tryz.prog w = .ok (.string (str t)) w := by
  obtain ⟨t, h1, ht⟩ := rune_len n
  refine ⟨t, h1, fun w => ?_⟩
  rw [run_convert_int_string w 21 9 .i32 n (by kernel_rfl) Tryz.underlying9, ht]
/-- A cell as a column keeps it. -/
def Nrm (kind : Int) (c : Ce) : Prop := c = Rw.none_ ∨ (kind = 1 ∧ ∃ n, In64 n ∧ c = ⟨[], 1, n, []⟩) ∨ (kind = 2 ∧ ∃ s : List UInt8, s.length ≤ 40 ∧ c = ⟨[], 2, 0, s⟩)
theorem Nrm.int {n : Int} (h : In64 n) : Nrm 1 ⟨[], 1, n, []⟩ := .inr (.inl ⟨rfl, n, h, rfl⟩)
theorem Nrm.txt {s : List UInt8} (h : s.length ≤ 40) : Nrm 2 ⟨[], 2, 0, s⟩ := .inr (.inr ⟨rfl, s, h, rfl⟩)
theorem Nrm.fits {kind : Int} {c : Ce} (h : Nrm kind c) : Ck.fits kind c = true ∧ Ck.cz c = c ∧ In64 c.n := by
  rcases h with rfl | ⟨rfl, n, hn, rfl⟩ | ⟨rfl, s, hs, rfl⟩
  · exact ⟨(Ck.fits_iff _ _).2 ⟨.inl rfl, fun h => by simp [Rw.none_] at h⟩, rfl, by decide, by decide⟩
  · exact ⟨(Ck.fits_iff _ _).2 ⟨.inr rfl, fun h => by simp at h⟩, rfl, hn⟩
  · exact ⟨(Ck.fits_iff _ _).2 ⟨.inr rfl, fun _ => hs⟩, rfl, (⟨by decide, by decide⟩ : In64 0)⟩
theorem nrm_all {kind : Int} {X : List Ce} (h : ∀ c ∈ X, Nrm kind c) : X.all (Ck.fits kind) = true ∧ X.map Ck.cz = X ∧ ∀ c ∈ X, In64 c.n := by
  refine ⟨List.all_eq_true.2 fun c hc => (h c hc).fits.1, ?_, fun c hc => (h c hc).fits.2.2⟩
  have : X.map Ck.cz = X.map id := List.map_congr_left fun c hc => (h c hc).fits.2.1
  rw [this, List.map_id]
/-- What made answers: some list of normal cells, of fresh memory. -/
def MadeIs (kind : Int) (base : Nat) (v : Value) (w w' : World) : Prop := ∃ X : List Ce, OwnC w' base v X ∧ X.length ≤ 60 ∧ (∀ c ∈ X, Nrm kind c) ∧ Ex w w'
theorem cat_str (a t : List UInt8) : str a ++ str t = str (a ++ t) := by
  apply ByteArray.ext
  simp [str]
set_option maxHeartbeats 8000000 in
set_option maxRecDepth 100000 in
theorem made_is (kind : Int) (wide : Bool) (a : Option Addr) (n cap : Nat) (l : List Ce) (w : World) (hk : kind = 1 ∨ kind = 2) (hn : n = l.length) (hB : RdC w a cap l) (h64 : ∀ c ∈ l, In64 c.n ∧ c.s.length ≤ maxLen) :
    Calls Tryz.prog 16 #[.slice a n cap, .int .i64 kind, .bool wide] w fun e w' => ∃ v, e = .returned v ∧ MadeIs kind w.heap.size v w w' := by
  have HN : Hid (n = l.length) := hn
  have HB : Hid (RdC w a cap l) := hB
  have H64 : Hid (∀ c ∈ l, In64 c.n ∧ c.s.length ≤ maxLen) := h64
  have hcl : n ≤ cap := by have := hB.1; omega
  have hcm := hB.2.1
  unfold maxLen at hcm
  obtain ⟨base, hbase⟩ : ∃ base, base = w.heap.size := ⟨_, rfl⟩
  have HBa : Hid (base = w.heap.size) := hbase
  rw [← hbase]
  have hO0 : Hid (OwnC w base (.slice none 0 0) []) := ownW_none _ _
  have hB0 : Hid (Below base w w) := Below.refl _ _
  have hN0 : Hid (∀ c ∈ ([] : List Ce), Nrm kind c) := (by simp : ∀ c ∈ ([] : List Ce), Nrm kind c)
  clear hB hn hbase h64
  go_enter Tryz.func16, Tryz.ntmps16
  go_wp2_with fail
  go_loopw [7, 8, 9] (fun ov iv cv wr => ∃ (i : Nat) (X : List Ce), i ≤ n ∧ i ≤ 60 ∧ iv = .int .i64 (i : Int) ∧ X.length ≤ i ∧ Hid (OwnC wr base ov X) ∧ Hid (∀ c ∈ X, Nrm kind c) ∧ Hid (Below base w wr)) (fun ov iv cv wr => 60 - (intOf iv).toNat)
  case atStart => exact ⟨0, [], by omega, by omega, rfl, by simp, hO0, hN0, hB0⟩
  case round =>
    obtain ⟨i, X, hi, hi6, rfl, hXl, HO, HNm, HBl⟩ := hrel
    clear hO0 hB0 hN0
    have hEx : Ex w wr := by have := HBl.out; rw [HBa.out] at this; exact this
    have hsz : base ≤ wr.heap.size := by rw [HBa.out]; exact hEx.size
    have HEx : Hid (Ex w wr) := hEx
    clear hEx
    by_cases hlt : i < n
    · have ti : (i : Int) < (n : Int) := by omega
      by_cases hlt6 : i < 60
      · have ti6 : (i : Int) < 60 := by omega
        have hlt2 : i < l.length := by rw [← HN.out]; exact hlt
        obtain ⟨bq, off, rfl, e0, e1, e2, e3⟩ := RdC.four (HB.out.below HEx.out) hlt2
        have hd64 := H64.out _ (List.getElem_mem hlt2)
        obtain ⟨d, hd⟩ : ∃ d, l[i] = d := ⟨_, rfl⟩
        rw [hd] at e0 e1 e2 e3 hd64
        have HD64 : Hid (In64 d.n ∧ d.s.length ≤ maxLen) := hd64
        have hsl : d.s.length ≤ 9223372036854775807 := by have := hd64.2; unfold maxLen at this; omega
        have zs : (str d.s).size = d.s.length := str_size _
        have zc : (str d.s).extract 0 5 = str (d.s.take 5) := str_cut _ _
        have zs5 : (str (d.s.take 5)).size = (d.s.take 5).length := str_size _
        have h5l : (d.s.take 5).length ≤ 5 := by simp; omega
        obtain ⟨t, ht4, htc⟩ := rune_conv ((97 + (i : Int) % 26))
        have hmod : (0 : Int) ≤ (i : Int) % 26 ∧ (i : Int) % 26 < 26 := ⟨Int.emod_nonneg _ (by decide), Int.emod_lt_of_pos _ (by decide)⟩
        have hw32 : IntKind.i32.wrap (97 + (i : Int) % 26) = 97 + (i : Int) % 26 := by rw [IntKind.wrap_i32]; omega
        have htm : Int.tmod (i : Int) 26 = (i : Int) % 26 := Int.tmod_eq_emod_of_nonneg (by omega)
        have zt : (str t).size = t.length := str_size _
        have za : str d.s ++ str t = str (d.s ++ t) := cat_str _ _
        have zb : str (d.s.take 5) ++ str t = str (d.s.take 5 ++ t) := cat_str _ _
        have hstep : ∀ (c : Ce) (w1 : World) (ob : Obj) (v9 : Value) (w9 : World), w1 = wr.alloc (cb c) → OwnC w9 base v9 (X ++ [c]) → (w1.alloc ob).grownBy w9 u7.ownBlock → Nrm kind c → Hid (OwnC w9 base v9 (X ++ [c])) ∧ Hid (∀ e ∈ X ++ [c], Nrm kind e) ∧ Hid (Below base w w9) ∧ (X ++ [c]).length ≤ i + 1 := by
          intro c w1 ob v9 w9 hw1 ho9 hg9 hc
          refine ⟨ho9, fun e he => ?_, ?_, by simp; omega⟩
          · rcases List.mem_append.1 he with h | h
            · exact HNm.out e h
            · rw [List.mem_singleton] at h; subst h; exact hc
          · subst hw1
            exact Below.grown (Below.alloc (Below.alloc HBl.out hsz _) (by simp; omega) _) hg9 (by simp; omega) (fun k hk => (HO.out.lt k hk).1)
        have hbq : bq < wr.heap.size := World.block_lt_of_cell? _ _ e0
        have E1 : ∀ o, (wr.alloc o).cell? ⟨bq, off + i * 4 + 1, none⟩ = some (.int .i64 d.k) := fun o => by rw [World.cell?_alloc_past _ _ _ hbq]; exact e1
        have E2 : ∀ o, (wr.alloc o).cell? ⟨bq, off + i * 4 + 2, none⟩ = some (.int .i64 d.n) := fun o => by rw [World.cell?_alloc_past _ _ _ hbq]; exact e2
        have E3 : ∀ o, (wr.alloc o).cell? ⟨bq, off + i * 4 + 3, none⟩ = some (.string (str d.s)) := fun o => by rw [World.cell?_alloc_past _ _ _ hbq]; exact e3
        have hlaid : ∀ (c : Ce), RdC ((wr.alloc (cb c)).alloc (.cells (flat cc [c]).toArray 28)) (some ⟨wr.heap.size + 1, 0, none⟩) 1 [c] := fun c => by
          have h := RdW.laid (t := 28) cc_len (wr.alloc (cb c)) [c] (by simp)
          have e : (wr.alloc (cb c)).heap.size = wr.heap.size + 1 := by simp
          rw [e] at h
          exact h
        have HLaid : Hid (∀ (c : Ce), RdC ((wr.alloc (cb c)).alloc (.cells (flat cc [c]).toArray 28)) (some ⟨wr.heap.size + 1, 0, none⟩) 1 [c]) := hlaid
        clear hd hd64 hlaid
        rcases hk with rfl | rfl
        · by_cases h0 : d.k = 0
          · have t0 : (d.k == 0) = true := by simp [h0]
            go_wp2_with (at_builtin; refine wpList_append_wide cc_len cc_one rfl (.tmp 61) (.tmp 63) 26 _ 48 rfl Tryz.underlying26 Tryz.info28 (by omega) rfl base _ X rfl (OwnW.alloc (OwnW.alloc HO.out (cb Rw.none_)) _) (some ⟨wr.heap.size + 1, 0, none⟩) 1 1 [Rw.none_] rfl rfl (HLaid.out Rw.none_) (by simp [maxLen]; omega) (by simp; omega) (by simp; omega) ?_; intro v9 w9 ho9 hg9 _; obtain ⟨HO9, HN9, HB9, hl9⟩ := hstep Rw.none_ _ _ v9 w9 rfl ho9 hg9 (.inl rfl); clear ho9 hg9)
            go_wp2
            go_roundw
            case rel => exact ⟨i + 1, X ++ [Rw.none_], by omega, by omega, by go_num, hl9, HO9, HN9, HB9⟩
            case measure => simp [intOf]; omega
          · have t0 : (d.k == 0) = false := by simp [h0]
            go_wp2_with (at_builtin; refine wpList_append_wide cc_len cc_one rfl (.tmp 61) (.tmp 63) 26 _ 48 rfl Tryz.underlying26 Tryz.info28 (by omega) rfl base _ X rfl (OwnW.alloc (OwnW.alloc HO.out (cb (⟨[], 1, d.n, []⟩ : Ce))) _) (some ⟨wr.heap.size + 1, 0, none⟩) 1 1 [(⟨[], 1, d.n, []⟩ : Ce)] rfl rfl (HLaid.out (⟨[], 1, d.n, []⟩ : Ce)) (by simp [maxLen]; omega) (by simp; omega) (by simp; omega) ?_; intro v9 w9 ho9 hg9 _; obtain ⟨HO9, HN9, HB9, hl9⟩ := hstep (⟨[], 1, d.n, []⟩ : Ce) _ _ v9 w9 rfl ho9 hg9 (Nrm.int HD64.out.1); clear ho9 hg9)
            go_wp2
            go_roundw
            case rel => exact ⟨i + 1, X ++ [(⟨[], 1, d.n, []⟩ : Ce)], by omega, by omega, by go_num, hl9, HO9, HN9, HB9⟩
            case measure => simp [intOf]; omega
        · by_cases h5 : (5 : Int) < (d.s.length : Int)
          · have t5 : decide ((5 : Int) < (d.s.length : Int)) = true := by simp; omega
            cases wide with
            | true =>
              by_cases h0 : d.k = 0
              · have t0 : (d.k == 0) = true := by simp [h0]
                go_wp2_with (at_builtin; refine wpList_append_wide cc_len cc_one rfl (.tmp 61) (.tmp 63) 26 _ 48 rfl Tryz.underlying26 Tryz.info28 (by omega) rfl base _ X rfl (OwnW.alloc (OwnW.alloc HO.out (cb Rw.none_)) _) (some ⟨wr.heap.size + 1, 0, none⟩) 1 1 [Rw.none_] rfl rfl (HLaid.out Rw.none_) (by simp [maxLen]; omega) (by simp; omega) (by simp; omega) ?_; intro v9 w9 ho9 hg9 _; obtain ⟨HO9, HN9, HB9, hl9⟩ := hstep Rw.none_ _ _ v9 w9 rfl ho9 hg9 (.inl rfl); clear ho9 hg9)
                go_wp2
                go_roundw
                case rel => exact ⟨i + 1, X ++ [Rw.none_], by omega, by omega, by go_num, hl9, HO9, HN9, HB9⟩
                case measure => simp [intOf]; omega
              · have t0 : (d.k == 0) = false := by simp [h0]
                go_wp2_with (at_builtin; refine wpList_append_wide cc_len cc_one rfl (.tmp 61) (.tmp 63) 26 _ 48 rfl Tryz.underlying26 Tryz.info28 (by omega) rfl base _ X rfl (OwnW.alloc (OwnW.alloc HO.out (cb (⟨[], 2, 0, ((d.s.take 5) ++ t)⟩ : Ce))) _) (some ⟨wr.heap.size + 1, 0, none⟩) 1 1 [(⟨[], 2, 0, ((d.s.take 5) ++ t)⟩ : Ce)] rfl rfl (HLaid.out (⟨[], 2, 0, ((d.s.take 5) ++ t)⟩ : Ce)) (by simp [maxLen]; omega) (by simp; omega) (by simp; omega) ?_; intro v9 w9 ho9 hg9 _; obtain ⟨HO9, HN9, HB9, hl9⟩ := hstep (⟨[], 2, 0, ((d.s.take 5) ++ t)⟩ : Ce) _ _ v9 w9 rfl ho9 hg9 (Nrm.txt (by (try simp only [List.length_append, List.length_take]); omega)); clear ho9 hg9)
                go_wp2
                go_roundw
                case rel => exact ⟨i + 1, X ++ [(⟨[], 2, 0, ((d.s.take 5) ++ t)⟩ : Ce)], by omega, by omega, by go_num, hl9, HO9, HN9, HB9⟩
                case measure => simp [intOf]; omega
            | false =>
              by_cases h0 : d.k = 0
              · have t0 : (d.k == 0) = true := by simp [h0]
                go_wp2_with (at_builtin; refine wpList_append_wide cc_len cc_one rfl (.tmp 61) (.tmp 63) 26 _ 48 rfl Tryz.underlying26 Tryz.info28 (by omega) rfl base _ X rfl (OwnW.alloc (OwnW.alloc HO.out (cb Rw.none_)) _) (some ⟨wr.heap.size + 1, 0, none⟩) 1 1 [Rw.none_] rfl rfl (HLaid.out Rw.none_) (by simp [maxLen]; omega) (by simp; omega) (by simp; omega) ?_; intro v9 w9 ho9 hg9 _; obtain ⟨HO9, HN9, HB9, hl9⟩ := hstep Rw.none_ _ _ v9 w9 rfl ho9 hg9 (.inl rfl); clear ho9 hg9)
                go_wp2
                go_roundw
                case rel => exact ⟨i + 1, X ++ [Rw.none_], by omega, by omega, by go_num, hl9, HO9, HN9, HB9⟩
                case measure => simp [intOf]; omega
              · have t0 : (d.k == 0) = false := by simp [h0]
                go_wp2_with (at_builtin; refine wpList_append_wide cc_len cc_one rfl (.tmp 61) (.tmp 63) 26 _ 48 rfl Tryz.underlying26 Tryz.info28 (by omega) rfl base _ X rfl (OwnW.alloc (OwnW.alloc HO.out (cb (⟨[], 2, 0, (d.s.take 5)⟩ : Ce))) _) (some ⟨wr.heap.size + 1, 0, none⟩) 1 1 [(⟨[], 2, 0, (d.s.take 5)⟩ : Ce)] rfl rfl (HLaid.out (⟨[], 2, 0, (d.s.take 5)⟩ : Ce)) (by simp [maxLen]; omega) (by simp; omega) (by simp; omega) ?_; intro v9 w9 ho9 hg9 _; obtain ⟨HO9, HN9, HB9, hl9⟩ := hstep (⟨[], 2, 0, (d.s.take 5)⟩ : Ce) _ _ v9 w9 rfl ho9 hg9 (Nrm.txt (by (try simp only [List.length_append, List.length_take]); omega)); clear ho9 hg9)
                go_wp2
                go_roundw
                case rel => exact ⟨i + 1, X ++ [(⟨[], 2, 0, (d.s.take 5)⟩ : Ce)], by omega, by omega, by go_num, hl9, HO9, HN9, HB9⟩
                case measure => simp [intOf]; omega
          · have t5 : decide ((5 : Int) < (d.s.length : Int)) = false := by simp; omega
            cases wide with
            | true =>
              by_cases h0 : d.k = 0
              · have t0 : (d.k == 0) = true := by simp [h0]
                go_wp2_with (at_builtin; refine wpList_append_wide cc_len cc_one rfl (.tmp 61) (.tmp 63) 26 _ 48 rfl Tryz.underlying26 Tryz.info28 (by omega) rfl base _ X rfl (OwnW.alloc (OwnW.alloc HO.out (cb Rw.none_)) _) (some ⟨wr.heap.size + 1, 0, none⟩) 1 1 [Rw.none_] rfl rfl (HLaid.out Rw.none_) (by simp [maxLen]; omega) (by simp; omega) (by simp; omega) ?_; intro v9 w9 ho9 hg9 _; obtain ⟨HO9, HN9, HB9, hl9⟩ := hstep Rw.none_ _ _ v9 w9 rfl ho9 hg9 (.inl rfl); clear ho9 hg9)
                go_wp2
                go_roundw
                case rel => exact ⟨i + 1, X ++ [Rw.none_], by omega, by omega, by go_num, hl9, HO9, HN9, HB9⟩
                case measure => simp [intOf]; omega
              · have t0 : (d.k == 0) = false := by simp [h0]
                go_wp2_with (at_builtin; refine wpList_append_wide cc_len cc_one rfl (.tmp 61) (.tmp 63) 26 _ 48 rfl Tryz.underlying26 Tryz.info28 (by omega) rfl base _ X rfl (OwnW.alloc (OwnW.alloc HO.out (cb (⟨[], 2, 0, (d.s ++ t)⟩ : Ce))) _) (some ⟨wr.heap.size + 1, 0, none⟩) 1 1 [(⟨[], 2, 0, (d.s ++ t)⟩ : Ce)] rfl rfl (HLaid.out (⟨[], 2, 0, (d.s ++ t)⟩ : Ce)) (by simp [maxLen]; omega) (by simp; omega) (by simp; omega) ?_; intro v9 w9 ho9 hg9 _; obtain ⟨HO9, HN9, HB9, hl9⟩ := hstep (⟨[], 2, 0, (d.s ++ t)⟩ : Ce) _ _ v9 w9 rfl ho9 hg9 (Nrm.txt (by (try simp only [List.length_append, List.length_take]); omega)); clear ho9 hg9)
                go_wp2
                go_roundw
                case rel => exact ⟨i + 1, X ++ [(⟨[], 2, 0, (d.s ++ t)⟩ : Ce)], by omega, by omega, by go_num, hl9, HO9, HN9, HB9⟩
                case measure => simp [intOf]; omega
            | false =>
              by_cases h0 : d.k = 0
              · have t0 : (d.k == 0) = true := by simp [h0]
                go_wp2_with (at_builtin; refine wpList_append_wide cc_len cc_one rfl (.tmp 61) (.tmp 63) 26 _ 48 rfl Tryz.underlying26 Tryz.info28 (by omega) rfl base _ X rfl (OwnW.alloc (OwnW.alloc HO.out (cb Rw.none_)) _) (some ⟨wr.heap.size + 1, 0, none⟩) 1 1 [Rw.none_] rfl rfl (HLaid.out Rw.none_) (by simp [maxLen]; omega) (by simp; omega) (by simp; omega) ?_; intro v9 w9 ho9 hg9 _; obtain ⟨HO9, HN9, HB9, hl9⟩ := hstep Rw.none_ _ _ v9 w9 rfl ho9 hg9 (.inl rfl); clear ho9 hg9)
                go_wp2
                go_roundw
                case rel => exact ⟨i + 1, X ++ [Rw.none_], by omega, by omega, by go_num, hl9, HO9, HN9, HB9⟩
                case measure => simp [intOf]; omega
              · have t0 : (d.k == 0) = false := by simp [h0]
                go_wp2_with (at_builtin; refine wpList_append_wide cc_len cc_one rfl (.tmp 61) (.tmp 63) 26 _ 48 rfl Tryz.underlying26 Tryz.info28 (by omega) rfl base _ X rfl (OwnW.alloc (OwnW.alloc HO.out (cb (⟨[], 2, 0, d.s⟩ : Ce))) _) (some ⟨wr.heap.size + 1, 0, none⟩) 1 1 [(⟨[], 2, 0, d.s⟩ : Ce)] rfl rfl (HLaid.out (⟨[], 2, 0, d.s⟩ : Ce)) (by simp [maxLen]; omega) (by simp; omega) (by simp; omega) ?_; intro v9 w9 ho9 hg9 _; obtain ⟨HO9, HN9, HB9, hl9⟩ := hstep (⟨[], 2, 0, d.s⟩ : Ce) _ _ v9 w9 rfl ho9 hg9 (Nrm.txt (by (try simp only [List.length_append, List.length_take]); omega)); clear ho9 hg9)
                go_wp2
                go_roundw
                case rel => exact ⟨i + 1, X ++ [(⟨[], 2, 0, d.s⟩ : Ce)], by omega, by omega, by go_num, hl9, HO9, HN9, HB9⟩
                case measure => simp [intOf]; omega
      · have ti6 : ¬ (i : Int) < 60 := by omega
        go_wp2_with fail
        go_ret
        exact ⟨_, rfl, X, HO.out, by omega, HNm.out, HEx.out⟩
    · have ti : ¬ (i : Int) < (n : Int) := by omega
      go_wp2_with fail
      go_ret
      exact ⟨_, rfl, X, HO.out, by omega, HNm.out, HEx.out⟩
end Go.Proofs.YtnmonoafjijfhaaGreat
namespace Go.Proofs.YtnmonoafjijfhaaGreat
open Go.RowKit
set_option linter.unusedVariables false
set_option linter.unusedSimpArgs false
theorem enc_short {kind : Int} {l : List Ce} (hk : kind = 1 ∨ kind = 2) (hl : l.length ≤ 65536) (hf : l.all (Ck.fits kind) = true) : (Ck.enc kind l).length ≤ 8000000 := by
  have h1 := hd_len (Ck.form kind l) l hl
  have hv := Ck.vals_len l
  have ht := txts_len l
  unfold Ck.enc
  rw [List.length_append]
  have h2 : (Ck.body (Ck.form kind l) l).length ≤ 4000000 := by
    rcases hk with rfl | rfl
    · have h3 := Ck.bI_len (Ck.nums l)
      have h4 : (Ck.nums l).length = (Ck.vals l).length := by simp [Ck.nums]
      have h5 : Ck.body (Ck.form 1 l) l = Ck.bI (Ck.nums l) := by simp [Ck.form, Ck.body]
      rw [h5]; omega
    · have h40 := txts_40 hf
      by_cases h : (T.bld (Ck.txts l)).length ≤ 16
      · have h5 : Ck.body (Ck.form 2 l) l = Ck.bL (Ck.txts l) := by simp [Ck.form, Ck.body, h]
        have hd := (M.digs_len (T.bld (Ck.txts l)).length).2
        have h2 := T.texts_len (T.bld (Ck.txts l)) (fun s hs => by have := h40 s ((T.mem_bld _ _).1 hs); omega)
        have h3 := enc_len (pl_w32 (Ck.txts l) (by omega)) _ (Ck.pl (Ck.txts l)) (Nat.le_refl _)
        rw [Ck.pl_len] at h3
        rw [h5]
        unfold Ck.bL T.enc
        simp only [List.length_append]
        omega
      · have h5 : Ck.body (Ck.form 2 l) l = T.texts (Ck.txts l) := by simp [Ck.form, Ck.body, h]
        have h6 := T.texts_len (Ck.txts l) (fun s hs => by have := h40 s hs; omega)
        rw [h5]; omega
  omega
/-- The bytes b hold the column X of one kind. -/
structure Holds (kind : Int) (X : List Ce) (b : List UInt8) : Prop where
  enc : b = Ck.enc kind X
  good : Ck.encE (LK b) (LC b) = (b, 0) ∧ (Ck.lread b).s.y = 0
  cells : LC b = X
  kind : LK b = kind
  short : b.length ≤ 8000000
theorem holds_enc {kind : Int} {X : List Ce} (hk : kind = 1 ∨ kind = 2) (hl : X.length ≤ 65536) (hX : ∀ c ∈ X, Nrm kind c) : Holds kind X (Ck.enc kind X) := by
  obtain ⟨hf, hz, h64⟩ := nrm_all hX
  have ho := Ck.opn_enc hk hl hf h64
  rw [hz] at ho
  have hs := enc_short hk hl hf
  obtain ⟨b, hb⟩ : ∃ b, Ck.enc kind X = b := ⟨_, rfl⟩
  rw [hb] at ho hs ⊢
  obtain ⟨h1, h2⟩ := opn_is b
  by_cases hy : (Ck.lread b).s.y = 0
  · obtain ⟨d, _, _, h3⟩ := h2 hy
    rw [ho] at h3
    by_cases hc : Ck.encE (LK b) (LC b) = (b, 0)
    · rw [if_pos hc] at h3
      simp only [Option.some.injEq, Prod.mk.injEq] at h3
      exact ⟨hb.symm, ⟨hc, hy⟩, h3.2.1.symm, h3.1.symm, hs⟩
    · rw [if_neg hc] at h3
      simp at h3
  · rw [h1 hy] at ho
    simp at ho
theorem Holds.of {kind : Int} {X : List Ce} {r : List UInt8} {e : Nat} (hk : kind = 1 ∨ kind = 2) (hl : X.length ≤ 65536) (hX : ∀ c ∈ X, Nrm kind c) (hr : Ck.encE kind X = (r, e)) : e = 0 ∧ Holds kind X r := by
  rw [Ck.encE_ok hk hl (nrm_all hX).1] at hr
  simp only [Prod.mk.injEq] at hr
  obtain ⟨rfl, rfl⟩ := hr
  exact ⟨rfl, holds_enc hk hl hX⟩
/-- Alike bytes, alike columns. -/
theorem Holds.inj {kind : Int} {X Y : List Ce} {a b : List UInt8} (ha : Holds kind X a) (hb : Holds kind Y b) : a = b ↔ X = Y :=
  ⟨fun h => by rw [← ha.cells, ← hb.cells, h], fun h => by rw [ha.enc, hb.enc, h]⟩
theorem Nrm.short {kind : Int} {c : Ce} (h : Nrm kind c) : c.s.length ≤ maxLen := by
  rcases h with rfl | ⟨_, n, _, rfl⟩ | ⟨_, s, hs, rfl⟩
  · simp [Rw.none_, maxLen]
  · simp [maxLen]
  · simp only [maxLen]; omega
theorem Holds.at_ {kind : Int} {X : List Ce} {b : List UInt8} (h : Holds kind X b) (i : Nat) (hi : i < X.length) : LA b (i : Int) = X[i] := by
  unfold LA
  rw [h.cells, if_neg (by omega)]
  simp [List.getD, hi]
/-- The three cells of the laws' known column. -/
def K3 : List Ce := [⟨[], 1, 5, []⟩, Rw.none_, ⟨[], 1, 7, []⟩]
theorem k3_nrm : ∀ c ∈ K3, Nrm 1 c := by
  intro c hc
  simp only [K3, List.mem_cons, List.not_mem_nil, or_false] at hc
  rcases hc with rfl | rfl | rfl
  · exact Nrm.int ⟨by decide, by decide⟩
  · exact .inl rfl
  · exact Nrm.int ⟨by decide, by decide⟩
end Go.Proofs.YtnmonoafjijfhaaGreat
namespace Go.Proofs.YtnmonoafjijfhaaGreat
open Go.RowKit
set_option linter.unusedVariables false
set_option linter.unusedSimpArgs false
theorem ccell_ex {w w' : World} {p : Addr} {u : Value} (h : w.cell? p = some u) (hx : Ex w w') : w'.cell? p = some u := by rw [hx.cell (World.block_lt_of_cell? w _ h)]; exact h
set_option maxHeartbeats 4000000 in
set_option maxRecDepth 100000 in
theorem cells_is (a : Option Addr) (n cap : Nat) (l : List Ce) (a' : Option Addr) (n' cap' : Nat) (m : List Ce) (w : World) (hn : n = l.length) (hn' : n' = m.length) (hB : RdC w a cap l) (hB' : RdC w a' cap' m) (r : Bool) (hr : r = true ↔ l = m) :
    Calls Tryz.prog 21 #[.slice a n cap, .slice a' n' cap'] w fun e w' => e = .returned (.bool r) ∧ Ex w w' := by
  subst hn
  subst hn'
  have HB : Hid (RdC w a cap l) := hB
  have HB' : Hid (RdC w a' cap' m) := hB'
  have HR : Hid (r = true ↔ l = m) := hr
  have h1 := hB.1
  have h2 := hB.2.1
  have h3 := hB'.1
  have h4 := hB'.2.1
  unfold maxLen at h2 h4
  clear hB hB' hr
  go_enter Tryz.func21, Tryz.ntmps21
  by_cases hlm : l.length = m.length
  · have tl : ((l.length : Int) != (m.length : Int)) = false := by simp; omega
    go_wp2_with fail
    go_loopw [5] (fun iv wr => ∃ i : Nat, i ≤ l.length ∧ iv = .int .i64 i ∧ Hid (l.take i = m.take i) ∧ Hid (Ex w wr)) (fun iv wr => l.length - (intOf iv).toNat)
    case atStart => exact ⟨0, by omega, rfl, (by simp : l.take 0 = m.take 0), Ex.refl w⟩
    case round =>
      obtain ⟨i, hi, rfl, HT, HX⟩ := hrel
      by_cases hlt : i < l.length
      · have hti : (i : Int) < (l.length : Int) := by omega
        have hlt' : i < m.length := by omega
        obtain ⟨b, off, rfl, e0, e1, e2, e3⟩ := (RdC.four (HB.out.below HX.out) hlt)
        obtain ⟨b', off', rfl, d0, d1, d2, d3⟩ := (RdC.four (HB'.out.below HX.out) hlt')
        obtain ⟨x, hx⟩ : ∃ x, l[i] = x := ⟨_, rfl⟩
        obtain ⟨y, hy⟩ : ∃ y, m[i] = y := ⟨_, rfl⟩
        rw [hx] at e0 e1 e2 e3
        rw [hy] at d0 d1 d2 d3
        have hnx : l.take (i + 1) = l.take i ++ [x] := by rw [List.take_add_one, List.getElem?_eq_getElem hlt, hx]; rfl
        have hny : m.take (i + 1) = m.take i ++ [y] := by rw [List.take_add_one, List.getElem?_eq_getElem hlt', hy]; rfl
        have HNX : Hid (l.take (i + 1) = l.take i ++ [x]) := hnx
        have HNY : Hid (m.take (i + 1) = m.take i ++ [y]) := hny
        obtain ⟨q, hq⟩ : ∃ q : Bool, q = true ↔ ¬ x = y := by
          by_cases h : x = y
          · exact ⟨false, by simp [h]⟩
          · exact ⟨true, by simp [h]⟩
        have HQ : Hid (q = true ↔ ¬ x = y) := hq
        have E0 : Hid (_ = _) := e0
        have D0 : Hid (_ = _) := d0
        have E1 : Hid (_ = _) := e1
        have D1 : Hid (_ = _) := d1
        have E2 : Hid (_ = _) := e2
        have D2 : Hid (_ = _) := d2
        have E3 : Hid (_ = _) := e3
        have D3 : Hid (_ = _) := d3
        clear hx hy hnx hny hq e0 e1 e2 e3 d0 d1 d2 d3
        go_wp2_with fail
        have hre := Ex.refl
        refine Rg.wp_rows [.inl (Value.slice (some ⟨b, off, none⟩) l.length cap), .inl (Value.int .i64 i), .inl (Value.pointer (some ⟨b, off + i * 4, none⟩)), .inl (cv x), .inl (Value.slice (some ⟨b', off', none⟩) m.length cap'), .inl (Value.int .i64 i), .inl (Value.pointer (some ⟨b', off' + i * 4, none⟩)), .inl (cv y), .inl (.bool q)] (Ex wr) Ex 26 (by kernel_rfl) rfl (by kernel_rfl) ?st hre (Ex.drew _) ?goods ?fin
        case st => exact trivial
        case goods =>
          refine Rg.goods_cons (Rg.good_move hre rfl rfl rfl) ?_
          refine Rg.goods_cons (Rg.good_move hre rfl rfl rfl) ?_
          refine Rg.goods_cons (Rg.good_index hre rfl rfl rfl rfl (fun wx hC => by go_simp)) ?_
          refine Rg.goods_cons (Rg.good_load hre rfl rfl rfl (fun wx hC => loadI_cell (ccell_ex E0.out hC) (ccell_ex E1.out hC) (ccell_ex E2.out hC) (ccell_ex E3.out hC))) ?_
          refine Rg.goods_cons (Rg.good_move hre rfl rfl rfl) ?_
          refine Rg.goods_cons (Rg.good_move hre rfl rfl rfl) ?_
          refine Rg.goods_cons (Rg.good_index hre rfl rfl rfl rfl (fun wx hC => by go_simp)) ?_
          refine Rg.goods_cons (Rg.good_load hre rfl rfl rfl (fun wx hC => loadI_cell (ccell_ex D0.out hC) (ccell_ex D1.out hC) (ccell_ex D2.out hC) (ccell_ex D3.out hC))) ?_
          refine Rg.goods_cons (Rg.good_bin hre rfl rfl rfl rfl (fun w => guard_cell _ _ _ x y w) (fun w => neq_cell x y q HQ.out w)) ?_
          exact Rg.goods_nil
        case fin =>
          intro wx hx
          simp only [Rg.later, Act.put, List.setIfInBounds_toArray, List.set_cons_succ, List.set_cons_zero]
          have HXx : Hid (Ex w wx) := HX.out.trans hx
          clear hx
          cases q with
          | true =>
            go_wp2_with fail
            go_ret
            refine ⟨?_, HXx.out⟩
            have hne := HQ.out.1 (by simp)
            have hr : r = false := by
              cases r with
              | false => rfl
              | true =>
                have he := HR.out.1 rfl
                have h5 := HNX.out
                have h6 := HNY.out
                rw [he] at h5
                rw [h5, ← he, HT.out] at h6
                exact absurd (List.singleton_inj.1 (List.append_cancel_left h6)) hne
            rw [hr]; rfl
          | false =>
            have he : x = y := Classical.byContradiction fun h => by have := HQ.out.2 h; cases this
            have HT2 : Hid (l.take (i + 1) = m.take (i + 1)) := (by rw [HNX.out, HNY.out, HT.out, he] : l.take (i + 1) = m.take (i + 1))
            clear he
            go_wp2_with fail
            go_roundw
            case rel => exact ⟨i + 1, by omega, by go_num, HT2, HXx⟩
            case measure => simp [intOf]; omega
      · have hti : ¬ (i : Int) < (l.length : Int) := by omega
        obtain rfl : i = l.length := by omega
        go_wp2_with fail
        go_ret
        refine ⟨?_, HX.out⟩
        have he := HT.out
        rw [List.take_length, hlm, List.take_length] at he
        have hr := HR.out.2 he
        rw [hr]; rfl
  · have tl : ((l.length : Int) != (m.length : Int)) = true := by simp; omega
    go_wp2_with fail
    go_ret
    refine ⟨?_, Ex.refl _⟩
    have hr : r = false := by
      cases r with
      | false => rfl
      | true => exact absurd (congrArg List.length (HR.out.1 rfl)) hlm
    rw [hr]; rfl
end Go.Proofs.YtnmonoafjijfhaaGreat
namespace Go.Proofs.YtnmonoafjijfhaaGreat
open Go.RowKit
set_option linter.unusedVariables false
set_option linter.unusedSimpArgs false
set_option maxHeartbeats 8000000 in
set_option maxRecDepth 100000 in
theorem known_is (w : World) : Calls Tryz.prog 14 #[] w fun e w' => e = .returned (.bool true) ∧ Ex w w' := by
  obtain ⟨W, hW⟩ : ∃ W, W = w.alloc (.cells (flat cc K3).toArray 28) := ⟨_, rfl⟩
  have HX : Hid (Ex w W) := (by rw [hW]; exact (Below.refl _ _).alloc (Nat.le_refl _) _ : Ex w W)
  have HR : Hid (RdC W (some ⟨w.heap.size, 0, none⟩) 3 K3) := (by rw [hW]; exact RdW.laid (t := 28) cc_len w K3 (by simp [K3]) : RdC W (some ⟨w.heap.size, 0, none⟩) 3 K3)
  have HW : Hid (W = w.alloc (.cells #[.string { data := #[] }, .int .i64 1, .int .i64 5, .string { data := #[] }, .string { data := #[] }, .int .i64 0, .int .i64 0, .string { data := #[] }, .string { data := #[] }, .int .i64 1, .int .i64 7, .string { data := #[] }] 28)) := (by rw [hW]; rfl : W = w.alloc (.cells #[.string { data := #[] }, .int .i64 1, .int .i64 5, .string { data := #[] }, .string { data := #[] }, .int .i64 0, .int .i64 0, .string { data := #[] }, .string { data := #[] }, .int .i64 1, .int .i64 7, .string { data := #[] }] 28))
  obtain ⟨r, e0, hr⟩ : ∃ r e, Ck.encE 1 K3 = (r, e) := ⟨_, _, rfl⟩
  have HEnc : Hid (Ck.encE 1 K3 = (r, e0)) := hr
  have h0 : e0 = 0 ∧ Holds 1 K3 r := Holds.of (.inl rfl) (by simp [K3]) k3_nrm hr
  obtain ⟨rfl, hH⟩ := h0
  have HH : Hid (Holds 1 K3 r) := hH
  clear hW hr hH
  go_enter Tryz.func14, Tryz.ntmps14
  go_wp2_with fail
  rw [← HW.out]
  refine (encode_is 1 (some ⟨w.heap.size, 0, none⟩) 3 3 K3 W rfl HR.out (nrm_all k3_nrm).2.2 r 0 HEnc.out).mono ?_
  rintro e1 w1 ⟨v, rfl, ho1, hx1⟩
  obtain ⟨a1, c1, rfl, hb1⟩ := ho1.byt
  have hlr : r.length ≤ 140737488355328 := by have := HH.out.short; omega
  obtain ⟨nr, hnr⟩ : ∃ nr, r.length = nr := ⟨_, rfl⟩
  rw [hnr]
  have HNr : Hid (r.length = nr) := hnr
  have HLr : Hid (r.length ≤ 140737488355328) := hlr
  have HB1 : Hid (Byt w1 a1 c1 r) := hb1
  have HX1 : Hid (Ex w w1) := HX.out.trans hx1
  have HR1 : Hid (RdC w1 (some ⟨w.heap.size, 0, none⟩) 3 K3) := HR.out.below hx1
  have HS1 : Hid (W.heap.size ≤ w1.heap.size ∧ W.heap.size = w.heap.size + 1) := ⟨hx1.size, by rw [HW.out]; simp⟩
  clear ho1 hx1 hb1 hlr hnr
  go_wp2_with fail
  refine (open_is a1 nr c1 r w1 HNr.out.symm HB1.out HLr.out).mono ?_
  rintro e2 w2 ⟨v2, rfl, hop, hx2⟩
  obtain ⟨g, fp, rfl, hok, hu, hg, hfp⟩ := hop.1 HH.out.good
  have HOk : Hid (Ok r) := hok
  have HC : Hid (Chk w2 g r fp) := .inl hu
  have HG : Hid (w1.heap.size ≤ g ∧ ∀ q, fp q → w1.heap.size ≤ q) := ⟨hg, hfp⟩
  have HX2 : Hid (Ex w w2) := HX1.out.trans hx2
  have HR2 : Hid (RdC w2 (some ⟨w.heap.size, 0, none⟩) 3 K3) := HR1.out.below hx2
  clear hop hx2 hok hu hg hfp
  go_wp2_with fail
  refine (rows_is g r fp w2 HC.out).mono ?_
  rintro e3 w3 ⟨rfl, rfl⟩
  have hl3 : ((LC r).length : Int) = 3 := by rw [HH.out.cells]; rfl
  rw [hl3]
  clear hl3
  go_wp2_with fail
  refine (kind_is g r fp w3 HC.out).mono ?_
  rintro e4 w4 ⟨rfl, rfl⟩
  rw [HH.out.kind]
  go_wp2_with fail
  obtain ⟨W5, hW5⟩ : ∃ W5, W5 = w4.alloc (.cells #[Value.int IntKind.i64 0, Value.int IntKind.i64 1, Value.int IntKind.i64 2] 3) := ⟨_, rfl⟩
  rw [← hW5]
  have hx5 : Ex w4 W5 := by rw [hW5]; exact (Below.refl _ _).alloc (Nat.le_refl _) _
  have hL5 : Rd z64 W5 (some ⟨w4.heap.size, 0, none⟩) 3 [0, 1, 2] := by
    rw [hW5]
    exact Rd.laid (enc := z64) w4 3 [0, 1, 2] (by simp)
  have hgl := HC.out.lt
  refine (pick_is g r fp (some ⟨w4.heap.size, 0, none⟩) 3 3 [0, 1, 2] W5 (HC.out.below hx5) HOk.out rfl hL5 (fun _ q off he => by simp only [Option.some.injEq, Addr.mk.injEq] at he; omega) (by simp)).mono ?_
  rintro e6 w6 ⟨hh, rfl, hp⟩
  obtain ⟨fp6, _, _, hrow, hhl, hg6⟩ := hp
  have hm : ([0, 1, 2] : List Int).map (LA r) = K3 := by
    have h1 := HH.out.at_ 0 (by simp [K3])
    have h2 := HH.out.at_ 1 (by simp [K3])
    have h3 := HH.out.at_ 2 (by simp [K3])
    simp only [List.map_cons, List.map_nil]
    exact congr (congrArg List.cons h1) (congr (congrArg List.cons h2) (congrArg (fun x => [x]) h3))
  rw [hm] at hrow
  have HRow : Hid (CRow w6 hh K3) := hrow
  have HR6 : Hid (RdC w6 (some ⟨w.heap.size, 0, none⟩) 3 K3) := RdW.far (HR2.out.below hx5) hg6 (fun _ q off he hh => by simp only [Option.some.injEq, Addr.mk.injEq] at he hh; have h1 := HG.out.1; have h2 := HS1.out; omega)
  have HX6 : Hid (Ex w w6) := Below.grown (HX2.out.trans hx5) hg6 (HX2.out.trans hx5).size (fun k hk => by simp only [Option.some.injEq] at hk; have h1 := HG.out.1; have h2 := HS1.out; omega)
  clear hrow hhl hg6 hm hL5 hx5 hW5 hgl
  go_wp2_with fail
  refine (cells_is (some ⟨hh, 0, none⟩) 3 3 K3 (some ⟨w.heap.size, 0, none⟩) 3 3 K3 w6 rfl rfl (HRow.out.rd rfl (by omega)) HR6.out true (by simp)).mono ?_
  rintro e7 w7 ⟨rfl, hx7⟩
  go_wp2_with fail
  go_ret
  exact ⟨rfl, HX6.out.trans hx7⟩
end Go.Proofs.YtnmonoafjijfhaaGreat
namespace Go.Proofs.YtnmonoafjijfhaaGreat
open Go.RowKit
set_option linter.unusedVariables false
set_option linter.unusedSimpArgs false
/-- The chunk g of the bytes b, and the cells X that stand beside it, behind the world w. -/
def BackC (w : World) (g : Nat) (b : List UInt8) (a : Option Addr) (cap : Nat) (X : List Ce) (wx : World) : Prop :=
  (∃ fp, Chk wx g b fp ∧ ∀ q, fp q → w.heap.size ≤ q) ∧ RdC wx a cap X ∧ Ex w wx ∧ w.heap.size ≤ g ∧ (0 < X.length → ∀ q off, a = some ⟨q, off, none⟩ → q ≠ g)
section
variable {w wx w' : World} {g : Nat} {b : List UInt8} {a : Option Addr} {cap : Nat} {X : List Ce}
theorem BackC.below (h : BackC w g b a cap X wx) (hx : Ex wx w') : BackC w g b a cap X w' := by
  obtain ⟨⟨fp, h1, h2⟩, h3, h4, h5, h6⟩ := h
  exact ⟨⟨fp, h1.below hx, h2⟩, h3.below hx, h4.trans hx, h5, h6⟩
theorem BackC.after {fp : Nat → Prop} (h : BackC w g b a cap X wx) (hf : ∀ q, fp q → w.heap.size ≤ q) (ha : After wx w' g b fp) : BackC w g b a cap X w' := by
  obtain ⟨_, h3, h4, h5, h6⟩ := h
  obtain ⟨fp', h7, h8, h9⟩ := ha
  have hs := h4.size
  refine ⟨⟨fp', h7, fun q hq => (h8 q hq).elim (hf q) (fun h => by omega)⟩, RdW.far h3 h9 (fun h0 q off he hh => h6 h0 q off he (by simp only [Option.some.injEq] at hh; omega)), Below.grown h4 h9 hs (fun k hk => by simp only [Option.some.injEq] at hk; omega), h5, h6⟩
theorem BackC.cell (h : BackC w g b a cap X wx) (hok : Ok b) (I : Int) : Calls Tryz.prog 22 #[.pointer (some ⟨g, 0, none⟩), .int .i64 I] wx fun e w' => e = .returned (cv (LA b I)) ∧ BackC w g b a cap X w' := by
  obtain ⟨⟨fp, h1, h2⟩, h3⟩ := id h
  refine (cell_is g b fp I wx h1 hok).mono ?_
  rintro e w' ⟨rfl, ha⟩
  exact ⟨rfl, h.after h2 ha⟩
theorem BackC.load (h : BackC w g b a cap X wx) {i q off : Nat} (hi : i < X.length) (ha : a = some ⟨q, off, none⟩) : (Instr.loadAt 28 (.pointer (some ⟨q, off + i * 4, none⟩))).run Tryz.prog wx = .ok (cv X[i]) wx := by
  obtain ⟨q', off', he, f0, f1, f2, f3⟩ := RdC.four h.2.1 hi
  rw [ha] at he
  simp only [Option.some.injEq, Addr.mk.injEq, and_true] at he
  obtain ⟨rfl, rfl⟩ := he
  exact loadI_cell f0 f1 f2 f3
end
end Go.Proofs.YtnmonoafjijfhaaGreat
namespace Go.Proofs.YtnmonoafjijfhaaGreat
open Go.RowKit
set_option linter.unusedVariables false
set_option linter.unusedSimpArgs false
/-- The chunk g of the bytes b, made behind the place B; cells X and numbers A of blocks ahead of S; what was handed out has the block ne. -/
def PkC (w : World) (S B : Nat) (ne : Option Nat) (g : Nat) (b : List UInt8) (a : Option Addr) (cap : Nat) (X : List Ce) (p : Option Addr) (c : Nat) (A : List Int) (wx : World) : Prop :=
  (∃ fp, Chk wx g b fp ∧ ∀ q, fp q → B ≤ q ∧ ne ≠ some q) ∧ RdC wx a cap X ∧ Rd z64 wx p c A ∧ Ex w wx ∧ (w.heap.size ≤ S ∧ S ≤ B ∧ B ≤ g ∧ ne ≠ some g) ∧
  (0 < X.length → ∀ q off, a = some ⟨q, off, none⟩ → q < S) ∧ (0 < A.length → ∀ q off, p = some ⟨q, off, none⟩ → q < S)
section
variable {w wx w' : World} {S B : Nat} {ne : Option Nat} {g : Nat} {b : List UInt8} {a : Option Addr} {cap : Nat} {X : List Ce} {p : Option Addr} {c : Nat} {A : List Int}
theorem PkC.below (h : PkC w S B ne g b a cap X p c A wx) (hx : Ex wx w') : PkC w S B ne g b a cap X p c A w' := by
  obtain ⟨⟨fp, h1, h2⟩, h3, h4, h5, h6⟩ := h
  exact ⟨⟨fp, h1.below hx, h2⟩, h3.below hx, h4.below hx, h5.trans hx, h6⟩
/-- A block of what is read stays as it was where some other block is written into. -/
theorem PkC.move {g' : Nat} (h : PkC w S B ne g b a cap X p c A wx) (hg : wx.grownBy w' (some g')) (hS : S ≤ g') : RdC w' a cap X ∧ Rd z64 w' p c A ∧ Ex w w' := by
  obtain ⟨_, h3, h4, h5, ⟨k1, _⟩, h6, h7⟩ := h
  have hs := h5.size
  exact ⟨RdW.far h3 hg (fun h0 q off he e => by have := h6 h0 q off he; simp only [Option.some.injEq] at e; omega), rd_far h4 hg (fun h0 q off he e => by have := h7 h0 q off he; simp only [Option.some.injEq] at e; omega), Below.grown h5 hg hs (fun k hk => by simp only [Option.some.injEq] at hk; omega)⟩
theorem PkC.chunk (h : PkC w S B ne g b a cap X p c A wx) {fp' : Nat → Prop} {ne' : Option Nat} (hg : wx.grownBy w' (some g)) (hC : Chk w' g b fp') (hf : ∀ q, fp' q → B ≤ q ∧ ne' ≠ some q) (hne : ne' ≠ some g) : PkC w S B ne' g b a cap X p c A w' := by
  obtain ⟨m1, m2, m3⟩ := h.move hg (by obtain ⟨_, _, _, _, ⟨_, k2, k3, _⟩, _⟩ := h; omega)
  obtain ⟨_, _, _, _, ⟨k1, k2, k3, k4⟩, h6⟩ := h
  exact ⟨⟨fp', hC, hf⟩, m1, m2, m3, ⟨k1, k2, k3, hne⟩, h6⟩
theorem PkC.size (h : PkC w S B ne g b a cap X p c A wx) : B ≤ wx.heap.size ∧ g < wx.heap.size := by
  obtain ⟨⟨fp, h1, _⟩, _, _, _, ⟨_, _, k3, _⟩, _⟩ := h
  have := h1.lt
  omega
theorem PkC.pick (h : PkC w S B ne g b a cap X p c A wx) (hok : Ok b) {n : Nat} (hn : n = A.length) (hl : n ≤ 60) :
    Calls Tryz.prog 27 #[.pointer (some ⟨g, 0, none⟩), .slice p n c] wx fun e w' => ∃ hh, e = .returned (.slice (some ⟨hh, 0, none⟩) n n) ∧ PkC w S B (some hh) g b a cap X p c A w' ∧ CRow w' hh (A.map (LA b)) ∧ B ≤ hh := by
  obtain ⟨⟨fp, h1, h2⟩, _, h4, _, ⟨_, k2, k3, _⟩, _, h7⟩ := id h
  have hs := h.size
  refine (pick_is g b fp p n c A wx h1 hok hn h4 (fun h0 q off he => by have := h7 h0 q off he; omega) (by omega)).mono ?_
  rintro e w' ⟨hh, rfl, fp', c1, c2, c3, c4, c5⟩
  exact ⟨hh, rfl, h.chunk c5 c1 (fun q hq => ⟨(c2 q hq).1.elim (fun h => (h2 q h).1) (fun h => by omega), by have := (c2 q hq).2; simp; omega⟩) (by simp; omega), c3, by omega⟩
end
end Go.Proofs.YtnmonoafjijfhaaGreat
