/-
  The laws' own made: a column of one kind, as some list of normal cells. What Open finds in the bytes of a column of normal cells. The books' own Cells and Cols: the same lists?
-/
import Derived.Test.YtnmonoafjijfhaaGreatM48
import Derived.Laws.Runes
import Derived.Test.YtnmonoafjijfhaaGreatM41
namespace Go.Proofs.YtnmonoafjijfhaaGreat
open Go.RowKit
set_option linter.unusedVariables false
set_option linter.unusedSimpArgs false
theorem rune_len (n : Int) : ∃ t : List UInt8, t.length ≤ 4 ∧ Utf8.encode n = str t := by
  obtain ⟨t, ht⟩ := str_of (Utf8.encode n)
  refine ⟨t, ?_, ht⟩
  have h2 : (Utf8.encode n).size ≤ 4 := by
    unfold Utf8.encode
    generalize (if Utf8.valid n = true then n.toNat else Utf8.runeError) = c
    simp only
    repeat' split
    all_goals (first | decide | (show Array.size _ ≤ 4; simp) | simp [ByteArray.size])
  rw [ht, str_size] at h2
  exact h2
theorem rune_conv (n : Int) : ∃ t : List UInt8, t.length ≤ 4 ∧ ∀ w : World, (convert 21 9 (.int .i32 n)).run Tryz.prog w = .ok (.string (str t)) w := by
  obtain ⟨t, h1, ht⟩ := rune_len n
  refine ⟨t, h1, fun w => ?_⟩
  rw [run_convert_int_string w 21 9 .i32 n (by kernel_rfl) Tryz.underlying9, ht]
/-- A cell as a column keeps it. -/
def Nrm (kind : Int) (c : Ce) : Prop := c = Rw.none_ ∨ (kind = 1 ∧ ∃ n, In64 n ∧ c = ⟨[], 1, n, []⟩) ∨ (kind = 2 ∧ ∃ s : List UInt8, s.length ≤ 40 ∧ c = ⟨[], 2, 0, s⟩)
theorem Nrm.int {n : Int} (h : In64 n) : Nrm 1 ⟨[], 1, n, []⟩ := .inr (.inl ⟨rfl, n, h, rfl⟩)
theorem Nrm.fits {kind : Int} {c : Ce} (h : Nrm kind c) : Ck.fits kind c = true ∧ Ck.cz c = c ∧ In64 c.n := by
  rcases h with rfl | ⟨rfl, n, hn, rfl⟩ | ⟨rfl, s, hs, rfl⟩
  · exact ⟨(Ck.fits_iff _ _).2 ⟨.inl rfl, fun h => by simp [Rw.none_] at h⟩, rfl, by decide, by decide⟩
  · exact ⟨(Ck.fits_iff _ _).2 ⟨.inr rfl, fun h => by simp at h⟩, rfl, hn⟩
  · exact ⟨(Ck.fits_iff _ _).2 ⟨.inr rfl, fun _ => hs⟩, rfl, (⟨by decide, by decide⟩ : In64 0)⟩
theorem nrm_all {kind : Int} {X : List Ce} (h : ∀ c ∈ X, Nrm kind c) : X.all (Ck.fits kind) = true ∧ X.map Ck.cz = X ∧ ∀ c ∈ X, In64 c.n := by
  refine ⟨List.all_eq_true.2 fun c hc => (h c hc).fits.1, ?_, fun c hc => (h c hc).fits.2.2⟩
  have : X.map Ck.cz = X.map id := List.map_congr_left fun c hc => (h c hc).fits.2.1
  rw [this, List.map_id]
theorem cat_str (a t : List UInt8) : str a ++ str t = str (a ++ t) := by
  apply ByteArray.ext
  simp [str]
end Go.Proofs.YtnmonoafjijfhaaGreat
namespace Go.Proofs.YtnmonoafjijfhaaGreat
open Go.RowKit
set_option linter.unusedVariables false
set_option linter.unusedSimpArgs false
theorem enc_short {kind : Int} {l : List Ce} (hk : kind = 1 ∨ kind = 2) (hl : l.length ≤ 65536) (hf : l.all (Ck.fits kind) = true) : (Ck.enc kind l).length ≤ 8000000 := by
  have h1 := hd_len (Ck.form kind l) l hl
  have hv := Ck.vals_len l
  have ht := txts_len l
  unfold Ck.enc
  rw [List.length_append]
  have h2 : (Ck.body (Ck.form kind l) l).length ≤ 4000000 := by
    rcases hk with rfl | rfl
    · have h3 := Ck.bI_len (Ck.nums l)
      have h4 : (Ck.nums l).length = (Ck.vals l).length := by simp [Ck.nums]
      have h5 : Ck.body (Ck.form 1 l) l = Ck.bI (Ck.nums l) := by simp [Ck.form, Ck.body]
      rw [h5]; omega
    · have h40 := txts_40 hf
      by_cases h : (T.bld (Ck.txts l)).length ≤ 16
      · have h5 : Ck.body (Ck.form 2 l) l = Ck.bL (Ck.txts l) := by simp [Ck.form, Ck.body, h]
        have hd := (M.digs_len (T.bld (Ck.txts l)).length).2
        have h2 := T.texts_len (T.bld (Ck.txts l)) (fun s hs => by have := h40 s ((T.mem_bld _ _).1 hs); omega)
        have h3 := enc_len (pl_w32 (Ck.txts l) (by omega)) _ (Ck.pl (Ck.txts l)) (Nat.le_refl _)
        rw [Ck.pl_len] at h3
        rw [h5]
        unfold Ck.bL T.enc
        simp only [List.length_append]
        omega
      · have h5 : Ck.body (Ck.form 2 l) l = T.texts (Ck.txts l) := by simp [Ck.form, Ck.body, h]
        have h6 := T.texts_len (Ck.txts l) (fun s hs => by have := h40 s hs; omega)
        rw [h5]; omega
  omega
/-- The bytes b hold the column X of one kind. -/
structure Holds (kind : Int) (X : List Ce) (b : List UInt8) : Prop where
  enc : b = Ck.enc kind X
  good : Ck.encE (LK b) (LC b) = (b, 0) ∧ (Ck.lread b).s.y = 0
  cells : LC b = X
  kind : LK b = kind
  short : b.length ≤ 8000000
theorem holds_enc {kind : Int} {X : List Ce} (hk : kind = 1 ∨ kind = 2) (hl : X.length ≤ 65536) (hX : ∀ c ∈ X, Nrm kind c) : Holds kind X (Ck.enc kind X) := by
  obtain ⟨hf, hz, h64⟩ := nrm_all hX
  have ho := Ck.opn_enc hk hl hf h64
  rw [hz] at ho
  have hs := enc_short hk hl hf
  obtain ⟨b, hb⟩ : ∃ b, Ck.enc kind X = b := ⟨_, rfl⟩
  rw [hb] at ho hs ⊢
  obtain ⟨h1, h2⟩ := opn_is b
  by_cases hy : (Ck.lread b).s.y = 0
  · obtain ⟨d, _, _, h3⟩ := h2 hy
    rw [ho] at h3
    by_cases hc : Ck.encE (LK b) (LC b) = (b, 0)
    · rw [if_pos hc] at h3
      simp only [Option.some.injEq, Prod.mk.injEq] at h3
      exact ⟨hb.symm, ⟨hc, hy⟩, h3.2.1.symm, h3.1.symm, hs⟩
    · rw [if_neg hc] at h3
      simp at h3
  · rw [h1 hy] at ho
    simp at ho
theorem Holds.of {kind : Int} {X : List Ce} {r : List UInt8} {e : Nat} (hk : kind = 1 ∨ kind = 2) (hl : X.length ≤ 65536) (hX : ∀ c ∈ X, Nrm kind c) (hr : Ck.encE kind X = (r, e)) : e = 0 ∧ Holds kind X r := by
  rw [Ck.encE_ok hk hl (nrm_all hX).1] at hr
  simp only [Prod.mk.injEq] at hr
  obtain ⟨rfl, rfl⟩ := hr
  exact ⟨rfl, holds_enc hk hl hX⟩
/-- Alike bytes, alike columns. -/
theorem Holds.inj {kind : Int} {X Y : List Ce} {a b : List UInt8} (ha : Holds kind X a) (hb : Holds kind Y b) : a = b ↔ X = Y :=
  ⟨fun h => by rw [← ha.cells, ← hb.cells, h], fun h => by rw [ha.enc, hb.enc, h]⟩
theorem Nrm.short {kind : Int} {c : Ce} (h : Nrm kind c) : c.s.length ≤ maxLen := by
  rcases h with rfl | ⟨_, n, _, rfl⟩ | ⟨_, s, hs, rfl⟩
  · simp [Rw.none_, maxLen]
  · simp [maxLen]
  · simp only [maxLen]; omega
theorem Holds.at_ {kind : Int} {X : List Ce} {b : List UInt8} (h : Holds kind X b) (i : Nat) (hi : i < X.length) : LA b (i : Int) = X[i] := by
  unfold LA
  rw [h.cells, if_neg (by omega)]
  simp [List.getD, hi]
/-- The three cells of the laws' known column. -/
def K3 : List Ce := [⟨[], 1, 5, []⟩, Rw.none_, ⟨[], 1, 7, []⟩]
theorem k3_nrm : ∀ c ∈ K3, Nrm 1 c := by
  intro c hc
  simp only [K3, List.mem_cons, List.not_mem_nil, or_false] at hc
  rcases hc with rfl | rfl | rfl
  · exact Nrm.int ⟨by decide, by decide⟩
  · exact .inl rfl
  · exact Nrm.int ⟨by decide, by decide⟩
end Go.Proofs.YtnmonoafjijfhaaGreat
namespace Go.Proofs.YtnmonoafjijfhaaGreat
open Go.RowKit
set_option linter.unusedVariables false
set_option linter.unusedSimpArgs false
theorem ccell_ex {w w' : World} {p : Addr} {u : Value} (h : w.cell? p = some u) (hx : Ex w w') : w'.cell? p = some u := by rw [hx.cell (World.block_lt_of_cell? w _ h)]; exact h
set_option maxHeartbeats 4000000 in
set_option maxRecDepth 100000 in
theorem cells_is (a : Option Addr) (n cap : Nat) (l : List Ce) (a' : Option Addr) (n' cap' : Nat) (m : List Ce) (w : World) (hn : n = l.length) (hn' : n' = m.length) (hB : RdC w a cap l) (hB' : RdC w a' cap' m) (r : Bool) (hr : r = true ↔ l = m) :
    Calls Tryz.prog 21 #[.slice a n cap, .slice a' n' cap'] w fun e w' => e = .returned (.bool r) ∧ Ex w w' := by
  subst hn
  subst hn'
  have HB : Hid (RdC w a cap l) := hB
  have HB' : Hid (RdC w a' cap' m) := hB'
  have HR : Hid (r = true ↔ l = m) := hr
  have h1 := hB.1
  have h2 := hB.2.1
  have h3 := hB'.1
  have h4 := hB'.2.1
  unfold maxLen at h2 h4
  clear hB hB' hr
  go_enter Tryz.func21, Tryz.ntmps21
  by_cases hlm : l.length = m.length
  · have tl : ((l.length : Int) != (m.length : Int)) = false := by simp; omega
    go_wp2_with fail
    go_loopw [5] (fun iv wr => ∃ i : Nat, i ≤ l.length ∧ iv = .int .i64 i ∧ Hid (l.take i = m.take i) ∧ Hid (Ex w wr)) (fun iv wr => l.length - (intOf iv).toNat)
    case atStart => exact ⟨0, by omega, rfl, (by simp : l.take 0 = m.take 0), Ex.refl w⟩
    case round =>
      obtain ⟨i, hi, rfl, HT, HX⟩ := hrel
      by_cases hlt : i < l.length
      · have hti : (i : Int) < (l.length : Int) := by omega
        have hlt' : i < m.length := by omega
        obtain ⟨b, off, rfl, e0, e1, e2, e3⟩ := (RdC.four (HB.out.below HX.out) hlt)
        obtain ⟨b', off', rfl, d0, d1, d2, d3⟩ := (RdC.four (HB'.out.below HX.out) hlt')
        obtain ⟨x, hx⟩ : ∃ x, l[i] = x := ⟨_, rfl⟩
        obtain ⟨y, hy⟩ : ∃ y, m[i] = y := ⟨_, rfl⟩
        rw [hx] at e0 e1 e2 e3
        rw [hy] at d0 d1 d2 d3
        have hnx : l.take (i + 1) = l.take i ++ [x] := by rw [List.take_add_one, List.getElem?_eq_getElem hlt, hx]; rfl
        have hny : m.take (i + 1) = m.take i ++ [y] := by rw [List.take_add_one, List.getElem?_eq_getElem hlt', hy]; rfl
        have HNX : Hid (l.take (i + 1) = l.take i ++ [x]) := hnx
        have HNY : Hid (m.take (i + 1) = m.take i ++ [y]) := hny
        obtain ⟨q, hq⟩ : ∃ q : Bool, q = true ↔ ¬ x = y := by
          by_cases h : x = y
          · exact ⟨false, by simp [h]⟩
          · exact ⟨true, by simp [h]⟩
        have HQ : Hid (q = true ↔ ¬ x = y) := hq
        have E0 : Hid (_ = _) := e0
        have D0 : Hid (_ = _) := d0
        have E1 : Hid (_ = _) := e1
        have D1 : Hid (_ = _) := d1
        have E2 : Hid (_ = _) := e2
        have D2 : Hid (_ = _) := d2
        have E3 : Hid (_ = _) := e3
        have D3 : Hid (_ = _) := d3
        clear hx hy hnx hny hq e0 e1 e2 e3 d0 d1 d2 d3
        go_wp2_with fail
        have hre := Ex.refl
        refine Rg.wp_rows [.inl (Value.slice (some ⟨b, off, none⟩) l.length cap), .inl (Value.int .i64 i), .inl (Value.pointer (some ⟨b, off + i * 4, none⟩)), .inl (cv x), .inl (Value.slice (some ⟨b', off', none⟩) m.length cap'), .inl (Value.int .i64 i), .inl (Value.pointer (some ⟨b', off' + i * 4, none⟩)), .inl (cv y), .inl (.bool q)] (Ex wr) Ex 26 (by kernel_rfl) rfl (by kernel_rfl) ?st hre (Ex.drew _) ?goods ?fin
        case st => exact trivial
        case goods =>
          refine Rg.goods_cons (Rg.good_move hre rfl rfl rfl) ?_
          refine Rg.goods_cons (Rg.good_move hre rfl rfl rfl) ?_
          refine Rg.goods_cons (Rg.good_index hre rfl rfl rfl rfl (fun wx hC => by go_simp)) ?_
          refine Rg.goods_cons (Rg.good_load hre rfl rfl rfl (fun wx hC => loadI_cell (ccell_ex E0.out hC) (ccell_ex E1.out hC) (ccell_ex E2.out hC) (ccell_ex E3.out hC))) ?_
          refine Rg.goods_cons (Rg.good_move hre rfl rfl rfl) ?_
          refine Rg.goods_cons (Rg.good_move hre rfl rfl rfl) ?_
          refine Rg.goods_cons (Rg.good_index hre rfl rfl rfl rfl (fun wx hC => by go_simp)) ?_
          refine Rg.goods_cons (Rg.good_load hre rfl rfl rfl (fun wx hC => loadI_cell (ccell_ex D0.out hC) (ccell_ex D1.out hC) (ccell_ex D2.out hC) (ccell_ex D3.out hC))) ?_
          refine Rg.goods_cons (Rg.good_bin hre rfl rfl rfl rfl (fun w => guard_cell _ _ _ x y w) (fun w => neq_cell x y q HQ.out w)) ?_
          exact Rg.goods_nil
        case fin =>
          intro wx hx
          simp only [Rg.later, Act.put, List.setIfInBounds_toArray, List.set_cons_succ, List.set_cons_zero]
          have HXx : Hid (Ex w wx) := HX.out.trans hx
          clear hx
          cases q with
          | true =>
            go_wp2_with fail
            go_ret
            refine ⟨?_, HXx.out⟩
            have hne := HQ.out.1 (by simp)
            have hr : r = false := by
              cases r with
              | false => rfl
              | true =>
                have he := HR.out.1 rfl
                have h5 := HNX.out
                have h6 := HNY.out
                rw [he] at h5
                rw [h5, ← he, HT.out] at h6
                exact absurd (List.singleton_inj.1 (List.append_cancel_left h6)) hne
            rw [hr]; rfl
          | false =>
            have he : x = y := Classical.byContradiction fun h => by have := HQ.out.2 h; cases this
            have HT2 : Hid (l.take (i + 1) = m.take (i + 1)) := (by rw [HNX.out, HNY.out, HT.out, he] : l.take (i + 1) = m.take (i + 1))
            clear he
            go_wp2_with fail
            go_roundw
            case rel => exact ⟨i + 1, by omega, by go_num, HT2, HXx⟩
            case measure => simp [intOf]; omega
      · have hti : ¬ (i : Int) < (l.length : Int) := by omega
        obtain rfl : i = l.length := by omega
        go_wp2_with fail
        go_ret
        refine ⟨?_, HX.out⟩
        have he := HT.out
        rw [List.take_length, hlm, List.take_length] at he
        have hr := HR.out.2 he
        rw [hr]; rfl
  · have tl : ((l.length : Int) != (m.length : Int)) = true := by simp; omega
    go_wp2_with fail
    go_ret
    refine ⟨?_, Ex.refl _⟩
    have hr : r = false := by
      cases r with
      | false => rfl
      | true => exact absurd (congrArg List.length (HR.out.1 rfl)) hlm
    rw [hr]; rfl
end Go.Proofs.YtnmonoafjijfhaaGreat
