/-
  The contracts of the document's own 'same' and 'few' (layer 5) over the program. The contract of the document's own Encode (layer 5) over the program.
-/
import Derived.Test.YtnmonoafjijfhaaGreatM12
import Derived.Test.YtnmonoafjijfhaaGreatM15
import Derived.Test.YtnmonoafjijfhaaGreatM19
import Derived.Test.YtnmonoafjijfhaaGreatM02
namespace Go.Proofs.YtnmonoafjijfhaaGreat
open Go.RowKit
set_option linter.unusedVariables false

theorem tw_step {l : List Nat} {x n : Nat} (h : n < l.length) (e : l[n] = x) : R.tw x (l.drop n) = 1 + R.tw x (l.drop (n + 1)) := by
  rw [List.drop_eq_getElem_cons h]; simp [R.tw, e]
theorem tw_stop {l : List Nat} {x n : Nat} (h : n < l.length) (e : ¬ l[n] = x) : R.tw x (l.drop n) = 0 := by
  rw [List.drop_eq_getElem_cons h]; simp [R.tw, e]
theorem runLen_at {l : List Nat} {p : Nat} (h : p < l.length) : R.runLen (l.drop p) = R.tw l[p] (l.drop p) := by
  unfold R.runLen
  rw [List.drop_eq_getElem_cons h]; rfl

set_option maxRecDepth 100000 in
theorem rsame_is (a : Option Addr) (len cap : Nat) (l : List Nat) (i : Int) (p : Nat) (w : World) (hlen : len = l.length) (hi : i = (p : Int)) (hp : p < l.length) (hB : Rd n64 w a cap l) (R' : Nat) (hR : R.runLen (l.drop p) = R') :
    Calls Tryz.prog 76 #[.slice a len cap, .int .i64 i] w fun e w' => e = .returned (.int .i64 R') ∧ Ex w w' := by
  subst hlen
  subst hi
  have g1 := hB.1
  have g2 := hB.2.1
  unfold maxLen at g2
  rw [runLen_at hp] at hR
  obtain ⟨b1, o1, rfl, hc1⟩ := hB.at hp
  obtain ⟨x, hx⟩ : ∃ x, x = l[p] := ⟨_, rfl⟩
  rw [← hx] at hc1 hR
  have hcx : w.cell? ⟨b1, o1 + p, none⟩ = some (.int .u64 (x : Int)) := hc1
  have hip : (p : Int) < (l.length : Int) := by omega
  have HB : Hid (Rd n64 w (some ⟨b1, o1, none⟩) cap l) := hB
  have HR : Hid (R.tw x (l.drop p) = R') := hR
  clear hB hR hc1 hx
  go_enter Tryz.func76, Tryz.ntmps76
  go_wp2
  go_loopw [5] (fun v wr => ∃ n : Nat, p ≤ n ∧ n ≤ l.length ∧ v = .int .i64 n ∧ Hid (R.tw x (l.drop n) + (n - p) = R') ∧ ∃ q, wr = w.drewN q) (fun v _ => l.length - (intOf v).toNat)
  case atStart => exact ⟨p, by omega, by omega, rfl, (by have := HR.out; omega : R.tw x (l.drop p) + (p - p) = R'), 0, rfl⟩
  case round =>
    obtain ⟨n, hn1, hn2, rfl, HT, q, rfl⟩ := hrel
    by_cases hlt : n < l.length
    · obtain ⟨b2, o2, he, hc2⟩ := HB.out.at hlt
      simp only [Option.some.injEq, Addr.mk.injEq] at he
      obtain ⟨rfl, rfl, _⟩ := he
      have hst := @tw_step l x n hlt
      have hsp := @tw_stop l x n hlt
      obtain ⟨y, hy⟩ : ∃ y, y = l[n] := ⟨_, rfl⟩
      rw [← hy] at hc2 hst hsp
      have hcy : w.cell? ⟨b1, o1 + n, none⟩ = some (.int .u64 (y : Int)) := hc2
      have hin : (n : Int) < (l.length : Int) := by omega
      have hd : decide ((n : Int) < (l.length : Int)) = true := by simp; omega
      by_cases he : y = x
      · have hxy : ((y : Int) == (x : Int)) = true := by simp; omega
        have HT2 : Hid (R.tw x (l.drop (n + 1)) + (n + 1 - p) = R') := (by have := HT.out; have := hst he; omega : R.tw x (l.drop (n + 1)) + (n + 1 - p) = R')
        have hle1 : x ≤ y := by omega
        have hle2 : y ≤ x := by omega
        clear hc2 hy hst hsp he
        go_wp2
        go_quiet (fail)
        go_wp2
        go_roundw
        case rel => exact ⟨n + 1, by omega, by omega, by go_num, HT2, q + nq, rfl⟩
        case measure => simp [intOf]; omega
      · have hxy : ((y : Int) == (x : Int)) = false := by simp; omega
        have HT2 : Hid (n - p = R') := (by have := HT.out; have := hsp he; omega : n - p = R')
        clear hc2 hy hst hsp
        go_wp2
        go_quiet (fail)
        go_wp2
        go_ret
        exact ⟨I.ret_int (by have := HT2.out; omega), by first | exact Ex.drewN w _ | exact (Ex.drewN w q).trans (Ex.drewN _ _)⟩
    · obtain rfl : n = l.length := by omega
      have hd : decide ((l.length : Int) < (l.length : Int)) = false := by simp
      have HT2 : Hid (l.length - p = R') := (by have := HT.out; rw [List.drop_length] at this; simp [R.tw] at this; omega : l.length - p = R')
      go_wp2
      go_quiet (fail)
      go_wp2
      go_ret
      exact ⟨I.ret_int (by have := HT2.out; omega), by first | exact Ex.drewN w _ | exact (Ex.drewN w q).trans (Ex.drewN _ _)⟩

/-- The first i bytes of a number. -/
def fewK (x i : Nat) : List UInt8 := (List.range i).map fun i => UInt8.ofNat (x / 2 ^ (8 * i))
theorem fewK_len (x i : Nat) : (fewK x i).length = i := by simp [fewK]
theorem fewK_succ (x i : Nat) : fewK x (i + 1) = fewK x i ++ [UInt8.ofNat (x / 2 ^ (8 * i))] := by simp [fewK, List.range_succ]
theorem own_none (w : World) (base : Nat) : Own w base (.slice none 0 0) [] := World.ownsRow_nil w base 5 1
set_option maxRecDepth 100000 in
theorem rfew_is (m d : Int) (x D : Nat) (w : World) (hm : m = (x : Int)) (hd : d = (D : Int)) (hx : x < 18446744073709551616) (hD : D ≤ 64) (r : List UInt8) (hr : R.few D x = r) :
    Calls Tryz.prog 77 #[.int .u64 m, .int .i64 d] w fun e w' => ∃ v', e = .returned v' ∧ Own w' w.heap.size v' r ∧ Ex w w' := by
  subst hm
  subst hd
  subst hr
  obtain ⟨i0, hi, hz0, hz1, hz2⟩ := info_parts Tryz.info5
  obtain ⟨base, hbase⟩ : ∃ base, base = w.heap.size := ⟨_, rfl⟩
  have hown0 := own_none w base
  rw [← hbase]
  have HBa : Hid (base = w.heap.size) := hbase
  have hbel0 : Below base w w := Below.refl _ _
  clear hbase
  go_enter Tryz.func77, Tryz.ntmps77
  go_wp2
  go_loopw [5, 6] (fun v k wr => ∃ j : Nat, j ≤ (D + 7) / 8 ∧ k = .int .i64 ((8 * j : Nat) : Int) ∧ Own wr base v (fewK x j) ∧ Below base w wr) (fun _ k _ => 72 - (intOf k).toNat)
  case atStart => exact ⟨0, by omega, rfl, hown0, hbel0⟩
  case round =>
    obtain ⟨j, hj, rfl, hown, hbel⟩ := hrel
    clear hown0 hbel0
    have hsz := hbel.size
    have hbs : base ≤ wr.heap.size := by rw [HBa.out]; exact hsz
    by_cases hlt : 8 * j < D
    · have hd : decide (((8 * j : Nat) : Int) < (D : Int)) = true := by simp; omega
      have hfl := fewK_len x j
      have HV : Hid ((x : Int) / 2 ^ (8 * j) % 256 = ((UInt8.ofNat (x / 2 ^ (8 * j))).toNat : Int)) := (by
        have e : (x : Int) / 2 ^ (8 * j) = ((x / 2 ^ (8 * j) : Nat) : Int) := by simp
        rw [e, UInt8.toNat_ofNat']; omega : (x : Int) / 2 ^ (8 * j) % 256 = ((UInt8.ofNat (x / 2 ^ (8 * j))).toNat : Int))
      go_wp2_with (at_builtin; refine wpList_append_own _ rfl (.tmp 12) (.tmp 18) 22 rfl base 5 i0 (.int .u8 0) 1 1 Tryz.underlying22 hi hz0 hz1 hz2 rfl (by decide) _ _ _ rfl (hown.alloc _) ⟨wr.heap.size, 0, none⟩ 1 1 [.int .u8 ((x : Int) / 2 ^ (8 * j) % 256)] rfl rfl ?c1 ?c2 ?c3 ?c4 ?c5 ?_)
      case c1 => exact one_cell wr _
      case c2 => intro u hu; simp at hu; subst hu; rfl
      case c3 => simp [maxLen]; omega
      case c4 => simp; omega
      case c5 => simp; omega
      intro v' w2 hown' hgrow _
      have hb' := step_below hbel hbs hown hgrow
      have ho' : Own w2 base v' (fewK x (j + 1)) := by
        rw [fewK_succ]
        exact own_push hown' (by rw [hfl]) HV.out
      clear hown' hgrow hown hbel
      go_wp2
      go_roundw
      case rel => exact ⟨j + 1, by omega, by go_num, ho', hb'⟩
      case measure => simp [intOf]; omega
    · have hd : decide (((8 * j : Nat) : Int) < (D : Int)) = false := by simp; omega
      have hje : j = (D + 7) / 8 := by omega
      have ho' : Own wr base u5 (R.few D x) := by rw [hje] at hown; exact hown
      clear hown hje
      go_wp2
      go_ret
      exact ⟨_, rfl, ho', by rw [HBa.out] at hbel; exact hbel⟩
end Go.Proofs.YtnmonoafjijfhaaGreat
namespace Go.Proofs.YtnmonoafjijfhaaGreat
open Go.RowKit
set_option linter.unusedVariables false

theorem enc_len {w : Nat} (hw : w ≤ 32) : ∀ (m : Nat) (l : List Nat), l.length ≤ m → (R.enc w l).length ≤ 50 * l.length
  | 0, l, hm => by
    obtain rfl : l = [] := List.length_eq_zero_iff.1 (by omega)
    simp [R.enc_nil]
  | m + 1, l, hm => by
    by_cases hl : l = []
    · subst hl; simp [R.enc_nil]
    · have hp : 0 < l.length := List.length_pos_iff.2 hl
      rw [R.enc_eq w hl]
      split
      · rename_i h8
        have hr := R.runLen_le l
        have ih := enc_len hw m (l.drop (R.runLen l)) (by simp; omega)
        have hd := M.digs_len (2 * R.runLen l)
        simp only [List.length_append, List.length_drop, R.few_len] at ih ⊢
        omega
      · have hg := R.groups_pos hl
        have hg2 := R.groups_le l
        have ih := enc_len hw m (l.drop (8 * R.groups l)) (by simp; omega)
        have hd := M.digs_len (2 * R.groups l + 1)
        have hpl : (R.pad (8 * R.groups l) (l.take (8 * R.groups l))).length = 8 * R.groups l := R.pad_len (by simp; omega)
        have hpk : (B.pack w (R.pad (8 * R.groups l) (l.take (8 * R.groups l)))).length ≤ 32 * R.groups l := by
          rw [B.pack_len, hpl]
          unfold B.size
          have h1 : 8 * R.groups l * w ≤ 8 * R.groups l * 32 := Nat.mul_le_mul_left _ hw
          omega
        simp only [List.length_append, List.length_drop] at ih ⊢
        omega
theorem Rd.sub {α : Type} {enc : α → Value} {w : World} {a : Option Addr} {cap : Nat} {l : List α} (h : Rd enc w a cap l) (k n : Nat) (hk : k + n ≤ l.length) : Rd enc w (a.map (·.add k)) (cap - k) ((l.drop k).take n) := by
  obtain ⟨h1, h2, h3, h4⟩ := h
  refine ⟨by simp; omega, by omega, fun ha => ?_, fun i x hi => ?_⟩
  · have := h3 (by simpa using ha); omega
  · rw [List.getElem?_take] at hi
    split at hi
    · rw [List.getElem?_drop] at hi
      obtain ⟨b, off, rfl, hc⟩ := h4 (k + i) x hi
      exact ⟨b, off + k, by rw [Option.map_some, add_none], by rw [Nat.add_assoc]; exact hc⟩
    · cases hi
set_option maxRecDepth 100000 in
theorem renc_refuse (a : Option Addr) (cap : Nat) (l : List Nat) (wd : Int) (w : World) (hB : Rd n64 w a cap l) (h64 : ∀ x ∈ l, x < 18446744073709551616) (h : wd < 0 ∨ 32 < wd ∨ wd.toNat < B.width l) :
    Calls Tryz.prog 38 #[.slice a l.length cap, .int .i64 wd] w fun e w' => ∃ v, e = .returned (.tuple #[v, .int .i64 15]) ∧ Own w' w.heap.size v [] ∧ Ex w w' := by
  have HB : Hid (Rd n64 w a cap l) := hB
  have H64 : Hid (∀ x ∈ l, x < 18446744073709551616) := h64
  clear hB h64
  by_cases a1 : wd < 0
  · have t1 : decide (wd < 0) = true := by simp; omega
    go_enter Tryz.func38, Tryz.ntmps38
    go_wp2
    go_ret2
    exact ⟨_, rfl, own_none _ _, Ex.refl _⟩
  · have t1 : decide (wd < 0) = false := by simp; omega
    by_cases a2 : 32 < wd
    · have t2 : decide (32 < wd) = true := by simp; omega
      go_enter Tryz.func38, Tryz.ntmps38
      go_wp2
      go_ret2
      exact ⟨_, rfl, own_none _ _, Ex.refl _⟩
    · have t2 : decide (32 < wd) = false := by simp; omega
      have t3 : decide (wd < (B.width l : Int)) = true := by simp; omega
      go_enter Tryz.func38, Tryz.ntmps38
      go_wp2_with fail
      refine (rwidth_any a cap l _ HB.out H64.out).mono ?_
      rintro e wq ⟨rfl, hw'⟩
      have hw'' := hw'.symm
      clear hw'
      subst hw''
      go_wp2
      go_ret2
      exact ⟨_, rfl, own_none _ _, Ex.refl _⟩
end Go.Proofs.YtnmonoafjijfhaaGreat
