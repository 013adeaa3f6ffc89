/-
  The walk of the law RunsNumbers: it returns true.
-/
import Derived.Test.YtdkfmeneacbhjaaKnown
namespace Go.Proofs.Ytdkfmeneacbhjaa.runsNumbers
open Go.RowKit
set_option linter.unusedVariables false

abbrev es : ByteArray → Value := fun b => .string b
/-- The texts of the closed sentence. -/
def STR : List ByteArray := [⟨#[]⟩, ⟨#[48, 48, 48, 48, 48, 48, 48, 48]⟩, ⟨#[48, 48, 48, 48, 48, 48, 48, 48, 49]⟩, ⟨#[48, 48, 48, 48, 48, 48, 48]⟩, ⟨#[48, 48, 48, 48, 48, 48, 48, 49]⟩, ⟨#[48, 49, 50, 51, 52, 53, 54, 55, 56, 57]⟩,
  ⟨#[48, 49, 50, 51, 52, 53, 54, 55, 48, 48, 48, 48, 48, 48, 48, 48, 49, 49, 49, 49, 49, 49, 49, 49]⟩, ⟨#[48, 48, 48, 48, 48, 48, 48, 48, 49, 49, 49, 49, 49, 49, 49, 49]⟩, ⟨#[48, 48, 48, 48, 48, 48, 48, 49, 49, 49, 49, 49, 49, 49, 49, 49]⟩,
  ⟨#[48, 49, 50, 51, 52, 53, 54, 55, 55, 55, 55, 55, 55, 55, 55, 55, 55]⟩, ⟨#[51, 51, 51, 51, 51, 51, 51, 51, 51, 51, 51, 51, 51, 51, 51, 51, 51, 51, 51, 51, 51, 51, 51, 51, 51, 51, 51, 49]⟩]
theorem STR_small : ∀ s ∈ STR, s.size ≤ 1000 := by decide +kernel

def INTS : List Int := [0, 1, 2, 4, 9, 32, 33]
theorem encE_len (l : List Nat) (wd : Int) : (R.encE l wd).1.length ≤ 50 * l.length := by
  unfold R.encE
  split
  · simp
  · rename_i h
    exact enc_len (w := wd.toNat) (by omega) l.length l (Nat.le_refl _)
/-- The bytes of the closed sentence. -/
def BY : List (List UInt8) := [[16, 5], [14, 5], [0, 5], [1], [18], [18, 9], [3, 0], [128], [128, 0], [20, 5], [255, 255, 255, 255, 255, 255, 255, 255, 255, 1, 1]]
/-- Lists of bytes, laid one behind the other. -/
def lay (w : World) : List (List UInt8) → World
  | [] => w
  | l :: r => lay (w.alloc (.cells (cs l).toArray 5)) r
theorem lay_ex : ∀ (ls : List (List UInt8)) (w : World), Ex w (lay w ls)
  | [], w => Ex.refl w
  | l :: r, w => Ex.trans ((Below.refl _ _).alloc (Nat.le_refl _) _) (lay_ex r _)
theorem lay_size : ∀ (ls : List (List UInt8)) (w : World), (lay w ls).heap.size = w.heap.size + ls.length
  | [], w => rfl
  | l :: r, w => by simp only [lay, lay_size r, World.size_alloc, List.length_cons]; omega
theorem lay_byt : ∀ (ls : List (List UInt8)) (w : World) (i : Nat) (l : List UInt8), ls[i]? = some l → l.length ≤ 1000 → Byt (lay w ls) (some ⟨w.heap.size + i, 0, none⟩) l.length l
  | [], w, i, l, h, _ => by simp at h
  | x :: r, w, 0, l, h, hl => by
    simp at h
    subst h
    have := (Rd.laid (enc := n8) w 5 x hl)
    have hb : Byt (w.alloc (.cells (cs x).toArray 5)) (some ⟨w.heap.size, 0, none⟩) x.length x := RowAt.byt (e := 5) (heap_alloc_new w _) rfl (by omega)
    exact hb.below (lay_ex r _)
  | x :: r, w, i + 1, l, h, hl => by
    have := lay_byt r (w.alloc (.cells (cs x).toArray 5)) i l (by simpa using h) hl
    rw [World.size_alloc, Nat.add_assoc, Nat.add_comm 1 i] at this
    exact this
/-- The slices of them. -/
def VS (h : Nat) : List Value := [.slice (some ⟨h, 0, none⟩) 2 2, .slice (some ⟨h + 1, 0, none⟩) 2 2, .slice (some ⟨h + 2, 0, none⟩) 2 2, .slice (some ⟨h + 3, 0, none⟩) 1 1, .slice (some ⟨h + 4, 0, none⟩) 1 1, .slice (some ⟨h + 5, 0, none⟩) 2 2, .slice (some ⟨h + 6, 0, none⟩) 2 2, .slice (some ⟨h + 7, 0, none⟩) 1 1, .slice (some ⟨h + 8, 0, none⟩) 2 2, .slice (some ⟨h + 9, 0, none⟩) 2 2, .slice (some ⟨h + 10, 0, none⟩) 11 11]
theorem VS_at (h : Nat) : ∀ k, k < 11 → ∃ l, BY[k]? = some l ∧ l.length ≤ 1000 ∧ (VS h)[k]? = some (.slice (some ⟨h + k, 0, none⟩) l.length l.length)
  | 0, _ => ⟨_, rfl, by decide, rfl⟩
  | 1, _ => ⟨_, rfl, by decide, rfl⟩
  | 2, _ => ⟨_, rfl, by decide, rfl⟩
  | 3, _ => ⟨_, rfl, by decide, rfl⟩
  | 4, _ => ⟨_, rfl, by decide, rfl⟩
  | 5, _ => ⟨_, rfl, by decide, rfl⟩
  | 6, _ => ⟨_, rfl, by decide, rfl⟩
  | 7, _ => ⟨_, rfl, by decide, rfl⟩
  | 8, _ => ⟨_, rfl, by decide, rfl⟩
  | 9, _ => ⟨_, rfl, by decide, rfl⟩
  | 10, _ => ⟨_, rfl, by decide, rfl⟩
  | n + 11, h => by omega
theorem dec_1 : R.dec [] 0 (-1) 3 = ([], 0, 1) := by unfold R.dec; rw [if_neg (by decide), if_pos (by decide)]
theorem dec_2 : R.dec [] 1 0 3 = ([], 0, 1) := by unfold R.dec; rw [if_neg (by decide), if_pos (by decide)]
theorem dec_3 : R.dec [] 0 1048577 3 = ([], 0, 1) := by unfold R.dec; rw [if_neg (by decide), if_pos (by decide)]
theorem Rd_one (w : World) (E : Int) (h : 0 ≤ E) : Rd n64 (w.alloc (.cells #[.int .u64 E] 24)) (some ⟨w.heap.size, 0, none⟩) 1 [E.toNat] := by
  have := Rd.laid (enc := n64) w 24 [E.toNat] (by simp)
  simp only [List.map_cons, List.map_nil, n64, Int.toNat_of_nonneg h] at this
  exact this

set_option maxRecDepth 100000 in
set_option maxHeartbeats 4000000 in
theorem walk (w : World) : Calls Try.prog 3 #[] w fun e w' => e = .returned (.bool true) ∧ Below w.heap.size w w' := by
  go_enter Try.func3, Try.ntmps3
  go_wp2
  generalize hW : w.alloc _ = w1
  have hS : Rd es w1 (some ⟨w.heap.size, 0, none⟩) 11 STR := by rw [← hW]; exact Rd.laid (enc := es) w 9 STR (by decide)
  have HW1 : Hid (Ex w w1) := (by rw [← hW]; exact (Below.refl _ _).alloc (Nat.le_refl _) _ : Ex w w1)
  have HS : Hid (Rd es w1 (some ⟨w.heap.size, 0, none⟩) 11 STR) := hS
  clear hW hS
  go_loopw [36] (fun i wr => ∃ k : Nat, k ≤ 11 ∧ i = .int .i64 k ∧ Hid (Ex w1 wr)) (fun i _ => 11 - (intOf i).toNat)
  case atStart => exact ⟨0, by omega, rfl, Ex.refl w1⟩
  case round =>
    obtain ⟨k, hk, rfl, HX⟩ := hrel
    by_cases hlt : k < 11
    · have hkS : k < STR.length := hlt
      obtain ⟨b1, o1, hbo, hc⟩ := (HS.out.below HX.out).at hkS
      have hsm := STR_small STR[k] (List.getElem_mem hkS)
      simp only [Option.some.injEq, Addr.mk.injEq] at hbo
      obtain ⟨rfl, rfl, _⟩ := hbo
      obtain ⟨s, hs⟩ : ∃ s, s = STR[k] := ⟨_, rfl⟩
      rw [← hs] at hc hsm
      have hcs : wr.cell? ⟨w.heap.size, k, none⟩ = some (.string s) := by simpa using hc
      have hki : (k : Int) < 11 := by omega
      clear hc hs
      obtain ⟨base, hbase⟩ : ∃ base, base = wr.heap.size := ⟨_, rfl⟩
      have HBa : Hid (base = wr.heap.size) := hbase
      have HO0 : Hid (OwnR 24 n64 wr base (.slice none 0 0) []) := World.ownsRow_nil wr base 24 1
      have HB0 : Hid (Below base wr wr) := Below.refl _ _
      obtain ⟨w2, hw2⟩ : ∃ w2, w2 = wr := ⟨_, rfl⟩
      subst hw2
      clear hbase
      go_wp2
      go_loopw [3, 4] (fun v i wr => ∃ (t : Nat) (L : List Nat), t ≤ s.size ∧ i = .int .i64 t ∧ L.length ≤ t ∧ t ≤ L.length ∧ Hid (∀ x ∈ L, x < 18446744073709551616) ∧ Hid (OwnR 24 n64 wr base v L) ∧ Hid (Below base w2 wr)) (fun _ i _ => s.size - (intOf i).toNat)
      case atStart => exact ⟨0, [], by omega, rfl, by simp, by simp, (by intro x hx; simp at hx : ∀ x ∈ ([] : List Nat), x < 18446744073709551616), HO0, HB0⟩
      case round =>
        obtain ⟨t, L, ht, rfl, hl1, hl2, H64, HO, HBl⟩ := hrel
        by_cases hts : t < s.size
        · have hti : (t : Int) < (s.size : Int) := by omega
          have tt : decide ((t : Int) < (s.size : Int)) = true := by simp; omega
          have hbt : base ≤ wr.heap.size := by rw [HBa.out]; exact HBl.out.size
          go_wp2_with (at_builtin; refine wpList_append_rd (enc := n64) (e := 24) rfl (.tmp 46) (.tmp 52) 23 rfl 0 8 Try.underlying23 Try.info24 rfl (fun _ => rfl) base _ _ rfl (HO.out.alloc _) _ _ _ [_] rfl rfl (Rd_one _ _ ?y1) ?y2 ?y3 ?y4 ?_)
          case y1 => omega
          case y2 => simp [maxLen]; omega
          case y3 => simp; omega
          case y4 => simp; omega
          intro v4 w4 ho4 hg4
          have HB4 : Hid (Below base w2 w4) := step_belowR (HBl.out.alloc hbt _) (by simp; omega) (HO.out.alloc _) hg4
          obtain ⟨y, hoy, hy⟩ : ∃ y : Nat, OwnR 24 n64 w4 base v4 (L ++ [y]) ∧ y < 256 := ⟨_, ho4, by omega⟩
          have HO4 : Hid (OwnR 24 n64 w4 base v4 (L ++ [y])) := hoy
          have H644 : Hid (∀ x ∈ L ++ [y], x < 18446744073709551616) := (by
            intro x hx
            rcases List.mem_append.1 hx with h | h
            · exact H64.out x h
            · simp at h; omega : ∀ x ∈ L ++ [y], x < 18446744073709551616)
          clear hoy hy
          clear ho4 hg4
          go_wp2
          go_roundw
          case rel => exact ⟨t + 1, _, by omega, by go_num, by simp; omega, by simp; omega, H644, HO4, HB4⟩
          case measure => simp [intOf]; omega
        · have tt : decide ((t : Int) < (s.size : Int)) = false := by simp; omega
          obtain ⟨al, cl, hv, hrl⟩ := HO.out.rd
          obtain ⟨m, hm⟩ : ∃ m, m = L.length := ⟨_, rfl⟩
          rw [← hm] at hv
          subst hv
          have HM : Hid (m = L.length) := hm
          have hm1 : m ≤ 1000 := by omega
          have HRL0 : Hid (Rd n64 wr al cl L) := hrl
          have HXr : Hid (Ex w1 wr) := HX.out.trans (by have := HBl.out; rw [HBa.out] at this; exact this)
          clear hrl hm
          go_wp2
          generalize hW3 : wr.alloc _ = w5
          have HI : Hid (Rd z64 w5 (some ⟨wr.heap.size, 0, none⟩) 7 INTS) := (by rw [← hW3]; exact Rd.laid (enc := z64) wr 3 INTS (by decide) : Rd z64 w5 (some ⟨wr.heap.size, 0, none⟩) 7 INTS)
          have hx5 : Ex wr w5 := by rw [← hW3]; exact (Below.refl _ _).alloc (Nat.le_refl _) _
          have HX5 : Hid (Ex w1 w5) := HXr.out.trans hx5
          have HRL : Hid (Rd n64 w5 al cl L) := HRL0.out.below hx5
          obtain ⟨g5, hg5⟩ : ∃ g5, g5 = wr.heap.size := ⟨_, rfl⟩
          rw [← hg5] at HI ⊢
          clear hW3 hx5 hg5
          go_loopw [56] (fun i wr => ∃ j : Nat, j ≤ 7 ∧ i = .int .i64 j ∧ Hid (Ex w5 wr)) (fun i _ => 7 - (intOf i).toNat)
          case atStart => exact ⟨0, by omega, rfl, Ex.refl w5⟩
          case round =>
            obtain ⟨j, hj, rfl, HXj⟩ := hrel
            by_cases hj7 : j < 7
            · have hjI : j < INTS.length := hj7
              obtain ⟨b2, o2, hbo, hc⟩ := (HI.out.below HXj.out).at hjI
              simp only [Option.some.injEq, Addr.mk.injEq] at hbo
              obtain ⟨rfl, rfl, _⟩ := hbo
              obtain ⟨wd, hwd⟩ : ∃ wd, wd = INTS[j] := ⟨_, rfl⟩
              rw [← hwd] at hc
              have hcw : wr.cell? ⟨g5, j, none⟩ = some (.int .i64 wd) := by simpa using hc
              have hji : (j : Int) < 7 := by omega
              clear hc hwd
              obtain ⟨⟨P, e1⟩, hp⟩ : ∃ r, R.encE L wd = r := ⟨_, rfl⟩
              obtain ⟨⟨Z, k1, e2⟩, hq⟩ : ∃ r, R.dec P 0 (m : Int) wd = r := ⟨_, rfl⟩
              have hPl := encE_len L wd
              rw [hp] at hPl
              simp only at hPl
              have hPl2 : P.length ≤ 140737488355328 := by have := HM.out; omega
              have HP : Hid (R.encE L wd = (P, e1)) := hp
              have HQ : Hid (R.dec P 0 (m : Int) wd = (Z, k1, e2)) := hq
              have HRj : Hid (Rd n64 wr al cl L) := HRL.out.below HXj.out
              clear hp hq hPl
              go_wp2_with fail
              refine (enc_is al _ cl L _ _ HM.out HRj.out H64.out (by have := HM.out; omega) P e1 HP.out).mono ?_
              rintro e w6 ⟨v6, rfl, ⟨a6, c6, rfl, hb6⟩, hx6⟩
              go_wp2_with fail
              refine (renc_is al _ cl L _ _ HM.out (HRj.out.below hx6) H64.out (by have := HM.out; omega) P e1 HP.out).mono ?_
              rintro e w7 ⟨v7, rfl, ⟨a7, c7, rfl, hb7⟩, hx7⟩
              have HB6 : Hid (Byt w7 a6 c6 P) := hb6.below hx7
              have HB7 : Hid (Byt w7 a7 c7 P) := hb7
              have HX7 : Hid (Ex w5 w7) := (HXj.out.trans hx6).trans hx7
              clear hb6 hb7 hx6 hx7
              go_wp2_with fail
              refine (dec_is a6 _ c6 P _ _ _ _ rfl HB6.out hPl2 Z k1 e2 HQ.out).mono ?_
              rintro e w8 ⟨v8, rfl, hv8, hx8⟩
              go_wp2_with fail
              refine (rdec_is a7 _ c7 P _ _ _ _ rfl (HB7.out.below hx8) hPl2 Z k1 e2 HQ.out).mono ?_
              rintro e w9 ⟨v9, rfl, ⟨a9, c9, rfl, hr9⟩, hx9⟩
              obtain ⟨a8, c8, rfl, hr8⟩ := IsRd.stands _ _ _ _ hv8 hx9
              have hc6 : (convert 26 9 (Value.slice a6 P.length c6)).run Try.prog w9 = .ok (.string (str P)) w9 := run_str ((HB6.out.below hx8).below hx9) rfl
              have hc7 : (convert 26 9 (Value.slice a7 P.length c7)).run Try.prog w9 = .ok (.string (str P)) w9 := run_str ((HB7.out.below hx8).below hx9) rfl
              have HR8 : Hid (Rd n64 w9 a8 c8 Z) := hr8
              have HR9 : Hid (Rd n64 w9 a9 c9 Z) := hr9
              have HX9 : Hid (Ex w5 w9) := (HX7.out.trans hx8).trans hx9
              clear hv8 hx8 hx9 hr8 hr9
              go_wp2_with fail
              refine (same64_any a8 a9 c8 c9 _ _ Z Z _ rfl rfl HR8.out HR9.out true (by simp)).mono ?_
              rintro e w10 ⟨rfl, hx10⟩
              have HX10 : Hid (Ex w5 w10) := HX9.out.trans hx10
              clear hc6 hc7 hx10
              go_wp2
              go_roundw
              case rel => exact ⟨j + 1, by omega, by go_num, HX10⟩
              case measure => simp [intOf]; omega
            · obtain rfl : j = 7 := by omega
              have HXf : Hid (Ex w1 wr) := HX5.out.trans HXj.out
              go_wp2
              go_roundw
              case rel => exact ⟨k + 1, by omega, by go_num, HXf⟩
              case measure => simp [intOf]; omega
    · obtain rfl : k = 11 := by omega
      go_wp2
      generalize hW : World.alloc _ _ = w9
      obtain ⟨h, hh⟩ : ∃ h, h = wr.heap.size := ⟨_, rfl⟩
      have hW2 : (lay wr BY).alloc (.cells ((VS h).map id).toArray 26) = w9 := by rw [hh]; exact hW
      have hls : (lay wr BY).heap.size = h + 11 := by rw [lay_size, hh]; rfl
      have hx0 : Ex (lay wr BY) w9 := by rw [← hW2]; exact (Below.refl _ _).alloc (Nat.le_refl _) _
      have HV : Hid (Rd id w9 (some ⟨h + 11, 0, none⟩) 11 (VS h)) := (by rw [← hW2, ← hls]; exact Rd.laid (enc := id) (lay wr BY) 26 (VS h) (by simp [VS]) : Rd id w9 (some ⟨h + 11, 0, none⟩) 11 (VS h))
      have HBy : Hid (∀ i l, BY[i]? = some l → l.length ≤ 1000 → Byt w9 (some ⟨h + i, 0, none⟩) l.length l) := (fun i l hi hl => by
        rw [hh]; exact (lay_byt BY wr i l hi hl).below hx0 : ∀ i l, BY[i]? = some l → l.length ≤ 1000 → Byt w9 (some ⟨h + i, 0, none⟩) l.length l)
      have HX9 : Hid (Ex w w9) := ((HW1.out.trans HX.out).trans (lay_ex BY wr)).trans hx0
      rw [← hh]
      clear hW hW2 hls hx0 hh
      first | simp only [Nat.add_assoc, Nat.reduceAdd, Nat.cast_ofNat_Int] | simp only [Nat.add_assoc, Nat.reduceAdd, Int.natCast_ofNat] | simp only [Nat.add_assoc, Nat.reduceAdd, Int.cast_ofNat_Int]
      go_loopw [131] (fun i wr => ∃ k : Nat, k ≤ 11 ∧ i = .int .i64 k ∧ Hid (Ex w9 wr)) (fun i _ => 11 - (intOf i).toNat)
      case atStart => exact ⟨0, by omega, rfl, Ex.refl w9⟩
      case round =>
        obtain ⟨k, hk, rfl, HXk⟩ := hrel
        by_cases hlt : k < 11
        · obtain ⟨l, hl, hl2, hvs⟩ := VS_at h k hlt
          obtain ⟨b1, o1, hbo, hc⟩ := (HV.out.below HXk.out).2.2.2 k _ hvs
          simp only [Option.some.injEq, Addr.mk.injEq] at hbo
          obtain ⟨rfl, rfl, _⟩ := hbo
          have hcs : wr.cell? ⟨h + 11, k, none⟩ = some (.slice (some ⟨h + k, 0, none⟩) l.length l.length) := by simpa using hc
          have HBk : Hid (Byt wr (some ⟨h + k, 0, none⟩) l.length l) := (HBy.out k l hl hl2).below HXk.out
          have hki : (k : Int) < 11 := by omega
          obtain ⟨⟨Z, k1, e2⟩, hq⟩ : ∃ r, R.dec l 0 9 3 = r := ⟨_, rfl⟩
          have HQ : Hid (R.dec l 0 9 3 = (Z, k1, e2)) := hq
          clear hc hl hvs hq
          go_wp2_with fail
          refine (dec_is _ _ _ l _ _ _ _ rfl HBk.out (by omega) Z k1 e2 HQ.out).mono ?_
          rintro e w8 ⟨v8, rfl, hv8, hx8⟩
          go_wp2_with fail
          refine (rdec_is _ _ _ l _ _ _ _ rfl (HBk.out.below hx8) (by omega) Z k1 e2 HQ.out).mono ?_
          rintro e w10 ⟨v9, rfl, ⟨a9, c9, rfl, hr9⟩, hx9⟩
          obtain ⟨a8, c8, rfl, hr8⟩ := IsRd.stands _ _ _ _ hv8 hx9
          have HR8 : Hid (Rd n64 w10 a8 c8 Z) := hr8
          have HR9 : Hid (Rd n64 w10 a9 c9 Z) := hr9
          have HXa : Hid (Ex w9 w10) := (HXk.out.trans hx8).trans hx9
          clear hv8 hx8 hx9 hr8 hr9
          go_wp2_with fail
          refine (same64_any a8 a9 c8 c9 _ _ Z Z _ rfl rfl HR8.out HR9.out true (by simp)).mono ?_
          rintro e w11 ⟨rfl, hx11⟩
          have HXb : Hid (Ex w9 w11) := HXa.out.trans hx11
          clear hx11
          go_wp2
          go_roundw
          case rel => exact ⟨k + 1, by omega, by go_num, HXb⟩
          case measure => simp [intOf]; omega
        · obtain rfl : k = 11 := by omega
          go_wp2_with fail
          refine (dec_is none _ 0 [] _ _ _ _ rfl (Byt.nil _) (by simp) [] 0 1 dec_1).mono ?_
          rintro e w12 ⟨v12, rfl, _, hx12⟩
          go_wp2_with fail
          refine (dec_is none _ 0 [] _ _ _ _ rfl (Byt.nil _) (by simp) [] 0 1 dec_2).mono ?_
          rintro e w13 ⟨v13, rfl, _, hx13⟩
          go_wp2_with fail
          refine (dec_is none _ 0 [] _ _ _ _ rfl (Byt.nil _) (by simp) [] 0 1 dec_3).mono ?_
          rintro e w14 ⟨v14, rfl, _, hx14⟩
          have HXc : Hid (Ex w w14) := (((HX9.out.trans HXk.out).trans hx12).trans hx13).trans hx14
          clear hx12 hx13 hx14
          go_wp2_with fail
          refine (known_any _).mono ?_
          rintro e w15 ⟨rfl, hx15⟩
          go_wp2
          go_ret
          exact ⟨rfl, HXc.out.trans hx15⟩
end Go.Proofs.Ytdkfmeneacbhjaa.runsNumbers
