/- Heads and their words, as numbers: nothing of the program. -/
import Derived.Test.YthokalcibjjihaaGreatDoorHNum
import Derived.Test.YthokalcibjjihaaGreatDoorHUn
import Derived.Deep.Cut
import Derived.Laws.Rows
import Derived.Laws.ResultCell
import Derived.Deep.DeepCutAuto
namespace Go.Proofs.YthokalcibjjihaaGreatDoor.hd

/-- may a head be? -/
def okH (c r n : Int) : Bool := decide (0 ≤ c ∧ c ≤ 7 ∧ 0 ≤ r ∧ 0 ≤ n ∧ r + n ≤ 63)
/-- its word -/
def wordN (c r n : Nat) : Nat := 14339461213547659264 + c * 281474976710656 + r * 4294967296 + n * 65536
def cOf (w : Nat) : Nat := w / 281474976710656 % 256
def rOf (w : Nat) : Nat := w / 4294967296 % 65536
def nOf (w : Nat) : Nat := w / 65536 % 65536
/-- is it the word of a head? -/
def isW (w : Nat) : Bool := okH (cOf w) (rOf w) (nOf w) && decide (wordN (cOf w) (rOf w) (nOf w) = w)

/-- what Put answers -/
def putR (c r n : Int) : Nat := if okH c r n = true then wordN c.toNat r.toNat n.toNat else 0
def putE (c r n : Int) : Int := if okH c r n = true then 0 else 2
/-- what Get answers -/
def gC (w : Nat) : Nat := if isW w = true then cOf w else 0
def gR (w : Nat) : Nat := if isW w = true then rOf w else 0
def gN (w : Nat) : Nat := if isW w = true then nOf w else 0
def gE (w : Nat) : Int := if isW w = true then 0 else 5
/-- what Need, and Field, answer -/
def needR (c r n : Int) : Int := if okH c r n = true then r + n + 1 else 0
def inF (c r n i : Int) : Bool := okH c r n && decide (0 ≤ i ∧ i < r + n)
def fieldR (c r n i : Int) : Bool := inF c r n i && decide (i < r)
def fieldE (c r n i : Int) : Int := if okH c r n = true then (if inF c r n i = true then 0 else 110) else 2

theorem okH_true {c r n : Int} (h : okH c r n = true) : ∃ C R N : Nat, c = C ∧ r = R ∧ n = N ∧ C ≤ 7 ∧ R + N ≤ 63 := by
  have := of_decide_eq_true h
  exact ⟨c.toNat, r.toNat, n.toNat, by omega, by omega, by omega, by omega, by omega⟩
theorem okH_nat {C R N : Nat} (h1 : C ≤ 7) (h2 : R + N ≤ 63) : okH (C : Int) (R : Int) (N : Int) = true := decide_eq_true ⟨by omega, by omega, by omega, by omega, by omega⟩

theorem cOf_word {C R N : Nat} (h1 : C ≤ 7) (h2 : R + N ≤ 63) : cOf (wordN C R N) = C := by unfold cOf wordN; omega
theorem rOf_word {C R N : Nat} (_ : C ≤ 7) (h2 : R + N ≤ 63) : rOf (wordN C R N) = R := by unfold rOf wordN; omega
theorem nOf_word {C R N : Nat} (_ : C ≤ 7) (h2 : R + N ≤ 63) : nOf (wordN C R N) = N := by unfold nOf wordN; omega
theorem word_lt {C R N : Nat} (h1 : C ≤ 7) (h2 : R + N ≤ 63) : wordN C R N < 18446744073709551616 := by unfold wordN; omega
theorem word_pos (C R N : Nat) : 0 < wordN C R N := by unfold wordN; omega
theorem isW_word {C R N : Nat} (h1 : C ≤ 7) (h2 : R + N ≤ 63) : isW (wordN C R N) = true := by
  unfold isW
  rw [cOf_word h1 h2, rOf_word h1 h2, nOf_word h1 h2, okH_nat h1 h2, decide_eq_true rfl, Bool.true_and]
theorem isW_true {w : Nat} (h : isW w = true) : cOf w ≤ 7 ∧ rOf w + nOf w ≤ 63 ∧ wordN (cOf w) (rOf w) (nOf w) = w := by
  unfold isW at h
  rw [Bool.and_eq_true] at h
  have h1 := of_decide_eq_true h.1
  exact ⟨by omega, by omega, of_decide_eq_true h.2⟩
theorem parts_lt (w : Nat) : cOf w < 256 ∧ rOf w < 65536 ∧ nOf w < 65536 := ⟨Nat.mod_lt _ (by omega), Nat.mod_lt _ (by omega), Nat.mod_lt _ (by omega)⟩

theorem putR_ok {C R N : Nat} (h1 : C ≤ 7) (h2 : R + N ≤ 63) : putR C R N = wordN C R N := by
  unfold putR; rw [if_pos (okH_nat h1 h2), Int.toNat_natCast, Int.toNat_natCast, Int.toNat_natCast]
theorem putE_ok {c r n : Int} (h : okH c r n = true) : putE c r n = 0 := by unfold putE; rw [if_pos h]
theorem putR_no {c r n : Int} (h : okH c r n = false) : putR c r n = 0 := by unfold putR; rw [h]; rfl
theorem putE_no {c r n : Int} (h : okH c r n = false) : putE c r n = 2 := by unfold putE; rw [h]; rfl
theorem putR_lt (c r n : Int) : putR c r n < 18446744073709551616 := by
  cases h : okH c r n
  · rw [putR_no h]; decide
  · obtain ⟨C, R, N, rfl, rfl, rfl, h1, h2⟩ := okH_true h
    rw [putR_ok h1 h2]; exact word_lt h1 h2

/-- what was put again: the word itself, or no word of a head -/
theorem isW_put (w : Nat) : isW w = (okH (cOf w) (rOf w) (nOf w) && decide (putR (cOf w) (rOf w) (nOf w) = w)) := by
  unfold isW
  cases h : okH (cOf w) (rOf w) (nOf w)
  · rw [Bool.false_and, Bool.false_and]
  · have h1 := of_decide_eq_true h
    rw [putR_ok (by omega) (by omega)]

/-! The bits of a word that are fixed. -/
theorem low_zero {w : Nat} (h : isW w = true) : w % 65536 = 0 := by
  obtain ⟨h1, h2, h3⟩ := isW_true h
  unfold wordN at h3; omega
theorem high_mark {w : Nat} (h : isW w = true) : w / 72057594037927936 = 199 := by
  obtain ⟨h1, h2, h3⟩ := isW_true h
  unfold wordN at h3; omega

theorem low_bit {w k : Nat} (h : w % 65536 = 0) (hk : k < 16) : w.testBit k = false := by
  have e := Nat.testBit_mod_two_pow w 16 k
  rw [show w % 2 ^ 16 = 0 from h, Nat.zero_testBit, decide_eq_true hk, Bool.true_and] at e
  exact e.symm
theorem high_bit8 {w k : Nat} (h : w / 72057594037927936 = 199) : w.testBit (56 + k) = (199 : Nat).testBit k := by
  have e := Nat.testBit_div_two_pow (i := k) w (n := 56)
  rw [show w / 2 ^ 56 = 199 from h] at e
  rw [e, Nat.add_comm]

/-- a word of a head with one of those bits turned is none's -/
theorem flip_no {w k : Nat} (h : isW w = true) (hk : k < 16 ∨ (56 ≤ k ∧ k < 64)) : isW (w ^^^ 2 ^ k) = false := by
  cases c : isW (w ^^^ 2 ^ k)
  · rfl
  · exfalso
    have x : (w ^^^ 2 ^ k).testBit k = w.testBit k := by
      rcases hk with hk | ⟨hk, _⟩
      · rw [low_bit (low_zero c) hk, low_bit (low_zero h) hk]
      · obtain ⟨j, rfl⟩ : ∃ j, k = 56 + j := ⟨k - 56, by omega⟩
        rw [high_bit8 (high_mark c), high_bit8 (high_mark h)]
    rw [Nat.testBit_xor, Nat.testBit_two_pow_self] at x
    revert x; cases w.testBit k <;> decide

/-! The widths. -/
def hF (j : Nat) : Int := ([16, 16, 16, 8, 8] : List Int).getD j 0
theorem hF_b (j : Nat) : -9223372036854775808 ≤ hF j ∧ hF j ≤ 9223372036854775807 := by
  match j with
  | 0 | 1 | 2 | 3 | 4 => exact ⟨by decide, by decide⟩
  | j + 5 => exact ⟨show (-9223372036854775808 : Int) ≤ 0 by omega, show (0 : Int) ≤ 9223372036854775807 by omega⟩
theorem hF_ok : okTo hF 5 := by
  intro i hi
  match i, hi with
  | 0, _ | 1, _ | 2, _ | 3, _ | 4, _ => exact ⟨by decide, by decide⟩
theorem hF_end : start hF 5 = 64 := by decide

theorem pack_add {u s m v : Nat} (hf : s + m ≤ 64) (hv : v < 2 ^ m) (hu : u < 2 ^ s) : setV u s m v = u + v * 2 ^ s := by
  rw [← pack_step hf hv hu, Nat.or_comm, Nat.mul_comm, ← Nat.two_pow_add_eq_or_of_lt hu, Nat.add_comm]

theorem packs {g : Nat → Nat} (h0 : g 0 = 0) (h1 : g 1 ≤ 63) (h2 : g 2 ≤ 63) (h3 : g 3 ≤ 7) (h4 : g 4 = 199) : fitTo hF g 5 ∧ packTo hF g 5 = wordN (g 3) (g 2) (g 1) := by
  have ft : fitTo hF g 5 := by
    intro i hi
    match i, hi with
    | 0, _ => show g 0 < 65536; omega
    | 1, _ => show g 1 < 65536; omega
    | 2, _ => show g 2 < 65536; omega
    | 3, _ => show g 3 < 256; omega
    | 4, _ => show g 4 < 256; omega
  have e : ∀ k, k < 5 → packTo hF g (k + 1) = packTo hF g k + g k * 2 ^ start hF k := fun k hk => by
    show setV _ _ _ _ = _
    exact pack_add (ok_nat (okTo_le hF_ok (by omega))) (ft k hk) (packTo_lt (okTo_le hF_ok (by omega)) (fitTo_le ft (by omega)))
  refine ⟨ft, ?_⟩
  rw [e 4 (by omega), e 3 (by omega), e 2 (by omega), e 1 (by omega), e 0 (by omega)]
  show 0 + g 0 * 1 + g 1 * 65536 + g 2 * 4294967296 + g 3 * 281474976710656 + g 4 * 72057594037927936 = _
  unfold wordN
  omega

theorem getV_mod (w f m : Nat) : getV w f m = w / 2 ^ f % 2 ^ m := by unfold getV; rw [Nat.and_two_pow_sub_one_eq_mod]
theorem un_n (w : Nat) : getV w (start hF 1) (hF 1).toNat = nOf w := by rw [getV_mod]; rfl
theorem un_r (w : Nat) : getV w (start hF 2) (hF 2).toNat = rOf w := by rw [getV_mod]; rfl
theorem un_c (w : Nat) : getV w (start hF 3) (hF 3).toNat = cOf w := by rw [getV_mod]; rfl

end Go.Proofs.YthokalcibjjihaaGreatDoor.hd

/- Heads in memory; the small functions, of the program and of the document. -/
namespace Go.Proofs.YthokalcibjjihaaGreatDoor.hd
open Go.ChangeShapes Go.WideShapes Go.ChangeAt Go.RowKit

/-- is it an int? -/
def i64b (x : Int) : Prop := -9223372036854775808 ≤ x ∧ x ≤ 9223372036854775807

theorem okH_eq {c r n : Int} {b : Bool} (h : b = true ↔ (0 ≤ c ∧ c ≤ 7 ∧ 0 ≤ r ∧ 0 ≤ n ∧ r + n ≤ 63)) : b = okH c r n := by
  unfold okH
  cases b
  · symm; exact decide_eq_false fun x => absurd (h.2 x) (by decide)
  · symm; exact decide_eq_true (h.1 rfl)

theorem valid_h (c r n : Int) (w : World) (hc : i64b c) (hr : i64b r) (hn : i64b n) :
    Calls Tryz.prog 97 #[.agg #[.int .i64 c, .int .i64 r, .int .i64 n]] w fun e w' => e = .returned (.bool (okH c r n)) ∧ Bel w w' := by
  have hb : ∀ o, Bel w (w.alloc o) := fun o => (Bel.refl w).alloc o
  obtain ⟨c0, c1⟩ := hc
  obtain ⟨r0, r1⟩ := hr
  obtain ⟨n0, n1⟩ := hn
  have key : ∀ b, (b = true ↔ (0 ≤ c ∧ c ≤ 7 ∧ 0 ≤ r ∧ 0 ≤ n ∧ r + n ≤ 63)) → b = okH c r n := fun b h => okH_eq h
  obtain ⟨R, hR⟩ : ∃ R, okH c r n = R := ⟨_, rfl⟩
  rw [hR] at key ⊢
  have hk := Lib.hid key
  clear key hR
  go_enter Tryz.func97, Tryz.ntmps97
  go_wp2
  all_goals go_ret
  all_goals refine ⟨ret_bool (hk.out _ ?_), hb _⟩
  all_goals (first | (simp; omega) | (rw [decide_eq_true_iff]; omega) | omega)

theorem may_h (c r n : Int) (w : World) (hc : i64b c) (hr : i64b r) (hn : i64b n) :
    Calls Tryz.prog 121 #[.agg #[.int .i64 c, .int .i64 r, .int .i64 n]] w fun e w' => e = .returned (.bool (okH c r n)) ∧ Bel w w' := by
  have hb : ∀ o, Bel w (w.alloc o) := fun o => (Bel.refl w).alloc o
  obtain ⟨c0, c1⟩ := hc
  obtain ⟨r0, r1⟩ := hr
  obtain ⟨n0, n1⟩ := hn
  have key : ∀ b, (b = true ↔ (0 ≤ c ∧ c ≤ 7 ∧ 0 ≤ r ∧ 0 ≤ n ∧ r + n ≤ 63)) → b = okH c r n := fun b h => okH_eq h
  obtain ⟨R, hR⟩ : ∃ R, okH c r n = R := ⟨_, rfl⟩
  rw [hR] at key ⊢
  have hk := Lib.hid key
  clear key hR
  go_enter Tryz.func121, Tryz.ntmps121
  go_wp2
  all_goals go_ret
  all_goals refine ⟨ret_bool (hk.out _ ?_), hb _⟩
  all_goals (first | (simp; omega) | (rw [decide_eq_true_iff]; omega) | omega)

end Go.Proofs.YthokalcibjjihaaGreatDoor.hd

/- The table of widths; pack and unpack. -/
namespace Go.Proofs.YthokalcibjjihaaGreatDoor.hd
open Go.ChangeShapes Go.WideShapes Go.ChangeAt Go.RowKit

/-- the table in its variable -/
def TabW (w : World) : Prop := ∀ j, j < 5 → w.cell? ⟨0, j, none⟩ = some (.int .i64 (hF j))
theorem TabW.bel {w w' : World} (h : TabW w) (k : Bel w w') : TabW w' := fun j hj => cell_bel k (h j hj)

theorem TabW.five {w : World} (hT : TabW w) : w.cell? ⟨0, 0, none⟩ = some (.int .i64 16) ∧ w.cell? ⟨0, 1, none⟩ = some (.int .i64 16) ∧ w.cell? ⟨0, 2, none⟩ = some (.int .i64 16) ∧ w.cell? ⟨0, 3, none⟩ = some (.int .i64 8) ∧ w.cell? ⟨0, 4, none⟩ = some (.int .i64 8) :=
  ⟨hT 0 (by decide), hT 1 (by decide), hT 2 (by decide), hT 3 (by decide), hT 4 (by decide)⟩
theorem heap_bel {w w' : World} (g : Bel w w') {k : Nat} {o : Obj} (h : w.heap[k]? = some o) : w'.heap[k]? = some o := by
  have lt : k < w.heap.size := by
    by_cases c : k < w.heap.size
    · exact c
    · rw [Array.getElem?_eq_none_iff.2 (by omega)] at h; cases h
  rw [g.block _ lt]; exact h

/-- three cells of a box -/
theorem box3 {w : World} {b : Nat} {x y z : Value} {t : TypeId} (h : w.heap[b]? = some (.cells #[x, y, z] t (0, 0))) :
    w.cell? ⟨b, 0, none⟩ = some x ∧ w.cell? ⟨b, 1, none⟩ = some y ∧ w.cell? ⟨b, 2, none⟩ = some z ∧ w.frozen? ⟨b, 0, none⟩ = false ∧ w.frozen? ⟨b, 1, none⟩ = false ∧ w.frozen? ⟨b, 2, none⟩ = false := by
  refine ⟨?_, ?_, ?_, ?_, ?_, ?_⟩
  all_goals first
    | (unfold World.cell?; rw [h]; rfl)
    | (unfold World.frozen?; rw [h]; rfl)

theorem made_row (w : World) (T : TypeId) (l : List Int) {c : Array Value} (hl : 1 ≤ l.length) (hb : l.length ≤ 9223372036854775807) (hc : c = (l.map (fun x : Int => Value.int .i64 x)).toArray) :
    Nums (w.alloc (.cells c T)) (.slice (some ⟨w.heap.size, 0, none⟩) l.length l.length) l.length (fun j => l.getD j 0) := by
  subst hc
  refine Or.inr ⟨_, 0, _, rfl, hl, Nat.le_refl _, hb, fun j hj => ?_⟩
  have e1 := (MapKept.heap_alloc w (.cells (l.map (fun x : Int => Value.int .i64 x)).toArray T)).1
  unfold World.cell?
  rw [e1]
  show (l.map (fun x : Int => Value.int .i64 x)).toArray[0 + j]? = _
  show _ = some (Value.int _ ((l.getD j 0 : _) : Int))
  rw [Nat.zero_add, List.getElem?_toArray, List.getElem?_map, List.getD_eq_getElem?_getD, List.getElem?_eq_getElem hj]
  rfl

theorem made_table (w : World) (T : TypeId) : Nums (w.alloc (.cells #[.int .i64 16, .int .i64 16, .int .i64 16, .int .i64 8, .int .i64 8] T)) (.slice (some ⟨w.heap.size, 0, none⟩) 5 5) 5 hF :=
  made_row w T [16, 16, 16, 8, 8] (by decide) (by decide) rfl

theorem pack_h (v : Value) (g : Nat → Nat) (w : World) (hT : TabW w) (hV : Words w v 5 g) (hg : ∀ j, g j < 18446744073709551616) :
    Calls Tryz.prog 98 #[v] w fun e w' => e = .returned (.tuple #[.int .u64 (packR hF 5 g 5 : Nat), .int .i64 (packE hF 5 g 5)]) ∧ Bel w w' := by
  obtain ⟨t0, t1, t2, t3, t4⟩ := hT.five
  have hb := (Bel.refl w).alloc (.cells #[.int .i64 16, .int .i64 16, .int .i64 16, .int .i64 8, .int .i64 8] 180)
  have pk := pack_any _ v 5 5 hF g _ (made_table w 180) (hV.bel hb) hF_b hg
  obtain ⟨p, cap, rfl⟩ := slice_cases hV
  generalize packR hF 5 g 5 = R at *
  generalize packE hF 5 g 5 = E at *
  clear hT hV hg
  go_enter Tryz.func98, Tryz.ntmps98
  go_wp2_with (go_at_call 126; refine pk.mono ?_; rintro e w' ⟨rfl, h⟩)
  go_ret2
  exact ⟨rfl, hb.trans h⟩

theorem info_head : (Tryz.prog.info? 44).map (·.size) = some 3 := by kernel_rfl
/-- a box of three cells behind three stores -/
theorem three_row {w : World} {g : Nat} {a b c : Value} {t : TypeId} (h : w.heap[g]? = some (.cells #[a, b, c] t (0, 0))) (a' b' c' : Value) :
    (((w.setCell ⟨g, 0, none⟩ a').setCell ⟨g, 1, none⟩ b').setCell ⟨g, 2, none⟩ c').heap[g]? = some (.cells #[a', b', c'] t (0, 0)) :=
  heap_setCell_same _ g 2 _ t c' (heap_setCell_same _ g 1 _ t b' (heap_setCell_same w g 0 _ t a' h))
theorem set_bel3 {w w' : World} {g : Nat} (h : Bel w w') (hg : w.heap.size ≤ g) (a b c : Value) : Bel w (((w'.setCell ⟨g, 0, none⟩ a).setCell ⟨g, 1, none⟩ b).setCell ⟨g, 2, none⟩ c) :=
  (((show Below w.heap.size w w' from h).setCell hg a).setCell hg b).setCell hg c

set_option maxHeartbeats 400000 in
theorem unpack_h (u : Nat) (w : World) (hT : TabW w) (hu : u < 18446744073709551616) :
    Calls Tryz.prog 113 #[.int .u64 (u : Nat)] w fun e w' => e = .returned (.agg #[.int .i64 (cOf u : Nat), .int .i64 (rOf u : Nat), .int .i64 (nOf u : Nat)]) ∧ Bel w w' := by
  have hb1 := (Bel.refl w).alloc (.cells #[.int .i64 0, .int .i64 0, .int .i64 0] 44)
  obtain ⟨t0, t1, t2, t3, t4⟩ := (hT.bel hb1).five
  obtain ⟨lc, lr, ln⟩ := parts_lt u
  have up := unpack_any _ 5 u hF _ (made_table (w.alloc (.cells #[.int .i64 0, .int .i64 0, .int .i64 0] 44)) 180) hF_b hu
  have up2 := up.mono (R' := fun e w' => ∃ b off cap, e = .returned (.tuple #[.slice (some ⟨b, off, none⟩) 5 cap, .int .i64 0]) ∧ w'.cell? ⟨b, off + 1, none⟩ = some (.int .u64 (nOf u : Nat)) ∧ w'.cell? ⟨b, off + 2, none⟩ = some (.int .u64 (rOf u : Nat)) ∧ w'.cell? ⟨b, off + 3, none⟩ = some (.int .u64 (cOf u : Nat)) ∧
      Bel ((w.alloc (.cells #[.int .i64 0, .int .i64 0, .int .i64 0] 44)).alloc (.cells #[.int .i64 16, .int .i64 16, .int .i64 16, .int .i64 8, .int .i64 8] 180)) w') (fun e w' ⟨v, h1, h2, h3⟩ => by
    have hu' : u < 2 ^ start hF 5 := by rw [hF_end]; exact hu
    rw [unE_ok (by omega) hF_ok hu'] at h1
    rw [unN_ok (by omega) hF_ok hu'] at h2
    rcases h2 with ⟨h, _⟩ | ⟨b, off, cap, rfl, _, _, _, hc⟩
    · omega
    · refine ⟨b, off, cap, h1, ?_, ?_, ?_, h3⟩
      · rw [hc 1 (by omega), ← un_n]; rfl
      · rw [hc 2 (by omega), ← un_r]; rfl
      · rw [hc 3 (by omega), ← un_c]; rfl)
  generalize cOf u = C at *
  generalize rOf u = R at *
  generalize nOf u = N at *
  clear up hT
  obtain ⟨x1, x2⟩ := two w (.cells #[.int .i64 0, .int .i64 0, .int .i64 0] 44) (.cells #[.int .i64 16, .int .i64 16, .int .i64 16, .int .i64 8, .int .i64 8] 180)
  go_enter Tryz.func113, Tryz.ntmps113
  go_upto_region 1 with fail
  generalize w.alloc (.cells #[.int .i64 0, .int .i64 0, .int .i64 0] 44) = W at *
  go_wp2_with (go_at_call 132; refine up2.mono ?_; rintro e w' ⟨b, off, cap, rfl, h1, h2, h3, h⟩; have hx := heap_bel h x1; obtain ⟨k0, k1, k2, f0, f1, f2⟩ := box3 hx)
  go_region
  go_wp2
  (try simp only [Exit.inBlock, Exit.then])
  refine bodyPost_ret (results_cell_row rfl _ _ _ 44 _ (0, 0) _ rfl (three_row hx _ _ _) Tryz.underlying44 rfl info_head) rfl ?_
  exact ⟨rfl, (set_bel3 (hb1.trans (((Bel.refl W).alloc _).trans h)) (Nat.le_refl _) _ _ _).drew⟩

end Go.Proofs.YthokalcibjjihaaGreatDoor.hd

/- Put, Get, Need, Field of the program. -/
namespace Go.Proofs.YthokalcibjjihaaGreatDoor.hd
open Go.ChangeShapes Go.WideShapes Go.ChangeAt Go.RowKit

theorem made_words (w : World) (T : TypeId) (l : List Nat) {c : Array Value} (hl : 1 ≤ l.length) (hb : l.length ≤ 9223372036854775807) (hc : c = (l.map (fun x : Nat => Value.int .u64 (x : Int))).toArray) :
    Words (w.alloc (.cells c T)) (.slice (some ⟨w.heap.size, 0, none⟩) l.length l.length) l.length (fun j => l.getD j 0) := by
  subst hc
  refine Or.inr ⟨_, 0, _, rfl, hl, Nat.le_refl _, hb, fun j hj => ?_⟩
  have e1 := (MapKept.heap_alloc w (.cells (l.map (fun x : Nat => Value.int .u64 (x : Int))).toArray T)).1
  unfold World.cell?
  rw [e1]
  show (l.map (fun x : Nat => Value.int .u64 (x : Int))).toArray[0 + j]? = _
  show _ = some (Value.int _ ((l.getD j 0 : _) : Int))
  rw [Nat.zero_add, List.getElem?_toArray, List.getElem?_map, List.getD_eq_getElem?_getD, List.getElem?_eq_getElem hj]
  rfl

/-- the values of a head's parts -/
def hG (C R N : Nat) (j : Nat) : Nat := ([0, N, R, C, 199] : List Nat).getD j 0
theorem hG_b {C R N : Nat} (h1 : C ≤ 7) (h2 : R + N ≤ 63) (j : Nat) : hG C R N j < 18446744073709551616 := by
  match j with
  | 0 => show 0 < _; omega
  | 1 => show N < _; omega
  | 2 => show R < _; omega
  | 3 => show C < _; omega
  | 4 => show 199 < _; omega
  | j + 5 => show 0 < _; omega

theorem pack_nat (C R N : Nat) (w : World) (T : TypeId) (hT : TabW w) (h1 : C ≤ 7) (h2 : R + N ≤ 63) :
    Calls Tryz.prog 98 #[.slice (some ⟨w.heap.size, 0, none⟩) 5 5] (w.alloc (.cells #[.int .u64 0, .int .u64 (N : Nat), .int .u64 (R : Nat), .int .u64 (C : Nat), .int .u64 199] T)) fun e w' => e = .returned (.tuple #[.int .u64 (wordN C R N : Nat), .int .i64 0]) ∧ Bel w w' := by
  have hb := (Bel.refl w).alloc (.cells #[.int .u64 0, .int .u64 (N : Nat), .int .u64 (R : Nat), .int .u64 (C : Nat), .int .u64 199] T)
  have k := pack_h _ (hG C R N) _ (hT.bel hb) (made_words w T [0, N, R, C, 199] (by simp) (by simp) rfl) (hG_b h1 h2)
  obtain ⟨k1, k2⟩ := packs (g := hG C R N) rfl (show N ≤ 63 by omega) (show R ≤ 63 by omega) h1 rfl
  have e1 : packR hF 5 (hG C R N) 5 = wordN C R N := by unfold packR; rw [if_pos ⟨rfl, by omega, hF_ok, k1⟩, k2]; rfl
  have e2 : packE hF 5 (hG C R N) 5 = 0 := by unfold packE; rw [if_pos ⟨rfl, by omega, hF_ok⟩, if_pos k1]
  rw [e1, e2] at k
  exact k.mono fun e w' ⟨a, b⟩ => ⟨a, hb.trans b⟩

theorem box_at {w W : World} {o : Obj} (h : Bel (w.alloc o) W) : W.heap[w.heap.size]? = some o := heap_bel h (MapKept.heap_alloc w o).1

/-- Put of the program -/
theorem put_h (c r n : Int) (w : World) (hT : TabW w) (hc : i64b c) (hr : i64b r) (hn : i64b n) :
    Calls Tryz.prog 57 #[.agg #[.int .i64 c, .int .i64 r, .int .i64 n]] w fun e w' => e = .returned (.tuple #[.int .u64 (putR c r n : Nat), .int .i64 (putE c r n)]) ∧ Bel w w' := by
  have hb0 : ∀ o, Bel w (w.alloc o) := fun o => (Bel.refl w).alloc o
  have hb := hb0 (.cells #[.int .i64 c, .int .i64 r, .int .i64 n] 44)
  clear hb0
  have va := valid_h c r n (w.alloc (.cells #[.int .i64 c, .int .i64 r, .int .i64 n] 44)) hc hr hn
  cases ok : okH c r n
  · rw [putR_no ok, putE_no ok]
    rw [ok] at va
    clear hc hr hn ok hT
    go_enter Tryz.func57, Tryz.ntmps57
    go_wp2_with (go_at_call 97; refine va.mono ?_; rintro e w1 ⟨rfl, h⟩)
    go_ret2
    exact ⟨rfl, hb.trans h⟩
  · obtain ⟨C, R, N, rfl, rfl, rfl, h1, h2⟩ := okH_true ok
    rw [putR_ok h1 h2, putE_ok ok]
    rw [ok] at va
    have pk := fun W (g : Bel w W) => pack_nat C R N W 42 (hT.bel g) h1 h2
    generalize wordN C R N = A at *
    clear hc hr hn ok hT
    go_enter Tryz.func57, Tryz.ntmps57
    go_wp2_with (first
      | (go_at_call 97; refine va.mono ?_; rintro e w1 ⟨rfl, h⟩; have g := hb.trans h; obtain ⟨k0, k1, k2, _, _, _⟩ := box3 (box_at h))
      | (go_at_call 98; refine (pk _ g).mono ?_; rintro e w2 ⟨rfl, h3⟩))
    go_ret2
    exact ⟨rfl, g.trans h3⟩

theorem results_cell_row2 {P : Program} {fn : Func} {p u : Tmp} {ty : TypeId} (h : fn.results = #[.cell p ty, .tmp u]) (tmps : Array Value) (w : World) (g : Nat) (t : TypeId) (cs : Array Value) (fr : Nat × Nat) (d : TypeDesc)
    (hp : tmps.getD p undef = .pointer (some ⟨g, 0, none⟩)) (hg : w.heap[g]? = some (.cells cs t fr))
    (hu : P.underlying ty = some d) (hd : (match d with | .struct _ | .array _ _ => true | _ => false) = true) (hi : (P.info? ty).map (·.size) = some cs.size) :
    (results fn tmps).run P w = .ok (.tuple #[.agg cs, tmps.getD u undef]) w := by
  rw [results_cell_tmp h, hp]
  simp [asAddr, run_loadVar_row w g t ty cs fr d hg hu hd hi]

/-- what the tests of Get say of a word -/
theorem get_ways (u : Nat) : (∃ A : Nat, putR (cOf u) (rOf u) (nOf u) = A ∧ putE (cOf u) (rOf u) (nOf u) = 2 ∧ isW u = false) ∨
    (∃ A : Nat, putR (cOf u) (rOf u) (nOf u) = A ∧ A ≠ u ∧ putE (cOf u) (rOf u) (nOf u) = 0 ∧ isW u = false) ∨
    (putR (cOf u) (rOf u) (nOf u) = u ∧ putE (cOf u) (rOf u) (nOf u) = 0 ∧ isW u = true) := by
  have h := isW_put u
  cases ok : okH (cOf u) (rOf u) (nOf u)
  · rw [ok, Bool.false_and] at h
    exact Or.inl ⟨_, rfl, putE_no ok, h⟩
  · rw [ok, Bool.true_and] at h
    by_cases e : putR (cOf u) (rOf u) (nOf u) = u
    · exact Or.inr (Or.inr ⟨e, putE_ok ok, by rw [h]; exact decide_eq_true e⟩)
    · exact Or.inr (Or.inl ⟨_, rfl, e, putE_ok ok, by rw [h]; exact decide_eq_false e⟩)

theorem g_no {u : Nat} (h : isW u = false) : gC u = 0 ∧ gR u = 0 ∧ gN u = 0 ∧ gE u = 5 := by unfold gC gR gN gE; rw [h]; exact ⟨rfl, rfl, rfl, rfl⟩
theorem g_yes {u : Nat} (h : isW u = true) : gC u = cOf u ∧ gR u = rOf u ∧ gN u = nOf u ∧ gE u = 0 := by unfold gC gR gN gE; rw [h]; exact ⟨rfl, rfl, rfl, rfl⟩

/-- Get of the program -/
theorem get_h (u : Nat) (w : World) (hT : TabW w) (hu : u < 18446744073709551616) :
    Calls Tryz.prog 75 #[.int .u64 (u : Nat)] w fun e w' => e = .returned (.tuple #[.agg #[.int .i64 (gC u : Nat), .int .i64 (gR u : Nat), .int .i64 (gN u : Nat)], .int .i64 (gE u)]) ∧ Bel w w' := by
  have hb := (Bel.refl w).alloc (.cells #[.int .i64 0, .int .i64 0, .int .i64 0] 44)
  obtain ⟨lc, lr, ln⟩ := parts_lt u
  have un := unpack_h u _ (hT.bel hb) hu
  have pt := fun W (g : Bel w W) => put_h (cOf u) (rOf u) (nOf u) W (hT.bel g) ⟨by omega, by omega⟩ ⟨by omega, by omega⟩ ⟨by omega, by omega⟩
  have gw := get_ways u
  have gn := @g_no u
  have gy := @g_yes u
  generalize gC u = C' at *
  generalize gR u = R' at *
  generalize gN u = N' at *
  generalize gE u = E' at *
  generalize putR (cOf u) (rOf u) (nOf u) = A at *
  generalize putE (cOf u) (rOf u) (nOf u) = E at *
  generalize cOf u = C at *
  generalize rOf u = R at *
  generalize nOf u = N at *
  clear hT
  rcases gw with ⟨_, rfl, rfl, h⟩ | ⟨_, rfl, ne, rfl, h⟩ | ⟨rfl, rfl, h⟩
  · obtain ⟨rfl, rfl, rfl, rfl⟩ := gn h
    clear gn gy h hu
    go_enter Tryz.func75, Tryz.ntmps75
    go_wp2_with (first
      | (go_at_call 113; refine un.mono ?_; rintro e w1 ⟨rfl, h1⟩; have g1 := (hb.trans h1).alloc (.cells #[.int .i64 (C : Nat), .int .i64 (R : Nat), .int .i64 (N : Nat)] 44))
      | (go_at_call 57; refine (pt _ g1).mono ?_; rintro e w2 ⟨rfl, h2⟩; have hx := heap_bel h2 (heap_bel ((Bel.refl _).alloc _) (box_at h1)); obtain ⟨k0, k1, k2, f0, f1, f2⟩ := box3 hx))
    (try simp only [Exit.inBlock, Exit.then])
    refine bodyPost_ret (results_cell_row2 rfl _ _ _ 44 _ (0, 0) _ rfl (three_row hx _ _ _) Tryz.underlying44 rfl info_head) rfl ?_
    exact ⟨rfl, set_bel3 (g1.trans h2) (Nat.le_refl _) _ _ _⟩
  · obtain ⟨rfl, rfl, rfl, rfl⟩ := gn h
    have d : ((A : Int) == (u : Int)) = false := by simp; omega
    have d1 : decide (A = u) = false := decide_eq_false ne
    clear gn gy h hu
    go_enter Tryz.func75, Tryz.ntmps75
    go_wp2_with (first
      | (go_at_call 113; refine un.mono ?_; rintro e w1 ⟨rfl, h1⟩; have g1 := (hb.trans h1).alloc (.cells #[.int .i64 (C : Nat), .int .i64 (R : Nat), .int .i64 (N : Nat)] 44))
      | (go_at_call 57; refine (pt _ g1).mono ?_; rintro e w2 ⟨rfl, h2⟩; have hx := heap_bel h2 (heap_bel ((Bel.refl _).alloc _) (box_at h1)); obtain ⟨k0, k1, k2, f0, f1, f2⟩ := box3 hx))
    (try simp only [Exit.inBlock, Exit.then])
    refine bodyPost_ret (results_cell_row2 rfl _ _ _ 44 _ (0, 0) _ rfl (three_row hx _ _ _) Tryz.underlying44 rfl info_head) rfl ?_
    exact ⟨rfl, set_bel3 (g1.trans h2) (Nat.le_refl _) _ _ _⟩
  · obtain ⟨rfl, rfl, rfl, rfl⟩ := gy h
    clear gn gy h hu
    go_enter Tryz.func75, Tryz.ntmps75
    go_wp2_with (first
      | (go_at_call 113; refine un.mono ?_; rintro e w1 ⟨rfl, h1⟩; have g1 := (hb.trans h1).alloc (.cells #[.int .i64 (C' : Nat), .int .i64 (R' : Nat), .int .i64 (N' : Nat)] 44))
      | (go_at_call 57; refine (pt _ g1).mono ?_; rintro e w2 ⟨rfl, h2⟩; have hx := heap_bel h2 (heap_bel ((Bel.refl _).alloc _) (box_at h1)); obtain ⟨k0, k1, k2, f0, f1, f2⟩ := box3 hx; have hy := box_at h2; obtain ⟨l0, l1, l2, _, _, _⟩ := box3 hy))
    (try simp only [Exit.inBlock, Exit.then])
    refine bodyPost_ret (results_cell_row2 rfl _ _ _ 44 _ (0, 0) _ rfl (three_row hx _ _ _) Tryz.underlying44 rfl info_head) rfl ?_
    exact ⟨rfl, set_bel3 (g1.trans h2) (Nat.le_refl _) _ _ _⟩

/-- Need of the program -/
theorem need_h (c r n : Int) (w : World) (hc : i64b c) (hr : i64b r) (hn : i64b n) :
    Calls Tryz.prog 96 #[.agg #[.int .i64 c, .int .i64 r, .int .i64 n]] w fun e w' => e = .returned (.tuple #[.int .i64 (needR c r n), .int .i64 (putE c r n)]) ∧ Bel w w' := by
  have hb0 : ∀ o, Bel w (w.alloc o) := fun o => (Bel.refl w).alloc o
  have hb := hb0 (.cells #[.int .i64 c, .int .i64 r, .int .i64 n] 44)
  clear hb0
  have va := valid_h c r n (w.alloc (.cells #[.int .i64 c, .int .i64 r, .int .i64 n] 44)) hc hr hn
  cases ok : okH c r n
  · have e1 : needR c r n = 0 := by unfold needR; rw [ok]; rfl
    rw [e1, putE_no ok]
    rw [ok] at va
    clear hc hr hn ok e1
    go_enter Tryz.func96, Tryz.ntmps96
    go_wp2_with (go_at_call 97; refine va.mono ?_; rintro e w1 ⟨rfl, h⟩)
    go_ret2
    exact ⟨rfl, hb.trans h⟩
  · have e1 : needR c r n = r + n + 1 := by unfold needR; rw [ok]; rfl
    obtain ⟨C, R, N, rfl, rfl, rfl, h1, h2⟩ := okH_true ok
    rw [e1, putE_ok ok]
    rw [ok] at va
    have n1 : R ≤ 63 := by omega
    have n2 : N ≤ 63 := by omega
    clear hc hr hn ok e1 h2
    go_enter Tryz.func96, Tryz.ntmps96
    go_wp2_with (go_at_call 97; refine va.mono ?_; rintro e w1 ⟨rfl, h⟩; obtain ⟨k0, k1, k2, _, _, _⟩ := box3 (box_at h))
    go_ret2
    exact ⟨rfl, hb.trans h⟩

end Go.Proofs.YthokalcibjjihaaGreatDoor.hd

/- Field of the program; Put, Get, Need, Field of the document; the calls that the document fixes. -/
namespace Go.Proofs.YthokalcibjjihaaGreatDoor.hd
open Go.ChangeShapes Go.WideShapes Go.ChangeAt Go.RowKit

theorem field_out {c r n i : Int} (ok : okH c r n = true) (h : i < 0 ∨ r + n ≤ i) : fieldR c r n i = false ∧ fieldE c r n i = 110 := by
  have e : inF c r n i = false := by unfold inF; rw [ok, Bool.true_and]; exact decide_eq_false fun x => by omega
  unfold fieldR fieldE
  rw [e, ok]
  exact ⟨rfl, rfl⟩
theorem field_in {c r n i : Int} (ok : okH c r n = true) (h0 : 0 ≤ i) (h1 : i < r + n) : fieldR c r n i = decide (i < r) ∧ fieldE c r n i = 0 := by
  have e : inF c r n i = true := by unfold inF; rw [ok, Bool.true_and]; exact decide_eq_true ⟨h0, h1⟩
  unfold fieldR fieldE
  rw [e, ok, Bool.true_and]
  exact ⟨rfl, rfl⟩
theorem field_no {c r n i : Int} (ok : okH c r n = false) : fieldR c r n i = false ∧ fieldE c r n i = 2 := by
  unfold fieldR fieldE inF
  rw [ok]
  exact ⟨rfl, rfl⟩

/-- Field of the program -/
theorem field_h (c r n i : Int) (w : World) (hc : i64b c) (hr : i64b r) (hn : i64b n) :
    Calls Tryz.prog 100 #[.agg #[.int .i64 c, .int .i64 r, .int .i64 n], .int .i64 i] w fun e w' => e = .returned (.tuple #[.bool (fieldR c r n i), .int .i64 (fieldE c r n i)]) ∧ Bel w w' := by
  have hb0 : ∀ o, Bel w (w.alloc o) := fun o => (Bel.refl w).alloc o
  have hb := hb0 (.cells #[.int .i64 c, .int .i64 r, .int .i64 n] 44)
  clear hb0
  have va := valid_h c r n (w.alloc (.cells #[.int .i64 c, .int .i64 r, .int .i64 n] 44)) hc hr hn
  cases ok : okH c r n
  · obtain ⟨e1, e2⟩ := field_no (i := i) ok
    rw [e1, e2]
    rw [ok] at va
    clear hc hr hn ok e1 e2
    go_enter Tryz.func100, Tryz.ntmps100
    go_wp2_with (go_at_call 97; refine va.mono ?_; rintro e w1 ⟨rfl, h⟩)
    go_ret2
    exact ⟨rfl, hb.trans h⟩
  · have ok' := ok
    rw [ok] at va
    have fo := @field_out c r n i ok
    have fi := @field_in c r n i ok
    obtain ⟨C, R, N, rfl, rfl, rfl, h1, h2⟩ := okH_true ok
    have n1 : R ≤ 63 := by omega
    have n2 : N ≤ 63 := by omega
    by_cases a : i < 0
    · obtain ⟨e1, e2⟩ := fo (Or.inl a)
      rw [e1, e2]
      have d : decide (i < 0) = true := decide_eq_true a
      clear hc hr hn ok ok' e1 e2 h2 fo fi
      go_enter Tryz.func100, Tryz.ntmps100
      go_wp2_with (go_at_call 97; refine va.mono ?_; rintro e w1 ⟨rfl, h⟩; obtain ⟨k0, k1, k2, _, _, _⟩ := box3 (box_at h))
      go_ret2
      exact ⟨rfl, hb.trans h⟩
    · obtain ⟨S, hS⟩ : ∃ S : Int, (R : Int) + (N : Int) = S := ⟨_, rfl⟩
      rw [hS] at fo fi
      have d : decide (i < 0) = false := decide_eq_false a
      by_cases b : S ≤ i
      · obtain ⟨e1, e2⟩ := fo (Or.inr b)
        rw [e1, e2]
        have d2 : decide (S ≤ i) = true := decide_eq_true b
        clear hc hr hn ok ok' e1 e2 h2 fo fi
        go_enter Tryz.func100, Tryz.ntmps100
        go_wp2_with (go_at_call 97; refine va.mono ?_; rintro e w1 ⟨rfl, h⟩; obtain ⟨k0, k1, k2, _, _, _⟩ := box3 (box_at h))
        go_ret2
        exact ⟨rfl, hb.trans h⟩
      · obtain ⟨e1, e2⟩ := fi (by omega) (by omega)
        rw [e1, e2]
        have d2 : decide (S ≤ i) = false := decide_eq_false b
        clear hc hr hn ok ok' e1 e2 h2 fo fi
        go_enter Tryz.func100, Tryz.ntmps100
        go_wp2_with (go_at_call 97; refine va.mono ?_; rintro e w1 ⟨rfl, h⟩; obtain ⟨k0, k1, k2, _, _, _⟩ := box3 (box_at h))
        go_ret2
        exact ⟨rfl, hb.trans h⟩

/-! The document's side. -/
theorem rput_h (c r n : Int) (w : World) (hc : i64b c) (hr : i64b r) (hn : i64b n) :
    Calls Tryz.prog 88 #[.agg #[.int .i64 c, .int .i64 r, .int .i64 n]] w fun e w' => e = .returned (.tuple #[.int .u64 (putR c r n : Nat), .int .i64 (putE c r n)]) ∧ Bel w w' := by
  have hb0 : ∀ o, Bel w (w.alloc o) := fun o => (Bel.refl w).alloc o
  have hb := hb0 (.cells #[.int .i64 c, .int .i64 r, .int .i64 n] 44)
  clear hb0
  have va := may_h c r n (w.alloc (.cells #[.int .i64 c, .int .i64 r, .int .i64 n] 44)) hc hr hn
  cases ok : okH c r n
  · rw [putR_no ok, putE_no ok]
    rw [ok] at va
    clear hc hr hn ok
    go_enter Tryz.func88, Tryz.ntmps88
    go_wp2_with (go_at_call 121; refine va.mono ?_; rintro e w1 ⟨rfl, h⟩)
    go_ret2
    exact ⟨rfl, hb.trans h⟩
  · obtain ⟨C, R, N, rfl, rfl, rfl, h1, h2⟩ := okH_true ok
    rw [putR_ok h1 h2, putE_ok ok]
    rw [ok] at va
    have eA : wordN C R N = 14339461213547659264 + C * 281474976710656 + R * 4294967296 + N * 65536 := rfl
    generalize wordN C R N = A at *
    have n1 : R ≤ 63 := by omega
    have n2 : N ≤ 63 := by omega
    have hA := Lib.hid eA
    clear hc hr hn ok h2 eA
    go_enter Tryz.func88, Tryz.ntmps88
    go_wp2_with (go_at_call 121; refine va.mono ?_; rintro e w1 ⟨rfl, h⟩; obtain ⟨k0, k1, k2, _, _, _⟩ := box3 (box_at h))
    go_ret2
    have e : (14339461213547659264 + (C : Int) * 281474976710656 + (R : Int) * 4294967296 + (N : Int) * 65536) = (A : Int) := by have := hA.out; omega
    rw [← e]
    exact ⟨rfl, hb.trans h⟩

theorem rneed_h (c r n : Int) (w : World) (hc : i64b c) (hr : i64b r) (hn : i64b n) :
    Calls Tryz.prog 120 #[.agg #[.int .i64 c, .int .i64 r, .int .i64 n]] w fun e w' => e = .returned (.tuple #[.int .i64 (needR c r n), .int .i64 (putE c r n)]) ∧ Bel w w' := by
  have hb0 : ∀ o, Bel w (w.alloc o) := fun o => (Bel.refl w).alloc o
  have hb := hb0 (.cells #[.int .i64 c, .int .i64 r, .int .i64 n] 44)
  clear hb0
  have va := may_h c r n (w.alloc (.cells #[.int .i64 c, .int .i64 r, .int .i64 n] 44)) hc hr hn
  cases ok : okH c r n
  · have e1 : needR c r n = 0 := by unfold needR; rw [ok]; rfl
    rw [e1, putE_no ok]
    rw [ok] at va
    clear hc hr hn ok e1
    go_enter Tryz.func120, Tryz.ntmps120
    go_wp2_with (go_at_call 121; refine va.mono ?_; rintro e w1 ⟨rfl, h⟩)
    go_ret2
    exact ⟨rfl, hb.trans h⟩
  · have e1 : needR c r n = 1 + r + n := by unfold needR; rw [ok]; show r + n + 1 = _; omega
    obtain ⟨C, R, N, rfl, rfl, rfl, h1, h2⟩ := okH_true ok
    rw [e1, putE_ok ok]
    rw [ok] at va
    have n1 : R ≤ 63 := by omega
    have n2 : N ≤ 63 := by omega
    clear hc hr hn ok e1 h2
    go_enter Tryz.func120, Tryz.ntmps120
    go_wp2_with (go_at_call 121; refine va.mono ?_; rintro e w1 ⟨rfl, h⟩; obtain ⟨k0, k1, k2, _, _, _⟩ := box3 (box_at h))
    go_ret2
    exact ⟨rfl, hb.trans h⟩

/-- Field of the document -/
theorem rfield_h (c r n i : Int) (w : World) (hc : i64b c) (hr : i64b r) (hn : i64b n) :
    Calls Tryz.prog 118 #[.agg #[.int .i64 c, .int .i64 r, .int .i64 n], .int .i64 i] w fun e w' => e = .returned (.tuple #[.bool (fieldR c r n i), .int .i64 (fieldE c r n i)]) ∧ Bel w w' := by
  have hb0 : ∀ o, Bel w (w.alloc o) := fun o => (Bel.refl w).alloc o
  have hb := hb0 (.cells #[.int .i64 c, .int .i64 r, .int .i64 n] 44)
  clear hb0
  have va := may_h c r n (w.alloc (.cells #[.int .i64 c, .int .i64 r, .int .i64 n] 44)) hc hr hn
  cases ok : okH c r n
  · obtain ⟨e1, e2⟩ := field_no (i := i) ok
    rw [e1, e2]
    rw [ok] at va
    clear hc hr hn ok e1 e2
    go_enter Tryz.func118, Tryz.ntmps118
    go_wp2_with (go_at_call 121; refine va.mono ?_; rintro e w1 ⟨rfl, h⟩)
    go_ret2
    exact ⟨rfl, hb.trans h⟩
  · have ok' := ok
    rw [ok] at va
    have fo := @field_out c r n i ok
    have fi := @field_in c r n i ok
    obtain ⟨C, R, N, rfl, rfl, rfl, h1, h2⟩ := okH_true ok
    have n1 : R ≤ 63 := by omega
    have n2 : N ≤ 63 := by omega
    by_cases a : i < 0
    · obtain ⟨e1, e2⟩ := fo (Or.inl a)
      rw [e1, e2]
      have d : decide (i < 0) = true := decide_eq_true a
      clear hc hr hn ok ok' e1 e2 h2 fo fi
      go_enter Tryz.func118, Tryz.ntmps118
      go_wp2_with (go_at_call 121; refine va.mono ?_; rintro e w1 ⟨rfl, h⟩; obtain ⟨k0, k1, k2, _, _, _⟩ := box3 (box_at h))
      go_ret2
      exact ⟨rfl, hb.trans h⟩
    · obtain ⟨S, hS⟩ : ∃ S : Int, (R : Int) + (N : Int) = S := ⟨_, rfl⟩
      rw [hS] at fo fi
      have d : decide (i < 0) = false := decide_eq_false a
      by_cases b : S ≤ i
      · obtain ⟨e1, e2⟩ := fo (Or.inr b)
        rw [e1, e2]
        have d2 : decide (S ≤ i) = true := decide_eq_true b
        clear hc hr hn ok ok' e1 e2 h2 fo fi
        go_enter Tryz.func118, Tryz.ntmps118
        go_wp2_with (go_at_call 121; refine va.mono ?_; rintro e w1 ⟨rfl, h⟩; obtain ⟨k0, k1, k2, _, _, _⟩ := box3 (box_at h))
        go_ret2
        exact ⟨rfl, hb.trans h⟩
      · obtain ⟨e1, e2⟩ := fi (by omega) (by omega)
        rw [e1, e2]
        have d2 : decide (S ≤ i) = false := decide_eq_false b
        clear hc hr hn ok ok' e1 e2 h2 fo fi
        go_enter Tryz.func118, Tryz.ntmps118
        go_wp2_with (go_at_call 121; refine va.mono ?_; rintro e w1 ⟨rfl, h⟩; obtain ⟨k0, k1, k2, _, _, _⟩ := box3 (box_at h))
        go_ret2
        exact ⟨rfl, hb.trans h⟩

theorem rget_h (u : Nat) (w : World) (hu : u < 18446744073709551616) :
    Calls Tryz.prog 89 #[.int .u64 (u : Nat)] w fun e w' => e = .returned (.tuple #[.agg #[.int .i64 (gC u : Nat), .int .i64 (gR u : Nat), .int .i64 (gN u : Nat)], .int .i64 (gE u)]) ∧ Bel w w' := by
  have hb := (Bel.refl w).alloc (.cells #[.int .i64 0, .int .i64 0, .int .i64 0] 44)
  obtain ⟨lc, lr, ln⟩ := parts_lt u
  have x1 : (u : Int) / 281474976710656 % 256 = (cOf u : Nat) := by unfold cOf; omega
  have x2 : (u : Int) / 4294967296 % 65536 = (rOf u : Nat) := by unfold rOf; omega
  have x3 : (u : Int) / 65536 % 65536 = (nOf u : Nat) := by unfold nOf; omega
  have pt := fun W => rput_h (cOf u) (rOf u) (nOf u) W ⟨by omega, by omega⟩ ⟨by omega, by omega⟩ ⟨by omega, by omega⟩
  have gw := get_ways u
  have gn := @g_no u
  have gy := @g_yes u
  generalize gC u = C' at *
  generalize gR u = R' at *
  generalize gN u = N' at *
  generalize gE u = E' at *
  generalize putR (cOf u) (rOf u) (nOf u) = A at *
  generalize putE (cOf u) (rOf u) (nOf u) = E at *
  generalize cOf u = C at *
  generalize rOf u = R at *
  generalize nOf u = N at *
  have tb := two w (.cells #[.int .i64 0, .int .i64 0, .int .i64 0] 44) (.cells #[.int .i64 (C : Nat), .int .i64 (R : Nat), .int .i64 (N : Nat)] 44)
  have bt := bel_two w (.cells #[.int .i64 0, .int .i64 0, .int .i64 0] 44) (.cells #[.int .i64 (C : Nat), .int .i64 (R : Nat), .int .i64 (N : Nat)] 44)
  rcases gw with ⟨_, rfl, rfl, h⟩ | ⟨_, rfl, ne, rfl, h⟩ | ⟨rfl, rfl, h⟩
  · obtain ⟨rfl, rfl, rfl, rfl⟩ := gn h
    clear gn gy h hu
    go_enter Tryz.func89, Tryz.ntmps89
    go_wp2_with (go_at_call 88; refine (pt _).mono ?_; rintro e w2 ⟨rfl, h2⟩; have hx := heap_bel h2 tb.1; obtain ⟨k0, k1, k2, f0, f1, f2⟩ := box3 hx)
    (try simp only [Exit.inBlock, Exit.then])
    refine bodyPost_ret (results_cell_row2 rfl _ _ _ 44 _ (0, 0) _ rfl (three_row hx _ _ _) Tryz.underlying44 rfl info_head) rfl ?_
    exact ⟨rfl, set_bel3 (bt.trans h2) (Nat.le_refl _) _ _ _⟩
  · obtain ⟨rfl, rfl, rfl, rfl⟩ := gn h
    have d : ((A : Int) == (u : Int)) = false := by simp; omega
    have d1 : decide (A = u) = false := decide_eq_false ne
    clear gn gy h hu
    go_enter Tryz.func89, Tryz.ntmps89
    go_wp2_with (go_at_call 88; refine (pt _).mono ?_; rintro e w2 ⟨rfl, h2⟩; have hx := heap_bel h2 tb.1; obtain ⟨k0, k1, k2, f0, f1, f2⟩ := box3 hx)
    (try simp only [Exit.inBlock, Exit.then])
    refine bodyPost_ret (results_cell_row2 rfl _ _ _ 44 _ (0, 0) _ rfl (three_row hx _ _ _) Tryz.underlying44 rfl info_head) rfl ?_
    exact ⟨rfl, set_bel3 (bt.trans h2) (Nat.le_refl _) _ _ _⟩
  · obtain ⟨rfl, rfl, rfl, rfl⟩ := gy h
    clear gn gy h hu
    go_enter Tryz.func89, Tryz.ntmps89
    go_wp2_with (go_at_call 88; refine (pt _).mono ?_; rintro e w2 ⟨rfl, h2⟩; have hx := heap_bel h2 tb.1; obtain ⟨k0, k1, k2, f0, f1, f2⟩ := box3 hx; obtain ⟨l0, l1, l2, _, _, _⟩ := box3 (heap_bel h2 tb.2))
    (try simp only [Exit.inBlock, Exit.then])
    refine bodyPost_ret (results_cell_row2 rfl _ _ _ 44 _ (0, 0) _ rfl (three_row hx _ _ _) Tryz.underlying44 rfl info_head) rfl ?_
    exact ⟨rfl, set_bel3 (bt.trans h2) (Nat.le_refl _) _ _ _⟩

end Go.Proofs.YthokalcibjjihaaGreatDoor.hd
