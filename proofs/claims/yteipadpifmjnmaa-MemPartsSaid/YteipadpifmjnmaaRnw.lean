/- New of the document's memories. -/
import Derived.Test.YteipadpifmjnmaaRze
import Derived.Test.YteipadpifmjnmaaReg
import Derived.Deep.RegionLaw
import Derived.Laws.MakeOwn
namespace Go.Proofs.Yteipadpifmjnmaa
open Go.ChangeShapes Go.WideShapes Go.ChangeAt Go.RowKit Go.Deep
set_option linter.unusedVariables false

/-- the words of a configuration, at first -/
def Cf.zeros (c : Cf) : List (List Nat) := (List.range c.m).map fun t => List.replicate (c.region t).toNat 0
theorem Cf.zeros_len (c : Cf) : c.zeros.length = c.m := by unfold Cf.zeros; simp
theorem Cf.zeros_at (c : Cf) {t : Nat} (h : t < c.m) : c.zeros[t]? = some (List.replicate (c.region t).toNat 0) := by unfold Cf.zeros; rw [List.getElem?_map, List.getElem?_range h]; rfl

theorem uL_zero (n : Nat) : madeCells (#[.int .u64 0] : Array Value) n = (uL (List.replicate n 0)).toArray := by
  apply Array.toList_inj.1
  rw [toList_madeCells_one]
  unfold uL
  simp

/-- a row of zeros, made -/
theorem own_zeros (w : World) (n : Nat) (h : n ≤ maxLen) : Own64 w.heap.size (w.alloc (.cells (madeCells (#[.int .u64 0] : Array Value) n) 40)) (.slice (some ⟨w.heap.size, 0, none⟩) n n) (List.replicate n 0) := by
  unfold Own64
  rw [uL_zero, List.length_replicate]
  have := World.ownsRow_lit (base := w.heap.size) (e := 40) (size := 1) w (uL (List.replicate n 0)).toArray n (Nat.le_refl _) h (by simp [uL])
  simpa using this

set_option maxRecDepth 100000 in
set_option maxHeartbeats 2000000 in
theorem rnew_any (X : Nat → Prop) (v : Value) (c : Cf) (w : World) (h : IsCf w v c) (ok : c.ok) (hX : Till X w) :
    Calls Try.prog 11 #[v] w fun e w' => (∃ v', e = .returned v' ∧ IsRm X w' v' c.zeros) ∧ Bel w w' := by
  have hI := h
  obtain ⟨vc, vt, rfl, hN, hT⟩ := h
  obtain ⟨p1, c1, rfl, _⟩ := nums_slice hN
  obtain ⟨p2, c2, rfl, _⟩ := tens_slice hT
  obtain ⟨m0, m1, m2, m3⟩ := three_made w (.cells #[.slice p1 c.n c1, .int .i64 c.page, .slice p2 c.m c2, .int .i64 c.wk, .int .i64 c.gr, .int .i64 c.gn] 25) (.cells #[.slice none 0 0] 36) (.cells #[.slice none 0 0] 36)
  have g3 := (((Bel.refl w).alloc (.cells #[.slice p1 c.n c1, .int .i64 c.page, .slice p2 c.m c2, .int .i64 c.wk, .int .i64 c.gr, .int .i64 c.gn] 25)).alloc (.cells #[.slice none 0 0] 36)).alloc (.cells #[.slice none 0 0] 36)
  have hid := Lib.hid (And.intro hI (And.intro ok (And.intro hX g3)))
  have hidm := Lib.hid (And.intro m0 (And.intro m1 (And.intro m2 m3)))
  have m8 := Cf.ok_m ok
  clear hI hN hT ok hX g3 m0 m1 m2 m3
  go_enter Try.func11, Try.ntmps11
  go_wp2
  go_loopw [4] (fun i wr => ∃ (k : Nat) (ov : Value), k ≤ c.m ∧ i = .int .i64 (k : Nat) ∧ Below (w.heap.size + 2) (((w.alloc (.cells #[.slice p1 c.n c1, .int .i64 c.page, .slice p2 c.m c2, .int .i64 c.wk, .int .i64 c.gr, .int .i64 c.gn] 25)).alloc (.cells #[.slice none 0 0] 36)).alloc (.cells #[.slice none 0 0] 36)) wr ∧ wr.heap[w.heap.size + 2]? = some (.cells #[ov] 36 (0, 0)) ∧ Orow (fun b => X b ∨ b = w.heap.size + 1 ∨ b = w.heap.size + 2) (w.heap.size + 3) wr ov (c.zeros.take k)) (fun i _ => c.m - (intOf i).toNat)
  case atStart => exact ⟨0, _, Nat.zero_le _, rfl, Below.refl _ _, hidm.out.2.2.1, Orow.nil _ _ _⟩
  case round =>
    obtain ⟨k, ov, hk, rfl, hbw, hbx, hO⟩ := hrel
    have hs := hidm.out.2.2.2
    have sz := hbw.size
    have hb0 := (hbw.block w.heap.size (by omega)).trans hidm.out.1
    have c0 := cell_of_row _ _ 0 _ _ (0, 0) hb0
    have c1' := cell_of_row _ _ 1 _ _ (0, 0) hb0
    have c2' := cell_of_row _ _ 2 _ _ (0, 0) hb0
    have c3' := cell_of_row _ _ 3 _ _ (0, 0) hb0
    have c4' := cell_of_row _ _ 4 _ _ (0, 0) hb0
    have c5' := cell_of_row _ _ 5 _ _ (0, 0) hb0
    have e0 : Below w.heap.size w wr := Below.trans hid.out.2.2.2 (hbw.mono (by omega))
    by_cases ck : k < c.m
    · have rg := rreg_any _ c k wr (hid.out.1.bel e0)
      have hz := Cf.has_zero hid.out.2.1 ck
      rw [Cf.regR_ok hz, Cf.hasE_ok hz, Int.toNat_natCast] at rg
      obtain ⟨r1, r2⟩ := Cf.region_bd hid.out.2.1 ck
      have hza := c.zeros_at ck
      obtain ⟨n, hn⟩ : ∃ n : Nat, c.region k = n := ⟨(c.region k).toNat, by omega⟩
      rw [hn] at rg r2 hza
      rw [Int.toNat_natCast] at hza
      have hQ : (c.zeros.take k).length ≤ 1000 := by rw [List.length_take, Cf.zeros_len]; omega
      have hidO := Lib.hid (And.intro hO (And.intro hQ (take_more hza)))
      have hmk : ∀ W : World, (Instr.makeSlice 45 (.int .i64 (n : Nat)) (.int .i64 (n : Nat))).run Try.prog W = .ok (.slice (some ⟨W.heap.size, 0, none⟩) n n) (W.alloc (.cells (madeCells (#[.int .u64 0] : Array Value) n) 40)) := fun W => by
        obtain ⟨i0, hi, hz0, hz1, hz2⟩ := info_parts info_u64
        have := run_make (P := Try.prog) W 45 40 i0 _ Try.underlying45 hi hz0 .i64 .i64 n n (by omega) (Int.le_refl _) (by rw [hz2]; omega) (by omega)
        rw [this, hz1, Int.toNat_natCast, Nat.mul_one]
        rfl
      clear hO hQ hza hn hz r1
      go_wp2_with (go_at_call 28; refine rg.mono ?_; rintro e w3 ⟨rfl, hg⟩)
      have cx := cell_of_row _ _ 0 _ _ (0, 0) (heap_bel hg hbx)
      have g0 := Bel.refl w3
      obtain ⟨lv, hlv⟩ : ∃ lv : Value, .slice (some ⟨w3.heap.size, 0, none⟩) n n = lv := ⟨_, rfl⟩
      have hOz := own_zeros w3 n (by unfold maxLen; omega)
      have A := (Bel.refl w3).alloc (.cells (madeCells (#[.int .u64 0] : Array Value) n) 40)
      have A2 := (Bel.refl (w3.alloc (.cells (madeCells (#[.int .u64 0] : Array Value) n) 40))).alloc (.cells #[.slice (some ⟨w3.heap.size, 0, none⟩) n n] 45)
      have hx2 : (((w3.alloc (.cells (madeCells (#[.int .u64 0] : Array Value) n) 40)).alloc (.cells #[.slice (some ⟨w3.heap.size, 0, none⟩) n n] 45)).drew).heap[w3.heap.size + 1]? = some (.cells #[.slice (some ⟨w3.heap.size, 0, none⟩) n n] 45 (0, 0)) := by
        have := heap_alloc_new (w3.alloc (.cells (madeCells (#[.int .u64 0] : Array Value) n) 40)) (.cells #[.slice (some ⟨w3.heap.size, 0, none⟩) n n] 45)
        rw [size_alloc1] at this
        exact this
      have hO1 : Orow (fun b => X b ∨ b = w.heap.size + 1 ∨ b = w.heap.size + 2) (w.heap.size + 3) (((w3.alloc (.cells (madeCells (#[.int .u64 0] : Array Value) n) 40)).alloc (.cells #[.slice (some ⟨w3.heap.size, 0, none⟩) n n] 45)).drew) ov (c.zeros.take k) := hidO.out.1.bel (hg.trans (A.trans A2.drew))
      have hlw : Ws (fun b => (X b ∨ b = w.heap.size + 1 ∨ b = w.heap.size + 2) ∨ ov.ownBlock = some b) (((w3.alloc (.cells (madeCells (#[.int .u64 0] : Array Value) n) 40)).alloc (.cells #[.slice (some ⟨w3.heap.size, 0, none⟩) n n] 45)).drew) (.slice (some ⟨w3.heap.size, 0, none⟩) n n) (List.replicate n 0) := by
        refine (hOz.ws fun x hx _ => ?_).bel A2.drew
        have q0 := hidO.out.1.lt x
        have := hg.size
        rintro ((y | y | y) | y)
        · have := hid.out.2.2.1 x y; omega
        · omega
        · omega
        · have := q0 y; omega
      have hsz : w.heap.size + 3 ≤ (((w3.alloc (.cells (madeCells (#[.int .u64 0] : Array Value) n) 40)).alloc (.cells #[.slice (some ⟨w3.heap.size, 0, none⟩) n n] 45)).drew).heap.size := by
        have := A.size; have := A2.size; have := hg.size
        show _ ≤ ((w3.alloc _).alloc _).heap.size
        omega
      have hb2 := heap_bel (hg.trans (A.trans A2.drew)) hbx
      have hidp := Lib.hid (And.intro hO1 (And.intro hx2 (And.intro hlw (And.intro hsz (And.intro hb2 (hg.trans (A.trans A2.drew)))))))
      have cx0 : w3.cell? ⟨w.heap.size + 1 + 1, 0, none⟩ = some ov := cx
      have cxa := cell_bel A cx0
      have cxb := cell_bel A2 cxa
      clear hO1 hx2 hlw hsz hb2 A A2 hOz hlv lv g0 cx
      clear c0 c1' c2' c3' c4' c5' rg
      go_region_law (first
        | (refine step_pushG (by rfl) (.tmp 21) (.tmp 24) (by rfl) (w.heap.size + 3) ov (.slice (some ⟨w3.heap.size, 0, none⟩) n n) (c.zeros.take k) (List.replicate n 0) (w3.heap.size + 1) (by rfl) hidp.out.1 (by rfl) hidp.out.2.1 hidp.out.2.2.1 hidO.out.2.1 hidp.out.2.2.2.1 ?_
           intro p' n' cap' w4 hO4 hB4
           obtain ⟨fz, cx3, W5, hW5, hbx5, cx5, hE5⟩ := box_store (x := .slice p' n' cap') ((hB4.block _ (by omega)).trans hidp.out.2.2.2.2.1)
           have hid5 := Lib.hid (And.intro hO4 (And.intro hB4 (And.intro hbx5 hE5)))
           clear hO4 hB4 hbx5 hE5))
      all_goals go_wp2
      all_goals go_roundw
      all_goals (first
       | (simp only [intOf]; omega)
       | (obtain ⟨hO4, hB4, hbx5, hE5⟩ := hid5.out
          obtain ⟨_, _, _, hsz, _, hgg⟩ := hidp.out
          refine ⟨k + 1, _, by omega, by go_num, Below.trans hbw (Below.trans (hgg.mono (by omega)) (Below.trans (hB4.mono (by omega)) (hE5.below (fun x hx => by omega) (by have := hB4.size; omega)))), hbx5, ?_⟩
          rw [hidO.out.2.2]
          exact hO4.exc hE5 (fun x hx => Or.inr (Or.inr hx)) (fun x hx => by omega)))
    · obtain rfl : k = c.m := by omega
      have eT : c.zeros.take c.m = c.zeros := List.take_of_length_le (by rw [Cf.zeros_len]; omega)
      rw [eT] at hO
      have hidO := Lib.hid hO
      have hb1 := (hbw.block (w.heap.size + 1) (by omega)).trans hidm.out.2.1
      have cx := cell_of_row _ _ 0 _ _ (0, 0) hbx
      obtain ⟨p', cap', rfl⟩ := hO.shape
      obtain ⟨fz, cx3, W4, hW4, hbx4, cx4, hE4⟩ := box_store (x := .slice p' c.zeros.length cap') hb1
      have hid4 := Lib.hid (And.intro hbx4 hE4)
      clear hO eT hb1 hE4
      go_wp2
      (try simp only [Exit.inBlock, Exit.then])
      refine bodyPost_ret (results_cell_row rfl _ _ _ 36 _ (0, 0) _ rfl hid4.out.1 Try.underlying36 rfl info_rm) rfl ?_
      have hE4 := hid4.out.2
      have O4 := hidO.out.exc hE4 (fun x hx => Or.inr (Or.inl hx)) (fun x hx => by omega)
      exact ⟨⟨_, rfl, _, rfl, O4.rs (fun x hx hX => by have := hid.out.2.2.1 x hX; omega) (fun x hx => Or.inl hx)⟩, Below.trans e0 (hE4.below (fun x hx => by omega) (by have := hbw.size; omega))⟩

end Go.Proofs.Yteipadpifmjnmaa
