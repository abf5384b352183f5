/-
  OUR OWN TEXT. slices.Repeat of one number.
-/
import Derived.Test.YtgmemndjclhheaeNp
import Derived.Laws.CopyOwn
namespace Go.Proofs.Ytgmemndjclhheae
open Go.RowKit

set_option maxRecDepth 100000 in
set_option maxHeartbeats 2000000 in
theorem mul_any (w : World) (m : Nat) (h1 : 1 ≤ m) (h2 : m ≤ 16) : Calls Try.prog 106 #[.int .u64 1, .int .u64 (m : Int)] w fun e w' => e = .returned (.tuple #[.int .u64 0, .int .u64 (m : Int)]) ∧ w' = w := by
  obtain rfl | rfl | rfl | rfl | rfl | rfl | rfl | rfl | rfl | rfl | rfl | rfl | rfl | rfl | rfl | rfl : m = 1 ∨ m = 2 ∨ m = 3 ∨ m = 4 ∨ m = 5 ∨ m = 6 ∨ m = 7 ∨ m = 8 ∨ m = 9 ∨ m = 10 ∨ m = 11 ∨ m = 12 ∨ m = 13 ∨ m = 14 ∨ m = 15 ∨ m = 16 := by omega
  · go_enter Try.func106, Try.ntmps106
    go_wp2
    exact bodyPost_ret (v := .tuple #[.int .u64 0, .int .u64 1]) (by kernel_rfl) rfl ⟨rfl, rfl⟩
  · go_enter Try.func106, Try.ntmps106
    go_wp2
    exact bodyPost_ret (v := .tuple #[.int .u64 0, .int .u64 2]) (by kernel_rfl) rfl ⟨rfl, rfl⟩
  · go_enter Try.func106, Try.ntmps106
    go_wp2
    exact bodyPost_ret (v := .tuple #[.int .u64 0, .int .u64 3]) (by kernel_rfl) rfl ⟨rfl, rfl⟩
  · go_enter Try.func106, Try.ntmps106
    go_wp2
    exact bodyPost_ret (v := .tuple #[.int .u64 0, .int .u64 4]) (by kernel_rfl) rfl ⟨rfl, rfl⟩
  · go_enter Try.func106, Try.ntmps106
    go_wp2
    exact bodyPost_ret (v := .tuple #[.int .u64 0, .int .u64 5]) (by kernel_rfl) rfl ⟨rfl, rfl⟩
  · go_enter Try.func106, Try.ntmps106
    go_wp2
    exact bodyPost_ret (v := .tuple #[.int .u64 0, .int .u64 6]) (by kernel_rfl) rfl ⟨rfl, rfl⟩
  · go_enter Try.func106, Try.ntmps106
    go_wp2
    exact bodyPost_ret (v := .tuple #[.int .u64 0, .int .u64 7]) (by kernel_rfl) rfl ⟨rfl, rfl⟩
  · go_enter Try.func106, Try.ntmps106
    go_wp2
    exact bodyPost_ret (v := .tuple #[.int .u64 0, .int .u64 8]) (by kernel_rfl) rfl ⟨rfl, rfl⟩
  · go_enter Try.func106, Try.ntmps106
    go_wp2
    exact bodyPost_ret (v := .tuple #[.int .u64 0, .int .u64 9]) (by kernel_rfl) rfl ⟨rfl, rfl⟩
  · go_enter Try.func106, Try.ntmps106
    go_wp2
    exact bodyPost_ret (v := .tuple #[.int .u64 0, .int .u64 10]) (by kernel_rfl) rfl ⟨rfl, rfl⟩
  · go_enter Try.func106, Try.ntmps106
    go_wp2
    exact bodyPost_ret (v := .tuple #[.int .u64 0, .int .u64 11]) (by kernel_rfl) rfl ⟨rfl, rfl⟩
  · go_enter Try.func106, Try.ntmps106
    go_wp2
    exact bodyPost_ret (v := .tuple #[.int .u64 0, .int .u64 12]) (by kernel_rfl) rfl ⟨rfl, rfl⟩
  · go_enter Try.func106, Try.ntmps106
    go_wp2
    exact bodyPost_ret (v := .tuple #[.int .u64 0, .int .u64 13]) (by kernel_rfl) rfl ⟨rfl, rfl⟩
  · go_enter Try.func106, Try.ntmps106
    go_wp2
    exact bodyPost_ret (v := .tuple #[.int .u64 0, .int .u64 14]) (by kernel_rfl) rfl ⟨rfl, rfl⟩
  · go_enter Try.func106, Try.ntmps106
    go_wp2
    exact bodyPost_ret (v := .tuple #[.int .u64 0, .int .u64 15]) (by kernel_rfl) rfl ⟨rfl, rfl⟩
  · go_enter Try.func106, Try.ntmps106
    go_wp2
    exact bodyPost_ret (v := .tuple #[.int .u64 0, .int .u64 16]) (by kernel_rfl) rfl ⟨rfl, rfl⟩

/-- n of m are there. -/
def rl (m n : Nat) : List Value := List.replicate n (.int .i64 (-1)) ++ List.replicate (m - n) (.int .i64 0)

theorem rl_len {m n : Nat} (h : n ≤ m) : (rl m n).length = m := by unfold rl; simp; omega

theorem rl_splice {m n k : Nat} (h : n + k ≤ m) : splice (rl m n) n (List.replicate k (.int .i64 (-1))) = rl m (n + k) := by
  unfold splice rl
  rw [List.length_replicate, List.take_left' (List.length_replicate ..), List.drop_append, List.length_replicate, List.drop_of_length_le (by simp), List.nil_append, List.drop_replicate, ← List.append_assoc, List.replicate_append_replicate]
  congr 2
  omega

theorem rl_get {m n j : Nat} (h : j < n) : (rl m n)[j]? = some (.int .i64 (-1)) := by
  unfold rl
  rw [List.getElem?_append_left (by simpa using h), List.getElem?_replicate, if_pos h]

theorem neg_one (k : Nat) : ∀ v ∈ List.replicate k (Value.int .i64 (-1)), v.oneCell' = true := fun v hv => by
  rw [(List.mem_replicate.1 hv).2]
  rfl

/-- copy onto such a row. -/
theorem copy_rl {W : World} {g m n k c sl dc : Nat} {ad : Addr} (hg : W.heap[g]? = some (.cells (rl m n).toArray 3 (0, 0))) (hk : n + k ≤ m) (hmin : k = Nat.min sl (m - n)) (hsrc : ∀ j, j < k → W.cell? (ad.add j) = some (.int .i64 (-1))) :
    ∃ W', (Builtin.copy_ #[56, 56] 3 #[.slice (some ⟨g, n, none⟩) (m - n) dc, .slice (some ad) sl c]).run Try.prog W = .ok (.int .i64 (k : Int)) W' ∧ W'.heap[g]? = some (.cells (rl m (n + k)).toArray 3 (0, 0)) ∧ But (fun x => x = g) W W' := by
  have hsz : (Try.prog.info? 3).map (·.size) = some 1 := by kernel_rfl
  have hrun := run_copy_row (P := Try.prog) W 56 56 3 3 g n (m - n) dc ad sl c (rl m n).toArray 3 (List.replicate k (.int .i64 (-1))) Try.underlying56 hsz hg (by rw [List.length_replicate]; exact hmin) (fun j v hj => by
    rw [List.getElem?_replicate] at hj
    split at hj
    · cases hj; exact hsrc j (by assumption)
    · cases hj) (by rw [List.length_replicate, List.size_toArray, rl_len (by omega)]; exact hk) (neg_one k)
  rw [List.length_replicate] at hrun
  refine ⟨_, hrun, (setRow_heap W g _ _ _ _ hg).trans ?_, ⟨rfl, rfl, rfl, by simp [World.setRow], fun x _ hx => setRow_other W g x _ hx⟩⟩
  have h1 := rl_splice (m := m) (n := n) (k := k) hk
  unfold splice at h1
  rw [List.length_replicate, ← List.append_assoc] at h1
  rw [← h1]

/-- What Repeat answers. -/
def RepRes (m : Nat) (w : World) (e : Ending) (w' : World) : Prop := ∃ g, e = .returned (.slice (some ⟨g, 0, none⟩) m m) ∧ w.heap.size ≤ g ∧ w'.rowIs g 3 m (fun _ => .int .i64 (-1)) ∧ Below w.heap.size w w'

set_option maxRecDepth 100000 in
set_option maxHeartbeats 1000000 in
theorem repeat_any (w : World) (gx m : Nat) (hx : w.cell? ⟨gx, 0, none⟩ = some (.int .i64 (-1))) (h1 : 1 ≤ m) (h2 : m ≤ 16) :
    Calls Try.prog 72 #[.slice (some ⟨gx, 0, none⟩) 1 1, .int .i64 (m : Int)] w (RepRes m w) := by
  have hmk := run_make_row' (P := Try.prog) 56 3 (.int .i64 0) 8 Try.underlying56 Try.info_int rfl .i64 .i64 m (by omega) (by omega)
  have KM := fun w => mul_any w m h1 h2
  have hd1 : decide ((m : Int) < 0) = false := by simp
  have hd2 : decide ((9223372036854775807 : Int) < m) = false := by simp; omega
  go_enter Try.func72, Try.ntmps72
  go_upto_region 6 with (go_at_call 106; refine (KM _).mono ?_; rintro e w1 ⟨rfl, hw1⟩; obtain rfl := hw1.symm)
  clear KM hd2
  have hal : Below w.heap.size w (w.alloc (.cells (madeCells #[.int .i64 0] m) 3)) := (Below.refl _ _).alloc (Nat.le_refl _) _
  have hg0 : (w.alloc (.cells (madeCells #[.int .i64 0] m) 3)).heap[w.heap.size]? = some (.cells (rl m 0).toArray 3 (0, 0)) := by
    rw [heap_alloc_new]
    unfold rl
    rw [List.replicate_zero, List.nil_append, Nat.sub_zero, ← toList_madeCells_one, Array.toArray_toList]
  have hx0 : (w.alloc (.cells (madeCells #[.int .i64 0] m) 3)).cell? ⟨gx, 0, none⟩ = some (.int .i64 (-1)) := by
    rw [World.cell?_of_block (a := ⟨gx, 0, none⟩) (hal.block gx (World.block_lt_of_cell? w _ hx))]
    exact hx
  have hsz : (Try.prog.info? 3).map (·.size) = some 1 := by kernel_rfl
  go_upto_region 7 with fail
  obtain ⟨W1, hW1⟩ : ∃ X, w.alloc (.cells (madeCells #[.int .i64 0] m) 3) = X := ⟨_, rfl⟩
  rw [hW1] at hal hg0 hx0 ⊢
  clear hW1 hmk hx
  have hcopy := copy_rl (g := w.heap.size) (m := m) (n := 0) (k := 1) (c := 1) (sl := 1) (ad := ⟨gx, 0, none⟩) (dc := m) hg0 (by omega) (by rw [Nat.sub_zero]; exact (Nat.min_eq_left h1).symm) (fun j hj => by obtain rfl : j = 0 := (by omega); rw [addr_add]; exact hx0)
  rw [Nat.sub_zero] at hcopy
  obtain ⟨W2, hrun, hg2, hb2⟩ := hcopy
  have hb02 : Below w.heap.size w W2 := hal.trans (hb2.below (by have := hal.size; omega) (fun x hx e => by omega))
  go_wp2_with fail
  clear hrun hg0 hx0 hb2
  go_loopw [8] (fun nv wr => ∃ n : Nat, 1 ≤ n ∧ n ≤ m ∧ nv = .int .i64 n ∧ wr.heap[w.heap.size]? = some (.cells (rl m n).toArray 3 (0, 0)) ∧ Below w.heap.size w wr) (fun nv _ => m - (intOf nv).toNat)
  case atStart => exact ⟨1, Nat.le_refl _, h1, rfl, hg2, hb02⟩
  case round =>
    rename World => w3
    clear hg2 hb02
    obtain ⟨n, hn1, hnm, rfl, hg3, hb3⟩ := hrel
    by_cases hnt : n < m
    · obtain ⟨k, hk⟩ : ∃ k, k = Nat.min n (m - n) := ⟨_, rfl⟩
      have hkm : n + k ≤ m := by
        have : k ≤ m - n := hk ▸ Nat.min_le_right _ _
        omega
      have hkp : 1 ≤ k := by
        rw [hk]
        exact Nat.le_min.2 ⟨hn1, by omega⟩
      have hkn : k ≤ n := hk ▸ Nat.min_le_left _ _
      obtain ⟨W4, hrun, hg4, hb4⟩ := copy_rl (W := w3.drew) (g := w.heap.size) (m := m) (n := n) (k := k) (c := m) (sl := n) (ad := ⟨w.heap.size, 0, none⟩) (dc := m - n) hg3 hkm hk (fun j hj => by
        rw [addr_add]
        exact cell_in (W := w3.drew) hg3 _ _ (by rw [List.getElem?_toArray, Nat.zero_add]; exact rl_get (by omega)))
      have hb04 : Below w.heap.size w W4 := hb3.trans ((But.drew w3).trans hb4 |>.below (by have := hb3.size; omega) (fun x hx e => by omega))
      have hmn : ¬ m = n := by omega
      have hle : n ≤ m := by omega
      clear hg3 hk
      go_upto_region 9 with fail
      go_big_region
      clear hrun
      go_wp2_with fail
      go_roundw
      case rel => exact ⟨n + k, by omega, hkm, by go_num, hg4, hb04⟩
      case measure => simp [intOf]; omega
    · obtain rfl : n = m := by omega
      have hrow : w3.rowIs w.heap.size 3 n (fun _ => .int .i64 (-1)) := ⟨_, hg3, by rw [List.size_toArray, rl_len (Nat.le_refl _)], fun i hi => by rw [List.getElem?_toArray]; exact rl_get hi⟩
      clear hg3
      go_wp2_with fail
      go_ret
      exact ⟨_, rfl, Nat.le_refl _, hrow, hb3⟩

#print axioms mul_any
#print axioms repeat_any
end Go.Proofs.Ytgmemndjclhheae
