/-
  OUR OWN TEXT. The document's work and span, walked.
-/
import Derived.Test.YtgmemndjclhheaeSp
namespace Go.Proofs.Ytgmemndjclhheae
open Go.RowKit

theorem Try.infoInt : (Try.prog.info? 3).map (fun i => (i.zero, i.size, i.bytes)) = some (some (.int .i64 0), 1, 8) := by kernel_rfl

theorem sum_len_le {J : Jb} (R : J.Right) (k : Nat) (hk : k ≤ J.n) : Gr.sumN J.gr.len k ≤ 200000 := Nat.le_trans (Gr.sumN_mono J.gr.len hk) (work_total R)

set_option maxRecDepth 100000 in
set_option maxHeartbeats 1000000 in
theorem spanned_any (J : Jb) (w : World) (B : Nat) (v : Value) (hin : J.In w B v) (hB : B ≤ w.heap.size) (hR : J.Right) (hA : J.Acyc) :
    Calls Try.prog 25 #[v] w fun e w' => ∃ x y : Nat, e = .returned (.tuple #[.int .i64 x, .int .i64 y]) ∧ Gr.Sums J.gr x y ∧ Below w.heap.size w w' := by
  obtain ⟨r, hr0⟩ := hA
  have hr : Rank J r := hr0
  clear hr0
  obtain ⟨a, cap, rfl, hl, hc, cell⟩ := hin
  unfold maxLen at hc
  have hfew := hR.few
  have hmkI := run_make_row' (P := Try.prog) 56 3 (.int .i64 0) 8 Try.underlying56 Try.infoInt rfl .i64 .i64 J.n (by omega) (by omega)
  have hj : ∀ wr, Below w.heap.size w wr → ∀ i, i < J.n → ∃ b off, a = some ⟨b, off, none⟩ ∧ b < B ∧ ∃ s, wr.cell? ⟨b, off + i * 4, none⟩ = some (.int .i64 (J.len i)) ∧ wr.cell? ⟨b, off + i * 4 + 2, none⟩ = some s ∧ IntsIn wr B (J.aft i) s := by
    intro wr hb i hi
    obtain ⟨b, off, s, ha, hbB, f0, f1, f2, _, hs⟩ := cell i hi
    have e : ∀ o : Nat, wr.cell? ⟨b, o, none⟩ = w.cell? ⟨b, o, none⟩ := fun o => World.cell?_of_block (hb.block b (by omega))
    exact ⟨b, off, ha, hbB, s, by rw [e]; exact f0, by rw [e]; exact f2, hs.keep fun k hk => hb.block k (by omega)⟩
  have hrow := World.rowIs_made w (.int .i64 0) J.n 3
  have hlow : Below w.heap.size w (w.alloc (.cells (madeCells #[.int .i64 0] J.n) 3)) := (Below.refl _ _).alloc (Nat.le_refl _) _
  clear cell
  go_enter Try.func25, Try.ntmps25
  go_wp2_with fail
  clear hmkI
  go_loopw [5] (fun cv wr => ∃ (c : Nat) (L : Nat → Nat), c ≤ J.n + 1 ∧ cv = .int .i64 c ∧ Below w.heap.size w wr ∧ wr.rowIs w.heap.size 3 J.n (fun i => .int .i64 (L i)) ∧ LongTo J r c L) (fun cv _ => J.n + 1 - (intOf cv).toNat)
  case atStart => exact ⟨0, fun _ => 0, Nat.zero_le _, rfl, hlow, hrow, long_start⟩
  case round =>
    rename World => w3
    obtain ⟨c, L, hcn, rfl, hb3, hr3, hL⟩ := hrel
    clear hrow hlow
    by_cases hct : c ≤ J.n
    · go_wp2_with fail
      go_loopw [6] (fun kv wr => ∃ (k : Nat) (L' : Nat → Nat), k ≤ J.n ∧ kv = .int .i64 k ∧ Below w.heap.size w wr ∧ wr.rowIs w.heap.size 3 J.n (fun i => .int .i64 (L' i)) ∧ LongAt J r c k L') (fun kv _ => J.n - (intOf kv).toNat)
      case atStart => exact ⟨0, L, Nat.zero_le _, rfl, hb3, hr3, longAt_start hL⟩
      case round =>
        rename World => w4
        obtain ⟨k, L', hk, rfl, hb4, hr4, hL4⟩ := hrel
        clear hb3 hr3 hL
        by_cases hkt : k < J.n
        · obtain ⟨b, off, rfl, hbB, s, f0, f2, hs⟩ := hj w4 hb4 k hkt
          obtain ⟨aa, acap, rfl, hal, hac, hax⟩ := hs
          unfold maxLen at hac
          have n1 := hR.len k hkt
          have n2 := hR.aft k hkt
          have n3 : ∀ x, x < J.n → L' x ≤ 200000 := fun x hx => Nat.le_trans (hL4.1.1 x hx) (sp_bound hR hr x hx)
          have hst := longAt_step hR hr hL4 hkt
          clear hj hL4
          go_wp2_with fail
          go_loop [7, 8] (fun mv jv => ∃ j : Nat, j ≤ (J.aft k).length ∧ jv = .int .i64 j ∧ mv = .int .i64 (mx (((J.aft k).take j).map fun a => L' a.toNat) : Nat)) (fun _ jv => (J.aft k).length - (intOf jv).toNat)
          case atStart => exact ⟨0, Nat.zero_le _, rfl, rfl⟩
          case round =>
            obtain ⟨j, hjl, rfl, rfl⟩ := hrel
            by_cases hjt : j < (J.aft k).length
            · obtain ⟨ab, ao, rfl, hab, ac⟩ := hax j hjt
              have hm := n2 _ (List.getElem_mem hjt)
              obtain ⟨x, hx⟩ : ∃ x : Nat, (J.aft k)[j] = x := ⟨(J.aft k)[j].toNat, by omega⟩
              have hxn : x < J.n := by omega
              have hxx : (J.aft k)[j].toNat = x := by omega
              have hcx := hr4.cell hxn
              have hnx := n3 x hxn
              have HT : Hid (mx (((J.aft k).take (j + 1)).map fun a => L' a.toNat) = max (mx (((J.aft k).take j).map fun a => L' a.toNat)) (L' x)) := by
                show _ = _
                rw [mx_take hjt, hxx]
              rw [hx] at ac
              generalize mx (((J.aft k).take j).map fun a => L' a.toNat) = M at *
              clear hax n2 n3 hst hm hx hxx hr4
              go_wp2_with fail
              all_goals
                go_round
                case rel => exact ⟨j + 1, by omega, by go_num, by rw [HT.out]; congr 1; omega⟩
                case measure => simp [intOf]; omega
            · have e : (J.aft k).take j = J.aft k := List.take_of_length_le (by omega)
              rw [e]
              have hmb : mx ((J.aft k).map fun a => L' a.toNat) ≤ 200000 := mx_le fun y hy => by
                obtain ⟨z, hz, rfl⟩ := List.mem_map.1 hy
                have := n2 z hz
                exact n3 _ (by omega)
              have z1 := hr4.frozen k
              have z2 := hr4.cell hkt
              have z3 := hr4.lt
              have hb5 : ∀ v, Below w.heap.size w (w4.setCell ⟨w.heap.size, k, none⟩ v) := fun v => hb4.setCell (by simp) _
              have hr5 : (w4.setCell ⟨w.heap.size, k, none⟩ (.int .i64 ((mx ((J.aft k).map fun a => L' a.toNat) : Nat) + J.len k))).rowIs w.heap.size 3 J.n (fun i => .int .i64 (Gr.put L' k (mx ((J.aft k).map fun a => L' a.toNat) + (J.len k).toNat) i : Nat)) :=
                (hr4.set k _).congr fun i _ => by
                  unfold Gr.put
                  split
                  · congr 1; omega
                  · rfl
              generalize mx ((J.aft k).map fun a => L' a.toNat) = M at *
              clear e hax n2 n3 hr4
              go_wp2_with fail
              go_roundw
              case rel => exact ⟨k + 1, _, by omega, by go_num, hb5 _, hr5, hst⟩
              case measure => simp [intOf]; omega
        · have hend := longAt_end hL4 (by omega)
          clear hj
          go_wp2_with fail
          go_roundw
          case rel => exact ⟨c + 1, L', by omega, by go_num, hb4, hr4, hend⟩
          case measure => simp [intOf]; omega
    · obtain rfl : c = J.n + 1 := by omega
      have hsum := sums_end hR hr hL
      have n3 : ∀ x, x < J.n → L x ≤ 200000 := fun x hx => Nat.le_trans (hL.1 x hx) (sp_bound hR hr x hx)
      have n4 : ∀ k, k ≤ J.n → mxTo L k ≤ 200000 := by
        intro k hk
        rcases mxTo_some (L := L) (k := k) with h | ⟨i, h1, h2⟩
        · omega
        · have := n3 i (by omega); omega
      go_wp2_with fail
      go_loop [2, 3, 9] (fun wv sv kv => ∃ k : Nat, k ≤ J.n ∧ kv = .int .i64 k ∧ wv = .int .i64 (Gr.sumN J.gr.len k : Nat) ∧ sv = .int .i64 (mxTo L k : Nat)) (fun _ _ kv => J.n - (intOf kv).toNat)
      case atStart => exact ⟨0, Nat.zero_le _, rfl, rfl, rfl⟩
      case round =>
        obtain ⟨k, hk, rfl, rfl, rfl⟩ := hrel
        by_cases hkt : k < J.n
        · obtain ⟨b, off, rfl, hbB, s, f0, f2, hs⟩ := hj w3 hb3 k hkt
          have c1 := hr3.cell hkt
          have n1 := hR.len k hkt
          have n5 := n3 k hkt
          have n6 := n4 k hk
          have n7 := sum_len_le hR k hk
          have H1 : Hid (Gr.sumN J.gr.len (k + 1) = Gr.sumN J.gr.len k + (J.len k).toNat) := rfl
          have H2 : Hid (mxTo L (k + 1) = max (mxTo L k) (L k)) := rfl
          clear hj hs f2 hr3 n3 n4 hL hsum
          go_wp2_with fail
          all_goals
            go_round
            case rel => exact ⟨k + 1, by omega, by go_num, by rw [H1.out]; congr 1; omega, by rw [H2.out]; congr 1; omega⟩
            case measure => simp [intOf]; omega
        · obtain rfl : k = J.n := by omega
          clear hj
          go_wp2_with fail
          exact bodyPost_ret (v := .tuple #[.int .i64 (Gr.sumN J.gr.len J.n : Nat), .int .i64 (mxTo L J.n : Nat)]) (by simp [results, Try.results25, go_sem]) rfl ⟨_, _, rfl, hsum, hb3⟩

#print axioms spanned_any
end Go.Proofs.Ytgmemndjclhheae
