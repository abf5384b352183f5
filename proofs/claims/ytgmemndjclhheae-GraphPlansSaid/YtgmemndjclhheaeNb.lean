/-
  OUR OWN TEXT. The code's own look at the jobs: allSound, tooLarge.
-/
import Derived.Test.YtgmemndjclhheaeNa
namespace Go.Proofs.Ytgmemndjclhheae
open Go.RowKit

/-- The jobs' cells, in a world behind. -/
theorem Jb.In.cells {J : Jb} {w wr : World} {B : Nat} {a : Option Addr} {n cap : Nat} (hin : J.In w B (.slice a n cap)) (hB : B ≤ w.heap.size) (hb : Below w.heap.size w wr) {i : Nat} (hi : i < J.n) :
    ∃ b off aa acap, a = some ⟨b, off, none⟩ ∧ b < B ∧ wr.cell? ⟨b, off + i * 4, none⟩ = some (.int .i64 (J.len i)) ∧ wr.cell? ⟨b, off + i * 4 + 1, none⟩ = some (.int .i64 (J.urg i)) ∧
      wr.cell? ⟨b, off + i * 4 + 2, none⟩ = some (.slice aa (J.aft i).length acap) ∧ wr.cell? ⟨b, off + i * 4 + 3, none⟩ = some (.int .i64 (J.num i)) ∧ (J.aft i).length ≤ acap ∧ acap ≤ maxLen ∧
      ∀ k (h : k < (J.aft i).length), ∃ ab ao, aa = some ⟨ab, ao, none⟩ ∧ ab < B ∧ wr.cell? ⟨ab, ao + k, none⟩ = some (.int .i64 (J.aft i)[k]) := by
  obtain ⟨a', cap', e, hl, hc, cell⟩ := hin.keep (w' := wr) fun k hk => hb.block k (by omega)
  cases e
  obtain ⟨b, off, s, ha, hbB, f0, f1, f2, f3, aa, acap, rfl, h1, h2, h3⟩ := cell i hi
  exact ⟨b, off, aa, acap, ha, hbB, f0, f1, f2, f3, h1, h2, h3⟩

/-- A test's answer. -/
def BoolRes (p : Prop) (w : World) (e : Ending) (w' : World) : Prop := ∃ x : Bool, e = .returned (.bool x) ∧ (x = true ↔ p) ∧ Below w.heap.size w w'

theorem boolRes_no {p : Prop} {w w' : World} (h : ¬ p) (hb : Below w.heap.size w w') : BoolRes p w (.returned (.bool false)) w' := ⟨false, rfl, ⟨fun h => (by cases h), fun h' => absurd h' h⟩, hb⟩
theorem boolRes_yes {p : Prop} {w w' : World} (h : p) (hb : Below w.heap.size w w') : BoolRes p w (.returned (.bool true)) w' := ⟨true, rfl, ⟨fun _ => h, fun _ => rfl⟩, hb⟩

set_option maxRecDepth 100000 in
set_option maxHeartbeats 1000000 in
theorem tooLarge_any (J : Jb) (w : World) (B : Nat) (v : Value) (hin : J.In w B v) (hB : B ≤ w.heap.size) (hsm : J.Small) :
    Calls Try.prog 43 #[v] w (BoolRes (200 < J.n ∨ ∃ i, i < J.n ∧ 200 < (J.aft i).length) w) := by
  have hin0 := hin
  obtain ⟨a, cap, rfl, hl, hc, _⟩ := hin
  unfold maxLen at hc
  have hsn := hsm.n
  by_cases hn : 200 < J.n
  · have hd : decide ((200 : Int) < J.n) = true := by simp; omega
    go_enter Try.func43, Try.ntmps43
    go_wp2_with fail
    go_ret
    exact boolRes_yes (.inl hn) (Below.refl _ _)
  · have hd : decide ((200 : Int) < J.n) = false := by simp; omega
    go_enter Try.func43, Try.ntmps43
    go_wp2_with fail
    go_loopw [10] (fun iv wr => ∃ k : Nat, k ≤ J.n ∧ iv = .int .i64 k ∧ Below w.heap.size w wr ∧ ∀ i, i < k → ¬ 200 < (J.aft i).length) (fun iv _ => J.n - (intOf iv).toNat)
    case atStart => exact ⟨0, Nat.zero_le _, rfl, Below.refl _ _, fun i hi => by omega⟩
    case round =>
      rename World => w3
      obtain ⟨k, hk, rfl, hb3, hno⟩ := hrel
      by_cases hkt : k < J.n
      · obtain ⟨b, off, aa, acap, rfl, hbB, f0, f1, f2, f3, h1, h2, _⟩ := hin0.cells hB hb3 hkt
        have hb4 := fun ob => hb3.alloc hb3.size ob
        by_cases hal : 200 < (J.aft k).length
        · have hd2 : decide ((200 : Int) < (J.aft k).length) = true := by simp; omega
          go_wp2_with fail
          go_ret
          exact boolRes_yes (.inr ⟨k, hkt, hal⟩) (hb4 _)
        · have hd2 : decide ((200 : Int) < (J.aft k).length) = false := by simp; omega
          go_wp2_with fail
          go_roundw
          case rel => exact ⟨k + 1, by omega, by go_num, hb4 _, fun i hi => by rcases Nat.lt_succ_iff_lt_or_eq.1 hi with h | rfl; exact hno i h; exact hal⟩
          case measure => simp [intOf]; omega
      · obtain rfl : k = J.n := by omega
        go_wp2_with fail
        go_ret
        exact boolRes_no (fun h => by
          rcases h with h | ⟨i, hi, h⟩
          · exact absurd h hn
          · exact absurd h (hno i hi)) hb3

set_option maxRecDepth 100000 in
set_option maxHeartbeats 1000000 in
theorem allSound_any (J : Jb) (w : World) (B : Nat) (v : Value) (hin : J.In w B v) (hB : B ≤ w.heap.size) (hsm : J.Small) :
    Calls Try.prog 42 #[v] w (BoolRes J.Good w) := by
  have hin0 := hin
  obtain ⟨a, cap, rfl, hl, hc, hq⟩ := hin
  clear hq
  unfold maxLen at hc
  have hsn := hsm.n
  go_enter Try.func42, Try.ntmps42
  go_wp2_with fail
  go_loopw [9] (fun iv wr => ∃ k : Nat, k ≤ J.n ∧ iv = .int .i64 k ∧ Below w.heap.size w wr ∧ ∀ i, i < k → J.goodAt i) (fun iv _ => J.n - (intOf iv).toNat)
  case atStart => exact ⟨0, Nat.zero_le _, rfl, Below.refl _ _, fun i hi => by omega⟩
  case round =>
    rename World => w3
    obtain ⟨k, hk, rfl, hb3, hno⟩ := hrel
    by_cases hkt : k < J.n
    · obtain ⟨b, off, aa, acap, rfl, hbB, f0, f1, f2, f3, h1, h2, hx⟩ := hin0.cells hB hb3 hkt
      unfold maxLen at h2
      have hb4 := fun ob => hb3.alloc hb3.size ob
      clear hin0
      by_cases hg0 : J.len k < 1
      · have hd : decide (J.len k < 1) = true := by simpa using hg0
        have hbad : Hid (¬ J.Good) := fun hgd => by have := (hgd k hkt).1; omega
        clear hx
        go_wp2_with fail
        go_ret
        exact boolRes_no hbad.out (hb4 _)
      · have hd : decide (J.len k < 1) = false := by simpa using hg0
        by_cases hg1 : 1000 < J.len k
        · have hd1 : decide (1000 < J.len k) = true := by simpa using hg1
          have hbad : Hid (¬ J.Good) := fun hgd => by have := (hgd k hkt).1; omega
          clear hx
          go_wp2_with fail
          go_ret
          exact boolRes_no hbad.out (hb4 _)
        · have hd1 : decide (1000 < J.len k) = false := by simpa using hg1
          have hx4 : ∀ ob : Obj, ∀ j (h : j < (J.aft k).length), ∃ ab ao, aa = some ⟨ab, ao, none⟩ ∧ ab < B ∧ (w3.alloc ob).cell? ⟨ab, ao + j, none⟩ = some (.int .i64 (J.aft k)[j]) := fun ob j h => by
            obtain ⟨ab, ao, e1, e2, e3⟩ := hx j h
            exact ⟨ab, ao, e1, e2, by have := hb3.size; rw [World.cell?_of_block (w := w3) (Below.heap_alloc w3 ob ab (by omega))]; exact e3⟩
          clear hx
          go_wp2_with fail
          obtain ⟨W4, hW4⟩ : ∃ X, w3.alloc (.cells #[.int .i64 (J.len k), .int .i64 (J.urg k), .slice aa (J.aft k).length acap, .int .i64 (J.num k)] 58) = X := ⟨_, rfl⟩
          have hxw := hx4 (.cells #[.int .i64 (J.len k), .int .i64 (J.urg k), .slice aa (J.aft k).length acap, .int .i64 (J.num k)] 58)
          have hbw := hb4 (.cells #[.int .i64 (J.len k), .int .i64 (J.urg k), .slice aa (J.aft k).length acap, .int .i64 (J.num k)] 58)
          rw [hW4] at hxw hbw ⊢
          clear hW4 hx4 hb4
          go_loop [24] (fun jv => ∃ j : Nat, j ≤ (J.aft k).length ∧ jv = .int .i64 j ∧ ∀ x (h : x < (J.aft k).length), x < j → 0 ≤ (J.aft k)[x] ∧ (J.aft k)[x] < J.n) (fun jv => (J.aft k).length - (intOf jv).toNat)
          case atStart => exact ⟨0, Nat.zero_le _, rfl, fun x _ hx => by omega⟩
          case round =>
            obtain ⟨j, hj, rfl, hall⟩ := hrel
            by_cases hjt : j < (J.aft k).length
            · obtain ⟨ab, ao, rfl, hab, ac⟩ := hxw j hjt
              by_cases hg2 : (J.aft k)[j] < 0
              · have hd2 : decide ((J.aft k)[j] < 0) = true := by simpa using hg2
                have hbad : Hid (¬ J.Good) := fun hgd => by have := (hgd k hkt).2 _ (List.getElem_mem hjt); omega
                clear hall hno hxw
                go_wp2_with fail
                go_ret
                exact boolRes_no hbad.out hbw
              · have hd2 : decide ((J.aft k)[j] < 0) = false := by simpa using hg2
                by_cases hg3 : (J.n : Int) ≤ (J.aft k)[j]
                · have hd3 : decide ((J.n : Int) ≤ (J.aft k)[j]) = true := by simpa using hg3
                  have hbad : Hid (¬ J.Good) := fun hgd => by have := (hgd k hkt).2 _ (List.getElem_mem hjt); omega
                  clear hall hno hxw
                  go_wp2_with fail
                  go_ret
                  exact boolRes_no hbad.out hbw
                · have hd3 : decide ((J.n : Int) ≤ (J.aft k)[j]) = false := by simpa using hg3
                  have hall' : ∀ x (h : x < (J.aft k).length), x < j + 1 → 0 ≤ (J.aft k)[x] ∧ (J.aft k)[x] < J.n := by
                    intro x hx hxj
                    rcases Nat.lt_succ_iff_lt_or_eq.1 hxj with h1 | rfl
                    · exact hall x hx h1
                    · omega
                  clear hall hno hxw
                  go_wp2_with fail
                  go_round
                  case rel => exact ⟨j + 1, by omega, by go_num, hall'⟩
                  case measure => simp [intOf]; omega
            · have hgood : J.goodAt k := ⟨by omega, fun x hx => by
                obtain ⟨y, hy, rfl⟩ := List.mem_iff_getElem.1 hx
                exact hall y hy (by omega)⟩
              clear hall hxw
              go_wp2_with fail
              go_roundw
              case rel => exact ⟨k + 1, by omega, by go_num, hbw, fun i hi => by rcases Nat.lt_succ_iff_lt_or_eq.1 hi with h | rfl; exact hno i h; exact hgood⟩
              case measure => simp [intOf]; omega
    · obtain rfl : k = J.n := by omega
      go_wp2_with fail
      go_ret
      exact boolRes_yes hno hb3

#print axioms tooLarge_any
#print axioms allSound_any
end Go.Proofs.Ytgmemndjclhheae
