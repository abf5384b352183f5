/-
  OUR OWN TEXT. The document's small calls: Between, Workers, allDone.
-/
import Derived.Test.YtgmemndjclhheaeJobs
import Derived.Deep.OwnRows
namespace Go.Proofs.Ytgmemndjclhheae
open Go.RowKit

theorem between_any (n l h : Int) (w : World) : Calls Try.prog 15 #[.int .i64 n, .int .i64 l, .int .i64 h] w fun e w' => e = .returned (.bool (decide (l ≤ n ∧ n ≤ h))) ∧ w' = w := by
  by_cases h1 : l ≤ n
  · by_cases h2 : n ≤ h
    · go_enter Try.func15, Try.ntmps15
      go_wp2
      go_ret
      exact ⟨by simp [h1, h2], rfl⟩
    · go_enter Try.func15, Try.ntmps15
      go_wp2
      go_ret
      exact ⟨by simp [h2], rfl⟩
  · go_enter Try.func15, Try.ntmps15
    go_wp2
    go_ret
    exact ⟨by simp; omega, rfl⟩

theorem workers_any (m : Int) (w : World) : Calls Try.prog 16 #[.int .i64 m] w fun e w' => e = .returned (.bool (decide (1 ≤ m ∧ m ≤ 16))) ∧ w' = w := by
  go_enter Try.func16, Try.ntmps16
  go_wp2_with fail
  refine (between_any _ _ _ _).mono ?_
  rintro e w' ⟨rfl, rfl⟩
  go_wp2_with fail
  go_ret
  exact ⟨by simp, rfl⟩

/-- All of them are done. -/
def adB (D : Nat → Bool) (l : List Int) : Bool := l.all fun a => D a.toNat

theorem adB_take {D : Nat → Bool} {l : List Int} {k : Nat} (hk : k < l.length) (h : adB D (l.take k) = true) : adB D (l.take (k + 1)) = D l[k].toNat := by
  rw [List.take_succ_eq_append_getElem hk]
  unfold adB at *
  rw [List.all_append, h]
  simp

theorem adB_false {D : Nat → Bool} {l : List Int} {k : Nat} (hk : k < l.length) (h : D l[k].toNat = false) : adB D l = false := by
  unfold adB
  rw [List.all_eq_false]
  exact ⟨l[k], List.getElem_mem hk, by simp [h]⟩

set_option maxHeartbeats 400000 in
theorem allDone_any (w : World) (B : Nat) (l : List Int) (v : Value) (g n : Nat) (D : Nat → Bool) (hin : IntsIn w B l v) (hrow : w.rowIs g 4 n (fun i => .bool (D i))) (hr : ∀ a ∈ l, 0 ≤ a ∧ a < n) (_hn : n ≤ 2932031007317) :
    Calls Try.prog 41 #[v, .slice (some ⟨g, 0, none⟩) n n] w fun e w' => e = .returned (.bool (adB D l)) ∧ w' = w := by
  obtain ⟨a, cap, rfl, hl, hc, cell⟩ := hin
  unfold maxLen at hc
  go_enter Try.func41, Try.ntmps41
  go_wp2_with fail
  go_loop [5] (fun i => ∃ k : Nat, k ≤ l.length ∧ i = .int .i64 k ∧ adB D (l.take k) = true) (fun i => l.length - (intOf i).toNat)
  case atStart => exact ⟨0, Nat.zero_le _, rfl, rfl⟩
  case round =>
    obtain ⟨k, hk, rfl, had⟩ := hrel
    have HA : Hid (adB D (l.take k) = true) := had
    clear had
    by_cases hlt : k < l.length
    · obtain ⟨b, off, rfl, hb, hcell⟩ := cell k hlt
      obtain ⟨h0, h1⟩ := hr l[k] (List.getElem_mem hlt)
      have hd := hrow.cell (i := l[k].toNat) (by omega)
      have hx : ∃ x : Nat, l[k] = x ∧ x < n := ⟨l[k].toNat, by omega, by omega⟩
      obtain ⟨x, hx, hxn⟩ := hx
      have hxx : l[k].toNat = x := by omega
      have HT := adB_take hlt HA.out
      have HF := @adB_false D l k hlt
      rw [hxx] at hd HT HF
      rw [hx] at hcell
      cases hD : D x with
      | true =>
        rw [hD] at hd HT
        have HT' : Hid (adB D (l.take (k + 1)) = true) := HT
        clear hr hrow cell h0 h1 hx hxx HT HF hD
        go_wp2_with fail
        go_round
        case rel => exact ⟨k + 1, by omega, by go_num, HT'.out⟩
        case measure => simp [intOf]; omega
      | false =>
        rw [hD] at hd
        have HF' : Hid (adB D l = false) := HF hD
        clear hr hrow cell h0 h1 hx hxx HT HF hD
        go_wp2_with fail
        go_ret
        exact ⟨by rw [HF'.out]; rfl, rfl⟩
    · have e : l.take k = l := List.take_of_length_le (by omega)
      have HA' : Hid (adB D l = true) := by show _ = _; rw [← e]; exact HA.out
      clear hr hrow cell e HA
      go_wp2_with fail
      go_ret
      exact ⟨by rw [HA'.out]; rfl, rfl⟩

#print axioms allDone_any
end Go.Proofs.Ytgmemndjclhheae
