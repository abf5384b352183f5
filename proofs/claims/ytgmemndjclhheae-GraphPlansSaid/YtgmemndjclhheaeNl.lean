/-
  OUR OWN TEXT. nextEnd.
-/
import Derived.Test.YtgmemndjclhheaeNk
namespace Go.Proofs.Ytgmemndjclhheae
open Go.RowKit

/-- The first end of those of the first x workers. -/
def NextTo (J : Jb) (Bg : Nat → Nat) (dg : Nat → Int) (x : Nat) (next : Int) (some : Bool) : Prop := (some = false ∧ ∀ y, y < x → dg y = -1) ∨
  (some = true ∧ ∃ y k : Nat, y < x ∧ dg y = k ∧ k < J.n ∧ next = ((Bg k + J.gr.len k : Nat) : Int) ∧ ∀ y' j : Nat, y' < x → dg y' = j → Bg k + J.gr.len k ≤ Bg j + J.gr.len j)

section
variable {J : Jb} {Bg : Nat → Nat} {dg : Nat → Int} {x : Nat} {next : Int} {some : Bool}

theorem next_skip (h : NextTo J Bg dg x next some) (hd : dg x = -1) : NextTo J Bg dg (x + 1) next some := by
  rcases h with ⟨h1, h2⟩ | ⟨h1, y, k, hy, hk, hkn, hn, hm⟩
  · refine .inl ⟨h1, fun y hy => ?_⟩
    rcases Nat.lt_succ_iff_lt_or_eq.1 hy with h | rfl
    · exact h2 y h
    · exact hd
  · refine .inr ⟨h1, y, k, by omega, hk, hkn, hn, fun y' j hy' hj => ?_⟩
    rcases Nat.lt_succ_iff_lt_or_eq.1 hy' with h | rfl
    · exact hm y' j h hj
    · omega

theorem next_first (h : NextTo J Bg dg x next false) {k : Nat} (hd : dg x = k) (hk : k < J.n) : NextTo J Bg dg (x + 1) ((Bg k + J.gr.len k : Nat) : Int) true := by
  rcases h with ⟨_, h2⟩ | ⟨h1, _⟩
  · refine .inr ⟨rfl, x, k, by omega, hd, hk, rfl, fun y' j hy' hj => ?_⟩
    rcases Nat.lt_succ_iff_lt_or_eq.1 hy' with h | rfl
    · rw [h2 y' h] at hj; omega
    · obtain rfl : k = j := by omega
      exact Nat.le_refl _
  · cases h1

theorem next_less (h : NextTo J Bg dg x next true) {k : Nat} (hd : dg x = k) (hk : k < J.n) (hl : ((Bg k + J.gr.len k : Nat) : Int) < next) : NextTo J Bg dg (x + 1) ((Bg k + J.gr.len k : Nat) : Int) true := by
  rcases h with ⟨h1, _⟩ | ⟨_, y, k0, hy, hk0, hkn, hn, hm⟩
  · cases h1
  · refine .inr ⟨rfl, x, k, by omega, hd, hk, rfl, fun y' j hy' hj => ?_⟩
    rcases Nat.lt_succ_iff_lt_or_eq.1 hy' with h | rfl
    · have := hm y' j h hj; omega
    · obtain rfl : k = j := by omega
      exact Nat.le_refl _

theorem next_same (h : NextTo J Bg dg x next true) {k : Nat} (hd : dg x = k) (hl : ¬ ((Bg k + J.gr.len k : Nat) : Int) < next) : NextTo J Bg dg (x + 1) next true := by
  rcases h with ⟨h1, _⟩ | ⟨_, y, k0, hy, hk0, hkn, hn, hm⟩
  · cases h1
  · refine .inr ⟨rfl, y, k0, by omega, hk0, hkn, hn, fun y' j hy' hj => ?_⟩
    rcases Nat.lt_succ_iff_lt_or_eq.1 hy' with h | rfl
    · exact hm y' j h hj
    · obtain rfl : k = j := by omega
      omega
end

set_option maxRecDepth 100000 in
set_option maxHeartbeats 1000000 in
theorem nextEnd_any {J : Jb} {m : Nat} {P : PlanB} {w : World} {ov : Value} {ol : List Nat} {lf Bg Wk : Nat → Nat} {dg : Nat → Int} (h : PlanAt J m P w ov ol lf Bg Wk dg) (hR : J.Right) (hm : m ≤ 16) (hdg : ∀ y, y < m → dg y = -1 ∨ ∃ k : Nat, dg y = k ∧ k < J.n ∧ Bg k ≤ 300000) :
    Calls Try.prog 75 #[.pointer (some ⟨P.p, 0, none⟩)] w fun e w' => ∃ (next : Int) (some : Bool), e = .returned (.tuple #[.int .i64 next, .bool some]) ∧ NextTo J Bg dg m next some ∧ ∃ k, w' = w.drewN k := by
  have p4 : w.cell? ⟨P.p, 4, none⟩ = some (.slice (some ⟨P.gd, 0, none⟩) m m) := cell_in h.box 4 _ rfl
  go_enter Try.func75, Try.ntmps75
  go_wp2_with fail
  clear p4
  go_loopw [2, 3, 11] (fun nv sv iv wr => ∃ (x q : Nat) (next : Int) (some : Bool), x ≤ m ∧ nv = .int .i64 next ∧ sv = .bool some ∧ iv = .int .i64 x ∧ wr = w.drewN q ∧ NextTo J Bg dg x next some) (fun _ _ iv _ => m - (intOf iv).toNat)
  case atStart => exact ⟨0, 0, 0, false, Nat.zero_le _, rfl, rfl, rfl, rfl, .inl ⟨rfl, fun y hy => by omega⟩⟩
  case round =>
    rename World => w3
    obtain ⟨x, q, next, some, hx, rfl, rfl, rfl, rfl, hto⟩ := hrel
    have hP := h.drew q
    by_cases hxt : x < m
    · have c0 := hP.doing.cell hxt
      rcases hdg x hxt with hd | ⟨k, hd, hkn, hbk⟩
      · rw [hd] at c0
        have HT : Hid (NextTo J Bg dg (x + 1) next some) := next_skip hto hd
        clear hto hd hP h
        go_wp2_with fail
        go_roundw
        case rel => exact ⟨x + 1, q, next, some, by omega, rfl, rfl, by go_num, rfl, HT.out⟩
        case measure => simp [intOf]; omega
      · rw [hd] at c0
        have KE := fun q' => end_any (h.drew q') hR hkn hbk
        obtain ⟨e, he⟩ : ∃ e : Nat, Bg k + J.gr.len k = e := ⟨_, rfl⟩
        have hk1 : ((k : Int) != -1) = true := by simp
        have hk2 : ((k : Int) == -1) = false := by simp
        cases some with
        | false =>
          have hnx := next_first hto hd hkn
          rw [he] at hnx
          simp only [he] at KE
          have HT : Hid (NextTo J Bg dg (x + 1) e true) := hnx
          clear hto hd hP he hnx
          go_wp2_with (go_at_call 107; refine (KE _).mono ?_; rintro r w5 ⟨rfl, q5, rfl⟩)
          go_roundw
          case rel => exact ⟨x + 1, q + q5, e, true, by omega, rfl, rfl, by go_num, rfl, HT.out⟩
          case measure => simp [intOf]; omega
        | true =>
          by_cases hl : ((e : Nat) : Int) < next
          · have hnx := next_less hto hd hkn (by rw [he]; exact hl)
            rw [he] at hnx
            simp only [he] at KE
            have hdl : decide (((e : Nat) : Int) < next) = true := by simpa using hl
            have HT : Hid (NextTo J Bg dg (x + 1) e true) := hnx
            clear hto hd hP he hnx
            go_wp2_with (go_at_call 107; refine (KE _).mono ?_; rintro r w5 ⟨rfl, q5, rfl⟩)
            go_roundw
            case rel => exact ⟨x + 1, _, e, true, by omega, rfl, rfl, by go_num, rfl, HT.out⟩
            case measure => simp [intOf]; omega
          · have hnx := next_same hto hd (by rw [he]; exact hl)
            simp only [he] at KE
            have hdl : decide (((e : Nat) : Int) < next) = false := by simpa using hl
            have HT : Hid (NextTo J Bg dg (x + 1) next true) := hnx
            clear hto hd hP he hnx
            go_wp2_with (go_at_call 107; refine (KE _).mono ?_; rintro r w5 ⟨rfl, q5, rfl⟩)
            go_roundw
            case rel => exact ⟨x + 1, _, next, true, by omega, rfl, rfl, by go_num, rfl, HT.out⟩
            case measure => simp [intOf]; omega
    · obtain rfl : x = m := by omega
      have HT : Hid (NextTo J Bg dg x next some) := hto
      clear hto hP h
      go_wp2_with fail
      exact bodyPost_ret (v := .tuple #[.int .i64 next, .bool some]) (by simp [results, Try.results75, go_sem]) rfl ⟨next, some, rfl, HT.out, _, rfl⟩

#print axioms nextEnd_any
end Go.Proofs.Ytgmemndjclhheae
