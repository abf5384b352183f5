/-
  OUR OWN TEXT. GraphPlans, walked: whatever the jobs and the workers: true.
-/
import Derived.Test.YtgmemndjclhheaeRes
namespace Go.Proofs.Ytgmemndjclhheae
open Go.RowKit

theorem same_nil (w : World) (a a' : Option Addr) (c c' : Nat) : Calls Try.prog 24 #[.slice a 0 c, .slice a' 0 c'] w fun e w' => e = .returned (.bool true) ∧ ∃ q, w' = w.drewN q := by
  go_enter Try.func24, Try.ntmps24
  go_wp2_with fail
  go_loopw [13] (fun iv wr => iv = .int .i64 0 ∧ wr = w) (fun _ _ => 0)
  case atStart => exact ⟨rfl, rfl⟩
  case round =>
    rename World => w3
    obtain ⟨rfl, rfl⟩ := hrel
    go_wp2_with fail
    go_ret
    exact ⟨rfl, 0, rfl⟩

/-- Two answers to one question. -/
theorem agree {J : Jb} {m : Int} {w : World} {s s' : Value} {n n' er er' : Int} (h : PlanRes J m w s n er) (h' : PlanRes J m w s' n' er') :
    er = er' ∧ n = n' ∧ Calls Try.prog 24 #[s, s'] w fun e w' => e = .returned (.bool true) ∧ ∃ q, w' = w.drewN q := by
  obtain ⟨c, hc⟩ := chk_some J
  by_cases hc0 : c = 0
  · subst hc0
    by_cases hm : 1 ≤ m ∧ m ≤ 16
    · obtain ⟨rfl, Bg, Wk, E, rfl, r1, r2, r3, hs⟩ := h.plan hc hm.1 hm.2
      obtain ⟨rfl, Bg', Wk', E', rfl, r1', r2', r3', hs'⟩ := h'.plan hc hm.1 hm.2
      obtain ⟨hR, _⟩ := hc.right
      have hone := r1.only (right_len hR) (right_aft hR) r1'
      have hE : E = E' := by
        have a1 : E ≤ E' := by
          rcases r3 with h0 | ⟨i, hi, h0⟩
          · omega
          · have := hone i hi
            have := r2' i hi
            omega
        have a2 : E' ≤ E := by
          rcases r3' with h0 | ⟨i, hi, h0⟩
          · omega
          · have := hone i hi
            have := r2 i hi
            omega
        omega
      refine ⟨rfl, by rw [hE], same_any w J.n Bg Wk s s' hs ?_⟩
      obtain ⟨a, cap, hv, h1, h2, hcell⟩ := hs'
      refine ⟨a, cap, hv, h1, h2, fun i hi => ?_⟩
      obtain ⟨e1, e2⟩ := hone i hi
      rw [e1, e2]
      exact hcell i hi
    · obtain ⟨rfl, rfl, ao, cp, rfl⟩ := h.few hc hm
      obtain ⟨rfl, rfl, ao', cp', rfl⟩ := h'.few hc hm
      exact ⟨rfl, rfl, same_nil w _ _ _ _⟩
  · obtain ⟨rfl, rfl, ao, cp, rfl⟩ := h.wrong c hc hc0
    obtain ⟨rfl, rfl, ao', cp', rfl⟩ := h'.wrong _ hc hc0
    exact ⟨rfl, rfl, same_nil w _ _ _ _⟩

set_option maxRecDepth 100000 in
set_option maxHeartbeats 400000 in
theorem plans_walk (hP : PlanSays) (hS : SpanSays) (J : Jb) (w : World) (B : Nat) (v : Value) (m : Int) (hin : J.In w B v) (hB : B ≤ w.heap.size) (hsm : J.Small) :
    Calls Try.prog 7 #[v, .int .i64 m] w fun e w' => e = .returned (.bool true) ∧ Below w.heap.size w w' := by
  go_enter Try.func7, Try.ntmps7
  go_wp2_with fail
  refine (hP J w B v m hin hB hsm).mono ?_
  rintro e w1 ⟨s1, n1, er1, rfl, p1, b1⟩
  have i1 : J.In w1 B v := hin.keep fun k hk => b1.block k (by omega)
  have z1 := b1.size
  go_wp2_with fail
  refine (planned_any J w1 B v m i1 (by omega) hsm).mono ?_
  rintro e w2 ⟨s2, n2, er2, rfl, p2, b2⟩
  have i2 : J.In w2 B v := i1.keep fun k hk => b2.block k (by omega)
  have z2 := b2.size
  go_wp2_with fail
  refine (hS J w2 B v i2 (by omega) hsm).mono ?_
  rintro e w3 ⟨wk, sp, er3, rfl, hsp, b3⟩
  have i3 : J.In w3 B v := i2.keep fun k hk => b3.block k (by omega)
  have z3 := b3.size
  obtain ⟨rfl, rfl, hsame⟩ := agree ((p1.keep b2).keep b3) (p2.keep b3)
  have hlow : Below w.heap.size w w3 := (b1.trans (b2.mono z1)).trans (b3.mono (by omega))
  clear p1 p2 i1 i2 hP hS
  go_wp2_with fail
  refine hsame.mono ?_
  rintro e w4 ⟨rfl, q, rfl⟩
  have i4 : J.In (w3.drewN q) B v := i3.keep fun _ _ => rfl
  have z4 : (w3.drewN q).heap.size = w3.heap.size := rfl
  go_wp2_with fail
  refine (jobs_any J (w3.drewN q) B v i4 (by omega) hsm).mono ?_
  rintro e w5 ⟨er4, rfl, hch, b5⟩
  obtain rfl := hch.only hsp.chk
  have i5 : J.In w5 B v := i4.keep fun k hk => b5.block k (by omega)
  have z5 := b5.size
  have hlow5 : Below w.heap.size w w5 := (below_drewN hlow q).trans (b5.mono (by omega))
  clear hsame i3 i4 hlow
  by_cases h0 : er4 = 0
  · subst h0
    obtain ⟨x, y, rfl, rfl, hsum⟩ := hsp.right rfl
    obtain ⟨hR, hA⟩ := hch.right
    go_wp2_with fail
    refine (spanned_any J w5 B v i5 (by omega) hR hA).mono ?_
    rintro e w6 ⟨x', y', rfl, hsum', b6⟩
    obtain ⟨rfl, rfl⟩ := sums_only hsum hsum'
    go_wp2_with fail
    go_ret
    exact ⟨rfl, hlow5.trans (b6.mono (by omega))⟩
  · obtain ⟨rfl, rfl⟩ := hsp.wrong h0
    have hd : (er4 == 0) = false := by simpa using h0
    go_wp2_with fail
    go_ret
    exact ⟨rfl, hlow5⟩

#print axioms plans_walk
end Go.Proofs.Ytgmemndjclhheae
