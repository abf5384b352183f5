/-
  OUR OWN TEXT. GraphGraham, walked: whatever the jobs and the workers: true.
-/
import Derived.Test.YtgmemndjclhheaeJobs
import Derived.Deep.QuietTactic
import Derived.BigQuiet
namespace Go.Proofs.Ytgmemndjclhheae
open Go.RowKit

/-- One place for all. -/
theorem at_one {sa : Option Addr} {n N : Nat} {p : Nat → Nat → Nat → Prop} (h : ∀ i, i < n → ∃ b off, sa = some ⟨b, off, none⟩ ∧ b < N ∧ p b off i) (j : Nat) (hj : j < n) : ∃ b off, sa = some ⟨b, off, none⟩ ∧ b < N ∧ ∀ i, i < n → p b off i := by
  obtain ⟨b, off, rfl, hb, _⟩ := h j hj
  refine ⟨b, off, rfl, hb, fun i hi => ?_⟩
  obtain ⟨b', off', e, _, hp⟩ := h i hi
  cases e
  exact hp

set_option maxRecDepth 100000 in
set_option maxHeartbeats 1000000 in
theorem graham_walk {c : Jb → Int} (hP : PlanSaid c) (hS : SpanSaid c) (J : Jb) (w : World) (B : Nat) (v : Value) (m : Int) (hin : J.In w B v) (hB : B ≤ w.heap.size) (hsm : J.Small) :
    Calls Try.prog 8 #[v, .int .i64 m] w fun e w' => e = .returned (.bool true) ∧ Below w.heap.size w w' := by
  have hin' := hin
  obtain ⟨a, cap, rfl, hl, hc, cell0⟩ := hin
  clear cell0
  go_enter Try.func8, Try.ntmps8
  go_wp2_with fail
  refine (hP J w B _ m hin' hB hsm).mono ?_
  rintro e w1 ⟨s, n, er, rfl, hbad, hok, hb1⟩
  by_cases he : er = 0
  · subst he
    obtain ⟨hc0, hm1, hm2, Bg, Wk, E, rfl, hpl, hsl⟩ := hok rfl
    clear hok hbad
    have hin1 := hin'.keep (w' := w1) (fun k hk => hb1.block k (by omega))
    go_wp2_with fail
    refine (hS J w1 B _ hin1 (by have := hb1.size; omega) hsm).mono ?_
    rintro e w2 ⟨wk, sp, rfl, hsum, hb2⟩
    obtain ⟨hR, x, y, rfl, rfl, hSum⟩ := hsum hc0
    have hsl2 := hsl.keep hb2
    have hin2 := hin1.keep (w' := w2) (fun k hk => hb2.block k (by have := hb1.size; omega))
    have hlow : Below w.heap.size w w2 := hb1.trans (hb2.mono hb1.size)
    obtain ⟨sa, scap, rfl, hs1, hs2, hsc⟩ := hsl2
    obtain ⟨a', cap', hv', _, _, hjc⟩ := hin2
    obtain ⟨rfl, rfl⟩ : a = a' ∧ cap = cap' := by simpa using hv'
    have hjc' : ∀ i, i < J.n → ∃ b off, a = some ⟨b, off, none⟩ ∧ b < B ∧ ∃ s, w2.cell? ⟨b, off + i * 4, none⟩ = some (.int .i64 (J.len i)) ∧ w2.cell? ⟨b, off + i * 4 + 2, none⟩ = some s ∧ IntsIn w2 B (J.aft i) s := by
      intro i hi
      obtain ⟨b, off, s, ha, hb, f0, _, f2, _, hs⟩ := hjc i hi
      exact ⟨b, off, ha, hb, s, f0, f2, hs⟩
    clear hjc
    rw [hc0]
    obtain ⟨b1, b2, b3, b4, b5⟩ := numbers hR hm1 hm2 hSum hpl
    have hlast := lastTo_all hR hpl
    have hends := plan_ends hR hpl
    have haft := plan_after hR hpl
    have hap := plan_apart hR hpl
    have hwk := hpl.worker
    have hlen := hR.len
    have hfew := hR.few
    have d1 : decide (E < y) = false := by simp; omega
    have d2 : decide (wrap64 ((E : Int) * m) < x) = false := by simp; omega
    have d3 : decide (wrap64 ((x : Int) + wrap64 ((m - 1) * (y : Int))) < wrap64 ((E : Int) * m)) = false := by simp; omega
    clear hsm hsl hin1 hin' hsum hb1 hb2 hP hS hc0 hpl hSum hR hv'
    go_wp2_with fail
    clear d1 d2 d3 b4 b5
    go_loopw [10, 73] (fun lst i wr => ∃ j q : Nat, j ≤ J.n ∧ i = .int .i64 j ∧ lst = .int .i64 (lastTo J Bg j) ∧ wr = w2.drewN q) (fun _ i _ => J.n - (intOf i).toNat)
    case atStart => exact ⟨0, 0, Nat.zero_le _, rfl, rfl, rfl⟩
    case round =>
      rename World => w3
      obtain ⟨j, q, hj, rfl, rfl, rfl⟩ := hrel
      by_cases hlt : j < J.n
      · obtain ⟨sb, so, rfl, hsb, hsx⟩ := at_one hsc j hlt
        obtain ⟨jb, jo, rfl, hjb, hjx⟩ := at_one hjc' j hlt
        obtain ⟨js, f0, f2, hjs⟩ := hjx j hlt
        obtain ⟨aa, acap, rfl, hal, hac, hax⟩ := hjs
        obtain ⟨e0, e1⟩ := hsx j hlt
        clear hsc hjc'
        have g0 : ∀ q, (w2.drewN q).cell? ⟨sb, so + j * 2, none⟩ = some (.int .i64 (Bg j)) := fun _ => e0
        have g1 : ∀ q, (w2.drewN q).cell? ⟨sb, so + j * 2 + 1, none⟩ = some (.int .i64 (Wk j)) := fun _ => e1
        have h0 : ∀ q, (w2.drewN q).cell? ⟨jb, jo + j * 4, none⟩ = some (.int .i64 (J.len j)) := fun _ => f0
        have h2 : ∀ q, (w2.drewN q).cell? ⟨jb, jo + j * 4 + 2, none⟩ = some (.slice aa (J.aft j).length acap) := fun _ => f2
        have n0 := hends j hlt
        have n1 := hlen j hlt
        have n2 : (Wk j : Int) < m := by have := hwk j hlt; omega
        have n3 := lastTo_le (J := J) (Bg := Bg) (E := E) (by omega) (j := j) fun i hi => hends i (by omega)
        have n4 : Hid (lastTo J Bg (j + 1) = max (lastTo J Bg j) (Bg j + J.len j)) := rfl
        unfold maxLen at hac
        clear e0 e1 f0 f2
        go_wp2_with fail
        go_quiet (fail)
        go_wp2_with fail
        all_goals
          go_loopw [119] (fun kv wr => ∃ k q : Nat, k ≤ (J.aft j).length ∧ kv = .int .i64 k ∧ wr = w2.drewN q) (fun kv _ => (J.aft j).length - (intOf kv).toNat)
          case atStart => exact ⟨0, _, Nat.zero_le _, rfl, rfl⟩
          case round =>
            rename World => w4
            obtain ⟨k, q4, hk, rfl, rfl⟩ := hrel
            by_cases hkt : k < (J.aft j).length
            · obtain ⟨ab, ao, rfl, hab, ac⟩ := hax k hkt
              obtain ⟨x9, hx9, hx9n, hx9b⟩ := haft j hlt k hkt
              rw [hx9] at ac
              obtain ⟨i0, i1⟩ := hsx x9 hx9n
              obtain ⟨_, i2, _, _⟩ := hjx x9 hx9n
              have n5 := hlen x9 hx9n
              have n6 := hends x9 hx9n
              have k0 : ∀ q, (w2.drewN q).cell? ⟨ab, ao + k, none⟩ = some (.int .i64 x9) := fun _ => ac
              have k1 : ∀ q, (w2.drewN q).cell? ⟨sb, so + x9 * 2, none⟩ = some (.int .i64 (Bg x9)) := fun _ => i0
              have k2 : ∀ q, (w2.drewN q).cell? ⟨jb, jo + x9 * 4, none⟩ = some (.int .i64 (J.len x9)) := fun _ => i2
              clear hsx hjx hax haft hap hends hwk hlen hx9 ac i0 i1 i2
              go_wp2_with fail
              go_quiet (fail)
              go_wp2_with fail
              go_roundw
              case rel => exact ⟨k + 1, _, by omega, by go_num, rfl⟩
              case measure => simp [intOf]; omega
            · go_wp2_with fail
              go_loopw [149] (fun kv wr => ∃ k q : Nat, k ≤ j ∧ kv = .int .i64 k ∧ wr = w2.drewN q) (fun kv _ => j - (intOf kv).toNat)
              case atStart => exact ⟨0, _, Nat.zero_le _, rfl, rfl⟩
              case round =>
                rename World => w5
                obtain ⟨k3, q5, hk3, rfl, rfl⟩ := hrel
                by_cases hkj : k3 < j
                · obtain ⟨i0, i1⟩ := hsx k3 (by omega)
                  obtain ⟨_, i2, _, _⟩ := hjx k3 (by omega)
                  have n5 := hlen k3 (by omega)
                  have n6 := hends k3 (by omega)
                  have k0 : ∀ q, (w2.drewN q).cell? ⟨sb, so + k3 * 2, none⟩ = some (.int .i64 (Bg k3)) := fun _ => i0
                  have k1 : ∀ q, (w2.drewN q).cell? ⟨sb, so + k3 * 2 + 1, none⟩ = some (.int .i64 (Wk k3)) := fun _ => i1
                  have k2 : ∀ q, (w2.drewN q).cell? ⟨jb, jo + k3 * 4, none⟩ = some (.int .i64 (J.len k3)) := fun _ => i2
                  by_cases hwe : Wk k3 = Wk j
                  · rcases hap j k3 hlt hkj hwe with hr | hr
                    · have t2 : decide ((Bg k3 : Int) < Bg j + J.len j) = true := by simp; omega
                      have t3 : decide ((Bg j : Int) < Bg k3 + J.len k3) = false := by simp; omega
                      clear hsx hjx hax haft hap hends hwk hlen i0 i1 i2
                      rw [hwe] at k1
                      clear hwe
                      go_wp2_with fail
                      go_quiet (fail)
                      go_wp2_with fail
                      go_roundw
                      case rel => exact ⟨k3 + 1, _, by omega, by go_num, rfl⟩
                      case measure => simp [intOf]; omega
                    · have t2 : decide ((Bg k3 : Int) < Bg j + J.len j) = false := by simp; omega
                      clear hsx hjx hax haft hap hends hwk hlen i0 i1 i2
                      rw [hwe] at k1
                      clear hwe
                      go_wp2_with fail
                      go_quiet (fail)
                      go_wp2_with fail
                      go_roundw
                      case rel => exact ⟨k3 + 1, _, by omega, by go_num, rfl⟩
                      case measure => simp [intOf]; omega
                  · have t1 : ((Wk k3 : Int) == (Wk j : Int)) = false := by simp; omega
                    have t1b : ((Wk k3 : Nat) == Wk j) = false := by simp; omega
                    clear hsx hjx hax haft hap hends hwk hlen i0 i1 i2
                    go_wp2_with fail
                    go_quiet (fail)
                    go_wp2_with fail
                    go_roundw
                    case rel => exact ⟨k3 + 1, _, by omega, by go_num, rfl⟩
                    case measure => simp [intOf]; omega
                · go_wp2_with fail
                  go_roundw
                  case rel => exact ⟨j + 1, _, by omega, by go_num, by rw [n4.out]; congr 1; omega, rfl⟩
                  case measure => simp [intOf]; omega
      · obtain rfl : j = J.n := by omega
        rw [hlast]
        clear hsc hjc' hap haft hends hwk hlen
        go_wp2_with fail
        go_ret
        exact ⟨rfl, below_drewN hlow _⟩
  · obtain ⟨ao, cp, rfl, rfl⟩ := hbad he
    clear hok hbad
    go_wp2_with fail
    go_ret
    exact ⟨rfl, hb1⟩

end Go.Proofs.Ytgmemndjclhheae
