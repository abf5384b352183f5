/-
  OUR OWN TEXT. What Plan and Span answer; the document's own answer; two plans held against each other.
-/
import Derived.Test.YtgmemndjclhheaePl2
import Derived.Test.YtgmemndjclhheaeSp2
import Derived.Deep.QuietTactic
import Derived.BigQuiet
import Derived.Laws.StructEq
namespace Go.Proofs.Ytgmemndjclhheae
open Go.RowKit

/-- A plan's answer. -/
structure PlanRes (J : Jb) (m : Int) (w : World) (s : Value) (n er : Int) : Prop where
  wrong : ∀ c, J.Chk c → c ≠ 0 → er = c ∧ n = 0 ∧ ∃ ao cp, s = .slice ao 0 cp
  few : J.Chk 0 → ¬ (1 ≤ m ∧ m ≤ 16) → er = 1 ∧ n = 0 ∧ ∃ ao cp, s = .slice ao 0 cp
  plan : J.Chk 0 → 1 ≤ m → m ≤ 16 → er = 0 ∧ ∃ (Bg Wk : Nat → Nat) (E : Nat), n = E ∧ Gr.Ruled J.gr J.urg m.toNat Bg Wk ∧ (∀ i, i < J.n → Bg i + J.gr.len i ≤ E) ∧ (E = 0 ∨ ∃ i, i < J.n ∧ Bg i + J.gr.len i = E) ∧ SlotsIn w J.n Bg Wk s

theorem PlanRes.keep {J : Jb} {m : Int} {w w' : World} {s : Value} {n er : Int} (h : PlanRes J m w s n er) (hb : Below w.heap.size w w') : PlanRes J m w' s n er where
  wrong := h.wrong
  few := h.few
  plan hc h1 h2 := by
    obtain ⟨he, Bg, Wk, E, a1, a2, a3, a4, a5⟩ := h.plan hc h1 h2
    exact ⟨he, Bg, Wk, E, a1, a2, a3, a4, a5.keep hb⟩

/-- What Plan is held to. -/
def PlanSays : Prop := ∀ (J : Jb) (w : World) (B : Nat) (v : Value) (m : Int), J.In w B v → B ≤ w.heap.size → J.Small →
  Calls Try.prog 21 #[v, .int .i64 m] w fun e w' => ∃ (s : Value) (n er : Int), e = .returned (.tuple #[s, .int .i64 n, .int .i64 er]) ∧ PlanRes J m w' s n er ∧ Below w.heap.size w w'

/-- What Span is held to. -/
structure SpanRes (J : Jb) (wk sp er : Int) : Prop where
  chk : J.Chk er
  wrong : er ≠ 0 → wk = 0 ∧ sp = 0
  right : er = 0 → ∃ x y : Nat, wk = x ∧ sp = y ∧ Gr.Sums J.gr x y
def SpanSays : Prop := ∀ (J : Jb) (w : World) (B : Nat) (v : Value), J.In w B v → B ≤ w.heap.size → J.Small →
  Calls Try.prog 23 #[v] w fun e w' => ∃ wk sp er : Int, e = .returned (.tuple #[.int .i64 wk, .int .i64 sp, .int .i64 er]) ∧ SpanRes J wk sp er ∧ Below w.heap.size w w'

theorem chk_some (J : Jb) : ∃ c, J.Chk c := by
  rcases Classical.em J.Good with h1 | h1
  · rcases Classical.em J.Big with h2 | h2
    · exact ⟨2, .inr (.inl ⟨h1, h2, rfl⟩)⟩
    · rcases Classical.em J.Acyc with h3 | h3
      · exact ⟨0, .inr (.inr (.inr ⟨h1, h2, h3, rfl⟩))⟩
      · exact ⟨4, .inr (.inr (.inl ⟨h1, h2, h3, rfl⟩))⟩
  · exact ⟨1, .inl ⟨h1, rfl⟩⟩

/-- Jobs and workers. -/
structure AskRes (J : Jb) (m er : Int) : Prop where
  wrong : ∀ c, J.Chk c → c ≠ 0 → er = c
  few : J.Chk 0 → ¬ (1 ≤ m ∧ m ≤ 16) → er = 1
  right : J.Chk 0 → 1 ≤ m → m ≤ 16 → er = 0

theorem asked_any (J : Jb) (w : World) (B : Nat) (v : Value) (m : Int) (hin : J.In w B v) (hB : B ≤ w.heap.size) (hsm : J.Small) :
    Calls Try.prog 40 #[v, .int .i64 m] w fun e w' => ∃ er : Int, e = .returned (.int .i64 er) ∧ AskRes J m er ∧ Below w.heap.size w w' := by
  go_enter Try.func40, Try.ntmps40
  go_wp2_with fail
  refine (jobs_any J w B v hin hB hsm).mono ?_
  rintro e w1 ⟨c, rfl, hch, hb⟩
  by_cases hc : c = 0
  · subst hc
    by_cases hm : 1 ≤ m ∧ m ≤ 16
    · go_wp2_with fail
      refine (workers_any _ _).mono ?_
      rintro e1 w' ⟨rfl, rfl⟩
      rw [decide_eq_true hm]
      go_wp2_with fail
      go_ret
      exact ⟨0, rfl, ⟨fun c h hn => absurd (h.only hch) hn, fun _ h => absurd hm h, fun _ _ _ => rfl⟩, hb⟩
    · go_wp2_with fail
      refine (workers_any _ _).mono ?_
      rintro e1 w' ⟨rfl, rfl⟩
      rw [decide_eq_false hm]
      go_wp2_with fail
      go_ret
      exact ⟨1, rfl, ⟨fun c h hn => absurd (h.only hch) hn, fun _ _ => rfl, fun _ h1 h2 => absurd ⟨h1, h2⟩ hm⟩, hb⟩
  · have hd : (c == 0) = false := by simpa using hc
    go_wp2_with fail
    go_ret
    exact ⟨c, rfl, ⟨fun c' h _ => hch.only h, fun h => absurd (hch.only h) hc, fun h => absurd (hch.only h) hc⟩, hb⟩

/-- The document's plan, whatever comes in. -/
theorem planned_any (J : Jb) (w : World) (B : Nat) (v : Value) (m : Int) (hin : J.In w B v) (hB : B ≤ w.heap.size) (hsm : J.Small) :
    Calls Try.prog 22 #[v, .int .i64 m] w fun e w' => ∃ (s : Value) (n er : Int), e = .returned (.tuple #[s, .int .i64 n, .int .i64 er]) ∧ PlanRes J m w' s n er ∧ Below w.heap.size w w' := by
  obtain ⟨c, hc⟩ := chk_some J
  by_cases hok : c = 0 ∧ 1 ≤ m ∧ m ≤ 16
  · obtain ⟨rfl, h1, h2⟩ := hok
    obtain ⟨hR, hA⟩ := hc.right
    refine (planned_walk J w B v m hin hB hR hA h1 h2 (fun w' hi' hB' => (asked_any J w' B v m hi' hB' hsm).mono ?_)).mono ?_
    · rintro e w2 ⟨er, rfl, ha, hb⟩
      rw [ha.right hc h1 h2]
      exact ⟨rfl, hb⟩
    · rintro e w2 ⟨g, E, Bg, Wk, rfl, r1, r2, r3, hrow, hb⟩
      refine ⟨_, _, _, rfl, ⟨fun c' h hn => absurd (h.only hc) hn, fun _ h => absurd ⟨h1, h2⟩ h, fun _ _ _ => ⟨rfl, Bg, Wk, E, rfl, r1, r2, r3, ?_⟩⟩, hb⟩
      have hn := hR.few
      refine ⟨_, _, rfl, Nat.le_refl _, by unfold maxLen; omega, fun i hi => ⟨g, 0, rfl, hrow.lt, ?_, ?_⟩⟩
      · have := hrow.cell (i := i * 2) (by omega)
        rw [slotF_even] at this
        simpa using this
      · have := hrow.cell (i := i * 2 + 1) (by omega)
        rw [slotF_odd] at this
        simpa using this
  · go_enter Try.func22, Try.ntmps22
    go_wp2_with fail
    refine (asked_any J w B v m hin hB hsm).mono ?_
    rintro e w1 ⟨er, rfl, ha, hb⟩
    have hne : er ≠ 0 := by
      by_cases hc0 : c = 0
      · subst hc0
        have := ha.few hc (fun h => hok ⟨rfl, h⟩)
        omega
      · have := ha.wrong c hc hc0
        omega
    have hd : (er == 0) = false := by simpa using hne
    go_wp2_with fail
    exact bodyPost_ret (v := .tuple #[.slice none 0 0, .int .i64 0, .int .i64 er]) (by simp [results, Try.results22, go_sem]) rfl ⟨_, _, _, rfl, ⟨fun c' h hn => ⟨ha.wrong c' h hn, rfl, none, 0, rfl⟩, fun h hm => ⟨ha.few h hm, rfl, none, 0, rfl⟩, fun h h1 h2 => absurd (ha.right h h1 h2) hne⟩, hb⟩

set_option maxHeartbeats 400000 in
theorem same_any (w : World) (n : Nat) (Bg Wk : Nat → Nat) (x y : Value) (hx : SlotsIn w n Bg Wk x) (hy : SlotsIn w n Bg Wk y) :
    Calls Try.prog 24 #[x, y] w fun e w' => e = .returned (.bool true) ∧ ∃ q, w' = w.drewN q := by
  obtain ⟨a, cap, rfl, h1, h2, hc⟩ := hx
  obtain ⟨a', cap', rfl, h1', h2', hc'⟩ := hy
  unfold maxLen at h2 h2'
  go_enter Try.func24, Try.ntmps24
  go_wp2_with fail
  go_loopw [13] (fun iv wr => ∃ i q : Nat, i ≤ n ∧ iv = .int .i64 i ∧ wr = w.drewN q) (fun iv _ => n - (intOf iv).toNat)
  case atStart => exact ⟨0, 0, Nat.zero_le _, rfl, rfl⟩
  case round =>
    rename World => w3
    obtain ⟨i, q, hi, rfl, rfl⟩ := hrel
    by_cases hlt : i < n
    · obtain ⟨b, off, rfl, _, c0, c1⟩ := hc i hlt
      obtain ⟨b', off', rfl, _, c0', c1'⟩ := hc' i hlt
      have k0 : ∀ q, (w.drewN q).cell? ⟨b, off + i * 2, none⟩ = some (.int .i64 (Bg i)) := fun _ => c0
      have k1 : ∀ q, (w.drewN q).cell? ⟨b, off + i * 2 + 1, none⟩ = some (.int .i64 (Wk i)) := fun _ => c1
      have k0' : ∀ q, (w.drewN q).cell? ⟨b', off' + i * 2, none⟩ = some (.int .i64 (Bg i)) := fun _ => c0'
      have k1' : ∀ q, (w.drewN q).cell? ⟨b', off' + i * 2 + 1, none⟩ = some (.int .i64 (Wk i)) := fun _ => c1'
      clear hc hc' c0 c1 c0' c1'
      go_wp2_with fail
      go_quiet (fail)
      go_wp2_with fail
      go_roundw
      case rel => exact ⟨i + 1, _, by omega, by go_num, rfl⟩
      case measure => simp [intOf]; omega
    · go_wp2_with fail
      go_ret
      exact ⟨rfl, _, rfl⟩

#print axioms planned_any
#print axioms same_any
end Go.Proofs.Ytgmemndjclhheae
