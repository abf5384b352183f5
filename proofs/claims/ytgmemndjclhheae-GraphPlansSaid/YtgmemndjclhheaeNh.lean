/-
  OUR OWN TEXT. checkFor; longest, Span.
-/
import Derived.Test.YtgmemndjclhheaeNg
import Derived.Test.YtgmemndjclhheaeRes
namespace Go.Proofs.Ytgmemndjclhheae
open Go.RowKit

set_option maxRecDepth 100000 in
set_option maxHeartbeats 1000000 in
theorem checkFor_any (J : Jb) (w : World) (B : Nat) (v : Value) (m : Int) (hin : J.In w B v) (hB : B ≤ w.heap.size) (hsm : J.Small) :
    Calls Try.prog 37 #[v, .int .i64 m] w fun e w' => ∃ er : Int, e = .returned (.int .i64 er) ∧ AskRes J m er ∧ Below w.heap.size w w' := by
  have K := check_any J w B v hin hB hsm
  obtain ⟨a, cap, rfl, hl, hc, hq⟩ := hin
  clear hq
  obtain ⟨c, hch⟩ := chk_some J
  by_cases hc0 : c = 0
  · subst hc0
    by_cases h1 : m < 1
    · have hd : decide (m < 1) = true := by simpa using h1
      go_enter Try.func37, Try.ntmps37
      go_wp2_with (go_at_call 19; refine K.mono ?_; rintro e w1 ⟨er, rfl, her, hb⟩; obtain rfl := her.only hch)
      go_ret
      exact ⟨1, rfl, ⟨fun c h hn => absurd (h.only hch) hn, fun _ _ => rfl, fun _ h => absurd h (by omega)⟩, hb⟩
    · have hd : decide (m < 1) = false := by simpa using h1
      by_cases h2 : 16 < m
      · have hd2 : decide (16 < m) = true := by simpa using h2
        go_enter Try.func37, Try.ntmps37
        go_wp2_with (go_at_call 19; refine K.mono ?_; rintro e w1 ⟨er, rfl, her, hb⟩; obtain rfl := her.only hch)
        go_ret
        exact ⟨1, rfl, ⟨fun c h hn => absurd (h.only hch) hn, fun _ _ => rfl, fun _ _ h => absurd h (by omega)⟩, hb⟩
      · have hd2 : decide (16 < m) = false := by simpa using h2
        go_enter Try.func37, Try.ntmps37
        go_wp2_with (go_at_call 19; refine K.mono ?_; rintro e w1 ⟨er, rfl, her, hb⟩; obtain rfl := her.only hch)
        go_ret
        exact ⟨0, rfl, ⟨fun c h hn => absurd (h.only hch) hn, fun _ h => absurd ⟨by omega, by omega⟩ h, fun _ _ _ => rfl⟩, hb⟩
  · have hd : (c == 0) = false := by simpa using hc0
    have HC : Hid (c ≠ 0) := hc0
    clear hc0
    go_enter Try.func37, Try.ntmps37
    go_wp2_with (go_at_call 19; refine K.mono ?_; rintro e w1 ⟨er, rfl, her, hb⟩; obtain rfl := her.only hch)
    go_ret
    exact ⟨_, rfl, ⟨fun c' h _ => hch.only h, fun h => absurd (hch.only h) HC.out, fun h => absurd (hch.only h) HC.out⟩, hb⟩

#print axioms checkFor_any
end Go.Proofs.Ytgmemndjclhheae
