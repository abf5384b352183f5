/-
  OUR OWN TEXT. The document's plan, walked.
-/
import Derived.Test.YtgmemndjclhheaeChk
import Derived.Deep.QuietTactic
import Derived.BigQuiet
import Derived.BigRegion
import Derived.RegionTactic
import Derived.ChangeAlike
namespace Go.Proofs.Ytgmemndjclhheae
open Go.RowKit

theorem Try.infoSlot : (Try.prog.info? 53).map (fun i => (i.zero, i.size, i.bytes)) = some (some (.agg #[.int .i64 0, .int .i64 0]), 2, 16) := by kernel_rfl

/-- Who is over, by what has begun. -/
def ovB (J : Jb) (D : Nat → Bool) (Bg : Nat → Nat) (t i : Nat) : Bool := D i && decide (Bg i + (J.len i).toNat ≤ t)

theorem over_step {w5 w6 : World} {N g n k : Nat} {f : Nat → Bool} {x : Bool} (hb : Below N w5 w6) (hg : N ≤ g) (hov : w6.rowIs g 4 n (fun i => .bool (if i < k then f i else false))) (hx : f k = x) :
    Below N w5 (w6.setCell ⟨g, k, none⟩ (.bool x)).drew ∧ (w6.setCell ⟨g, k, none⟩ (.bool x)).drew.rowIs g 4 n (fun i => .bool (if i < k + 1 then f i else false)) := by
  refine ⟨(hb.setCell (by exact hg) _).trans ⟨rfl, rfl, rfl, Nat.le_refl _, fun _ _ => rfl⟩, ((hov.set k (.bool x)).congr fun i _ => ?_).drew⟩
  by_cases e : i = k
  · subst e
    rw [if_pos rfl, if_pos (by omega), hx]
  · rw [if_neg e]
    by_cases h : i < k
    · rw [if_pos h, if_pos (by omega)]
    · rw [if_neg h, if_neg (by omega)]

/-- A job begins: the three rows behind it. -/
theorem pmem_begin {w wr : World} {J : Jb} {go gb gu : Nat} {D : Nat → Bool} {Bg Wk U : Nat → Nat} (h : PMem w J go gb gu D Bg Wk U wr) (c q t : Nat) (L : Int) (hL : 0 ≤ L) :
    PMem w J go gb gu (Gr.put D c true) (Gr.put Bg c t) (Gr.put Wk c q) (Gr.put U q (t + L.toNat))
      ((((wr.setCell ⟨gb, c, none⟩ (.bool true)).setCell ⟨go, c * 2, none⟩ (.int .i64 t)).setCell ⟨go, c * 2 + 1, none⟩ (.int .i64 q)).setCell ⟨gu, q, none⟩ (.int .i64 (t + L))) where
  low := (((h.low.setCell (by exact h.hgb) _).setCell (by exact h.hgo) _).setCell (by exact h.hgo) _).setCell (by exact h.hgu) _
  out := ((((h.out.setOther (a := ⟨gb, c, none⟩) h.ne1 _).set (c * 2) _).set (c * 2 + 1) _).setOther (a := ⟨gu, q, none⟩) h.ne2 _).congr fun i _ => slotF_put Bg Wk c t q i
  begun := ((((h.begun.set c (.bool true)).setOther (a := ⟨go, c * 2, none⟩) h.ne1.symm _).setOther (a := ⟨go, c * 2 + 1, none⟩) h.ne1.symm _).setOther (a := ⟨gu, q, none⟩) h.ne3 _).congr fun i _ => by
    unfold Gr.put
    split <;> rfl
  til := ((((h.til.setOther (a := ⟨gb, c, none⟩) h.ne3.symm _).setOther (a := ⟨go, c * 2, none⟩) h.ne2.symm _).setOther (a := ⟨go, c * 2 + 1, none⟩) h.ne2.symm _).set q (.int .i64 (t + L))).congr fun i _ => by
    unfold Gr.put
    split
    · congr 1; omega
    · rfl
  hgo := h.hgo
  hgb := h.hgb
  hgu := h.hgu
  ne1 := h.ne1
  ne2 := h.ne2
  ne3 := h.ne3

set_option maxRecDepth 100000 in
set_option maxHeartbeats 2000000 in
theorem planned_walk (J : Jb) (w : World) (B : Nat) (v : Value) (m : Int) (hin : J.In w B v) (hB : B ≤ w.heap.size) (hR : J.Right) (hA : J.Acyc) (hm1 : 1 ≤ m) (hm2 : m ≤ 16)
    (hask : ∀ w, J.In w B v → B ≤ w.heap.size → Calls Try.prog 40 #[v, .int .i64 m] w fun e w' => e = .returned (.int .i64 0) ∧ Below w.heap.size w w') :
    Calls Try.prog 22 #[v, .int .i64 m] w fun e w' => ∃ (g E : Nat) (Bg Wk : Nat → Nat), e = .returned (.tuple #[.slice (some ⟨g, 0, none⟩) J.n J.n, .int .i64 E, .int .i64 0]) ∧
      Gr.Ruled J.gr J.urg m.toNat Bg Wk ∧ (∀ i, i < J.n → Bg i + J.gr.len i ≤ E) ∧ (E = 0 ∨ ∃ i, i < J.n ∧ Bg i + J.gr.len i = E) ∧ w'.rowIs g 53 (J.n * 2) (slotF Bg Wk) ∧ Below w.heap.size w w' := by
  have hin0 := hin
  obtain ⟨a, cap, rfl, hl, hc, cell⟩ := hin
  obtain ⟨i0, hi, hz0, hz1, hz2⟩ := info_parts Try.infoSlot
  unfold maxLen at hc
  have hfew := hR.few
  have htot := work_total hR
  go_enter Try.func22, Try.ntmps22
  go_wp2_with fail
  refine (hask _ hin0 hB).mono ?_
  rintro e w1 ⟨rfl, hb1⟩
  have hmkB := run_make_row' (P := Try.prog) 85 4 (.bool false) 1 Try.underlying85 Try.infoBool rfl .i64 .i64 J.n (by omega) (by omega)
  have hmkS : ∀ w : World, (Instr.makeSlice 46 (.int .i64 (J.n : Int)) (.int .i64 (J.n : Int))).run Try.prog w = .ok (.slice (some ⟨w.heap.size, 0, none⟩) J.n J.n) (w.alloc (.cells (madeCells #[.int .i64 0, .int .i64 0] (J.n * 2)) 53)) := by
    intro w
    have := run_make (P := Try.prog) w 46 53 i0 _ Try.underlying46 hi hz0 .i64 .i64 J.n J.n (by omega) (Int.le_refl _) (by rw [hz2]; omega) (by omega)
    rw [hz1] at this
    simpa [Value.cells] using this
  have hst := pmem_start w w1 J hb1
  have hj : ∀ wr, Below w.heap.size w wr → ∀ i, i < J.n → ∃ b off, a = some ⟨b, off, none⟩ ∧ b < B ∧ ∃ s, wr.cell? ⟨b, off + i * 4, none⟩ = some (.int .i64 (J.len i)) ∧ wr.cell? ⟨b, off + i * 4 + 1, none⟩ = some (.int .i64 (J.urg i)) ∧ wr.cell? ⟨b, off + i * 4 + 2, none⟩ = some s ∧ IntsIn wr B (J.aft i) s := by
    intro wr hb i hi
    obtain ⟨b, off, s, ha, hbB, f0, f1, f2, _, hs⟩ := cell i hi
    have e : ∀ o : Nat, wr.cell? ⟨b, o, none⟩ = w.cell? ⟨b, o, none⟩ := fun o => World.cell?_of_block (hb.block b (by omega))
    exact ⟨b, off, ha, hbB, s, by rw [e]; exact f0, by rw [e]; exact f1, by rw [e]; exact f2, hs.keep fun k hk => hb.block k (by omega)⟩
  clear cell hask hin0 hb1 hi hz0 hz1 hz2
  go_wp2_with fail
  clear hmkS
  generalize ego : w1.heap.size = go at *
  clear ego
  go_loopw [10, 12, 13] (fun lf en tm wr => ∃ (D : Nat → Bool) (Bg Wk U : Nat → Nat) (E t : Nat), lf = .int .i64 (undone J D) ∧ en = .int .i64 E ∧ tm = .int .i64 t ∧ PMem w J go (go + 1) (go + 1 + 1) D Bg Wk U wr ∧ PT J m.toNat D Bg Wk U E t 0) (fun _ _ tm _ => Gr.sumN J.gr.len J.gr.n - (intOf tm).toNat)
  case atStart => exact ⟨_, _, _, _, 0, 0, by rw [undone_all], rfl, rfl, hst, pt_start J _⟩
  case round =>
    rename World => w5
    obtain ⟨D, Bg, Wk, U, E, t, rfl, rfl, rfl, hmem, hpt⟩ := hrel
    clear hst
    have hbd := hpt.bounds hR
    by_cases hz : undone J D = 0
    · obtain ⟨r1, r2, r3⟩ := pt_end hR hpt hz
      have hlow := hmem.low
      have hout := hmem.out
      rw [hz]
      clear hpt hmem hj
      go_wp2_with fail
      exact bodyPost_ret (v := .tuple #[.slice (some ⟨go, 0, none⟩) J.n J.n, .int .i64 E, .int .i64 0]) (by simp [results, Try.results22, go_sem]) rfl ⟨go, E, Bg, Wk, rfl, r1, r2, r3, hout, hlow⟩
    · have hpos : 0 < undone J D := by omega
      have hul := undone_le J D
      have hpb : decide (0 < undone J D) = true := by simp; omega
      have htm := pt_time hR hpt hpos
      clear hz
      go_wp2_with fail
      have l1 := hmem.out.lt
      have l2 := hmem.begun.lt
      have l3 := hmem.til.lt
      have l4 := hmem.low.size
      have hov0 := World.rowIs_made w5 (.bool false) J.n 4
      have hb0 : Below w5.heap.size w5 (w5.alloc (.cells (madeCells #[.bool false] J.n) 4)) := (Below.refl _ _).alloc (Nat.le_refl _) _
      go_loopw [15] (fun iv w6 => ∃ k : Nat, k ≤ J.n ∧ iv = .int .i64 k ∧ Below w5.heap.size w5 w6 ∧ w6.rowIs w5.heap.size 4 J.n (fun i => .bool (if i < k then ovB J D Bg t i else false))) (fun iv _ => J.n - (intOf iv).toNat)
      case atStart => exact ⟨0, Nat.zero_le _, rfl, hb0, hov0.congr fun i _ => by simp⟩
      case round =>
        rename World => w6
        obtain ⟨k, hk, rfl, hb6, hov⟩ := hrel
        clear hov0 hb0
        have hm6 := hmem.keepAt l4 l1 l2 l3 hb6
        by_cases hkt : k < J.n
        · obtain ⟨b, off, rfl, hbB, s, f0, f1, f2, hs⟩ := hj w6 hm6.low k hkt
          have c1 := hm6.begun.cell hkt
          have c2 := hm6.out.cell (i := k * 2) (by omega)
          rw [slotF_even] at c2
          have c3 := hov.frozen k
          have n1 := hR.len k hkt
          have n2 := hpt.part.at_ k hkt
          have hl6 := hov.lt
          cases hD : D k with
          | true =>
            have n3 := (n2 hD).2
            obtain ⟨x, hx⟩ : ∃ x : Bool, decide ((Bg k : Int) + J.len k ≤ t) = x := ⟨_, rfl⟩
            have HX : Hid (ovB J D Bg t k = x) := by
              show _ = _
              unfold ovB
              rw [hD, ← hx]
              simp
              omega
            rw [hD] at c1
            have c4 := hov.cell hkt
            clear hpt hbd hj hm6 n2 hD hs f1 f2 hmkB hmem hpb hul
            go_wp2_with fail
            go_region
            go_wp2_with fail
            go_roundw
            case rel => exact ⟨k + 1, by omega, by go_num, over_step hb6 (Nat.le_refl _) hov HX.out⟩
            case measure => simp [intOf]; omega
          | false =>
            have HX : Hid (ovB J D Bg t k = false) := by
              show _ = _
              unfold ovB
              rw [hD]
              simp
            rw [hD] at c1
            have c4 := hov.cell hkt
            clear hpt hbd hj hm6 n2 hD hs f1 f2 hmkB hmem hpb hul
            go_wp2_with fail
            go_region
            go_wp2_with fail
            go_roundw
            case rel => exact ⟨k + 1, by omega, by go_num, over_step hb6 (Nat.le_refl _) hov HX.out⟩
            case measure => simp [intOf]; omega
        · obtain rfl : k = J.n := by omega
          have hov1 : w6.rowIs w5.heap.size 4 J.n (fun i => .bool (ovB J D Bg t i)) := hov.congr fun i hi => by rw [if_pos hi]
          have hpw := pw_start hpt (O := ovB J D Bg t) (fun i hi => rfl)
          have hgov : w.heap.size ≤ w5.heap.size := l4
          generalize ovB J D Bg t = O at *
          generalize w5.heap.size = gov at *
          have n1 : go ≠ gov := by omega
          have n2 : go + 1 ≠ gov := by omega
          have n3 : go + 1 + 1 ≠ gov := by omega
          clear hov hmem hpb hpt hbd hb6 l1 l2 l3 l4
          go_wp2_with fail
          go_loopw [10, 12, 16] (fun lf en qv w7 => ∃ (D' : Nat → Bool) (Bg' Wk' U' : Nat → Nat) (E' q : Nat), q ≤ m.toNat ∧ lf = .int .i64 (undone J D') ∧ en = .int .i64 E' ∧ qv = .int .i64 q ∧ PMem w J go (go + 1) (go + 1 + 1) D' Bg' Wk' U' w7 ∧ w7.rowIs gov 4 J.n (fun i => .bool (O i)) ∧ PW J m.toNat D O D' Bg' Wk' U' E' t q) (fun _ _ qv _ => m.toNat - (intOf qv).toNat)
          case atStart => exact ⟨_, _, _, _, _, 0, Nat.zero_le _, rfl, rfl, rfl, hm6, hov1, hpw⟩
          case round =>
            rename World => w7
            obtain ⟨D', Bg', Wk', U', E', q, hq, rfl, rfl, rfl, hm7, hov7, hpw7⟩ := hrel
            clear hm6 hov1 hpw
            have hul7 := undone_le J D'
            obtain ⟨hbE, hbU⟩ := hpw7.pt.bounds hR
            by_cases hqt : q < m.toNat
            · have hqm : (q : Int) < m := by omega
              have c1 := hm7.til.cell (i := q) (by omega)
              have hU1 := hbU q
              by_cases htU : t < U' q
              · have hs := pw_skip hpw7 htU
                have hd : decide ((t : Int) < U' q) = true := by simp; omega
                clear hj hmkB hpw7
                go_wp2_with fail
                go_roundw
                case rel => exact ⟨_, _, _, _, _, q + 1, by omega, rfl, rfl, by go_num, hm7, hov7, hs⟩
                case measure => simp [intOf]; omega
              · have hd : decide ((t : Int) < U' q) = false := by simp; omega
                have hm7' : ∀ q, PMem w J go (go + 1) (go + 1 + 1) D' Bg' Wk' U' (w7.drewN q) := fun q => hm7.keep ⟨rfl, rfl, rfl, Nat.le_refl _, fun _ _ => rfl⟩
                have hov7' : ∀ q, (w7.drewN q).rowIs gov 4 J.n (fun i => .bool (O i)) := fun q => hov7.of_block rfl
                clear hmkB hbU
                go_wp2_with fail
                clear hd
                go_loopw [17, 18] (fun bv iv w8 => ∃ (bb : Int) (k qq : Nat), k ≤ J.n ∧ bv = .int .i64 bb ∧ iv = .int .i64 k ∧ BestTo J D' O k bb ∧ w8 = w7.drewN qq) (fun _ iv _ => J.n - (intOf iv).toNat)
                case atStart => exact ⟨-1, 0, 0, Nat.zero_le _, rfl, rfl, best_start, rfl⟩
                case round =>
                  rename World => w8
                  obtain ⟨bb, k, qq, hk, rfl, rfl, hbest, rfl⟩ := hrel
                  by_cases hkt : k < J.n
                  · obtain ⟨b, off, hab, hbB, s, f0, f1, f2, hs⟩ := hj w7 hm7.low k hkt
                    have c2 := hm7.begun.cell hkt
                    cases hD : D' k with
                    | true =>
                      have hb' := best_same hbest (fun hc => by rw [hc.1] at hD; cases hD)
                      rw [hD] at c2
                      have k2 : ∀ q, (w7.drewN q).cell? ⟨go + 1, k, none⟩ = some (.bool true) := fun _ => c2
                      clear hj hm7 hm7' hov7 hov7' hpw7 hbest hab f0 f1 f2 hs hD c2
                      go_wp2_with fail
                      go_quiet (fail)
                      go_wp2_with fail
                      go_roundw
                      case rel => exact ⟨bb, k + 1, _, by omega, rfl, by go_num, hb', rfl⟩
                      case measure => simp [intOf]; omega
                    | false =>
                      rw [hD] at c2
                      have k2 : ∀ q, (w7.drewN q).cell? ⟨go + 1, k, none⟩ = some (.bool false) := fun _ => c2
                      have k3 : ∀ q, (w7.drewN q).cell? ⟨b, off + k * 4 + 2, none⟩ = some s := fun _ => f2
                      have k4 : ∀ q, (w7.drewN q).cell? ⟨b, off + k * 4 + 1, none⟩ = some (.int .i64 (J.urg k)) := fun _ => f1
                      have hcall : ∀ n, Calls Try.prog 41 #[s, .slice (some ⟨gov, 0, none⟩) J.n J.n] (w7.drewN (qq + n)) fun e w' => e = .returned (.bool (adB O (J.aft k))) ∧ ∃ n', w' = w7.drewN (qq + n') := by
                        intro n
                        refine (allDone_any (w7.drewN (qq + n)) B _ _ gov J.n O (hs.keep fun _ _ => rfl) (hov7.of_block rfl) (fun a ha => hR.aft k hkt a ha) (by omega)).mono ?_
                        rintro e w' ⟨rfl, rfl⟩
                        exact ⟨rfl, n, rfl⟩
                      subst hab
                      cases hO : adB O (J.aft k) with
                      | false =>
                        have hb' := best_same hbest (fun hc => by rw [hc.2] at hO; cases hO)
                        rw [hO] at hcall
                        clear hj hm7 hm7' hov7 hov7' hpw7 hbest f0 f1 f2 hs hD c2 hO
                        go_wp2_with fail
                        go_quiet ((go_at_call 41; exact hcall _))
                        go_wp2_with fail
                        go_roundw
                        case rel => exact ⟨bb, k + 1, _, by omega, rfl, by go_num, hb', rfl⟩
                        case measure => simp [intOf]; omega
                      | true =>
                        have hcand : cand J D' O k := ⟨hD, hO⟩
                        rw [hO] at hcall
                        rcases best_le hbest with rfl | ⟨c, rfl, hck⟩
                        · have hb' := best_first hbest hcand
                          clear hj hm7 hm7' hov7 hov7' hpw7 hbest f0 f1 f2 hs hD c2 hO hcand
                          go_wp2_with fail
                          go_quiet ((go_at_call 41; exact hcall _))
                          go_wp2_with fail
                          go_roundw
                          case rel => exact ⟨k, k + 1, _, by omega, rfl, by go_num, hb', rfl⟩
                          case measure => simp [intOf]; omega
                        · obtain ⟨b', off', hab', _, s', _, g1, _⟩ := hj w7 hm7.low c (by omega)
                          cases hab'
                          have hcn : c < J.n := by omega
                          have k5 : ∀ q, (w7.drewN q).cell? ⟨b, off + c * 4 + 1, none⟩ = some (.int .i64 (J.urg c)) := fun _ => g1
                          by_cases hu : J.urg c < J.urg k
                          · have hb' := best_more hbest hcand hu
                            have hdu : decide (J.urg c < J.urg k) = true := by simpa using hu
                            clear hj hm7 hm7' hov7 hov7' hpw7 hbest f0 f1 f2 hs hD c2 hO hcand g1 hu
                            go_wp2_with fail
                            go_quiet ((go_at_call 41; exact hcall _))
                            go_wp2_with fail
                            go_roundw
                            case rel => exact ⟨k, k + 1, _, by omega, rfl, by go_num, hb', rfl⟩
                            case measure => simp [intOf]; omega
                          · have hb' := best_less hbest hu
                            have hdu : decide (J.urg c < J.urg k) = false := by simpa using hu
                            clear hj hm7 hm7' hov7 hov7' hpw7 hbest f0 f1 f2 hs hD c2 hO hcand g1 hu
                            go_wp2_with fail
                            go_quiet ((go_at_call 41; exact hcall _))
                            go_wp2_with fail
                            go_roundw
                            case rel => exact ⟨c, k + 1, _, by omega, rfl, by go_num, hb', rfl⟩
                            case measure => simp [intOf]; omega
                  · obtain rfl : k = J.n := by omega
                    rcases best_le hbest with rfl | ⟨c, rfl, hck⟩
                    · have hnx := pw_next hR hA (by omega) (pw_none hR hpw7 hq hbest) hpos
                      clear hj hm7 hov7 hov7' hpw7 hbest
                      go_wp2_with fail
                      go_roundw
                      case rel => exact ⟨_, _, _, _, _, t + 1, rfl, rfl, by go_num, hm7' _, hnx⟩
                      case measure => simp [intOf]; omega
                    · obtain ⟨hnw, hun⟩ := pw_begin hR hpw7 hqt (by omega) hbest
                      obtain ⟨b, off, rfl, hbB, s, f0, _, _, _⟩ := hj w7 hm7.low c hck
                      have k1 : ∀ q, (w7.drewN q).cell? ⟨b, off + c * 4, none⟩ = some (.int .i64 (J.len c)) := fun _ => f0
                      have n4 := hR.len c hck
                      have z1 := (hm7' qq).begun.frozen c
                      have z2 := (hm7' qq).out.frozen (c * 2)
                      have z3 := (hm7' qq).out.frozen (c * 2 + 1)
                      have z4 := (hm7' qq).til.frozen q
                      have x1 := (hm7' qq).begun.cell hck
                      have x2 := (hm7' qq).out.cell (i := c * 2) (by omega)
                      have x3 := (hm7' qq).out.cell (i := c * 2 + 1) (by omega)
                      have x4 := (hm7' qq).til.cell (i := q) (by omega)
                      have y1 := (hm7' qq).begun.lt
                      have y2 := (hm7' qq).out.lt
                      have y3 := (hm7' qq).til.lt
                      have hbg : b < go := by have := hm7.hgo; omega
                      have x5 : ((((w7.drewN qq).setCell ⟨go + 1, c, none⟩ (.bool true)).setCell ⟨go, c * 2, none⟩ (.int .i64 t)).setCell ⟨go, c * 2 + 1, none⟩ (.int .i64 q)).cell? ⟨b, off + c * 4, none⟩ = some (.int .i64 (J.len c)) := by
                        rw [World.cell?_of_block (w := w7) (by rw [Below.heap_setCell _ _ _ b (by show b ≠ go; omega), Below.heap_setCell _ _ _ b (by show b ≠ go; omega), Below.heap_setCell _ _ _ b (by show b ≠ go + 1; omega)]; rfl)]
                        exact f0
                      have x6 : ((((w7.drewN qq).setCell ⟨go + 1, c, none⟩ (.bool true)).setCell ⟨go, c * 2, none⟩ (.int .i64 t)).setCell ⟨go, c * 2 + 1, none⟩ (.int .i64 q)).cell? ⟨go + 1 + 1, q, none⟩ = some (.int .i64 (U' q)) := by
                        rw [World.cell?_of_block (w := w7.drewN qq) (by rw [Below.heap_setCell _ _ _ (go + 1 + 1) (by show go + 1 + 1 ≠ go; omega), Below.heap_setCell _ _ _ (go + 1 + 1) (by show go + 1 + 1 ≠ go; omega), Below.heap_setCell _ _ _ (go + 1 + 1) (by show go + 1 + 1 ≠ go + 1; omega)])]
                        exact x4
                      clear hj hpw7 hbest hov7' hm7
                      go_wp2_with fail
                      go_roundw
                      case rel =>
                        refine ⟨_, _, _, _, _, q + 1, by omega, by congr 1; omega, ?_, by go_num, pmem_begin (hm7' qq) c q t (J.len c) (by omega), (((hov7.of_block (w' := w7.drewN qq) rfl).setOther (a := ⟨go + 1, c, none⟩) n2.symm _).setOther (a := ⟨go, c * 2, none⟩) n1.symm _ |>.setOther (a := ⟨go, c * 2 + 1, none⟩) n1.symm _).setOther (a := ⟨go + 1 + 1, q, none⟩) n3.symm _, hnw⟩
                        congr 1
                        split <;> omega
                      case measure => simp [intOf]; omega
            · obtain rfl : q = m.toNat := by omega
              have hqm : ¬ ((m.toNat : Int) < m) := by omega
              have hnx := pw_next hR hA (by omega) hpw7 hpos
              clear hj hmkB hpw7
              go_wp2_with fail
              go_roundw
              case rel => exact ⟨_, _, _, _, _, t + 1, rfl, rfl, by go_num, hm7, hnx⟩
              case measure => simp [intOf]; omega
end Go.Proofs.Ytgmemndjclhheae
