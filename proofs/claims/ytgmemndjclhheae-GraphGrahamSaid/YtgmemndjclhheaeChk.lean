/-
  OUR OWN TEXT. What is wrong with jobs: the document's own look, walked.
-/
import Derived.Test.YtgmemndjclhheaePl1
namespace Go.Proofs.Ytgmemndjclhheae
open Go.RowKit

def Jb.goodAt (J : Jb) (i : Nat) : Prop := (1 ≤ J.len i ∧ J.len i ≤ 1000) ∧ ∀ a ∈ J.aft i, 0 ≤ a ∧ a < J.n
def Jb.bigAt (J : Jb) (i : Nat) : Prop := 200 < J.n ∨ 200 < (J.aft i).length
def Jb.Good (J : Jb) : Prop := ∀ i, i < J.n → J.goodAt i
def Jb.Big (J : Jb) : Prop := ∃ i, i < J.n ∧ J.bigAt i

/-- What Check says. -/
def Jb.Chk (J : Jb) (e : Int) : Prop := (¬ J.Good ∧ e = 1) ∨ (J.Good ∧ J.Big ∧ e = 2) ∨ (J.Good ∧ ¬ J.Big ∧ ¬ J.Acyc ∧ e = 4) ∨ (J.Good ∧ ¬ J.Big ∧ J.Acyc ∧ e = 0)

theorem Jb.Chk.only {J : Jb} {e e' : Int} (h : J.Chk e) (h' : J.Chk e') : e = e' := by
  rcases h with ⟨a, rfl⟩ | ⟨a, b, rfl⟩ | ⟨a, b, c, rfl⟩ | ⟨a, b, c, rfl⟩ <;> rcases h' with ⟨a', rfl⟩ | ⟨a', b', rfl⟩ | ⟨a', b', c', rfl⟩ | ⟨a', b', c', rfl⟩ <;> first | rfl | contradiction

theorem Jb.Chk.right {J : Jb} (h : J.Chk 0) : J.Right ∧ J.Acyc := by
  rcases h with ⟨_, h⟩ | ⟨_, _, h⟩ | ⟨_, _, _, h⟩ | ⟨hg, hb, ha, _⟩
  · omega
  · omega
  · omega
  · refine ⟨⟨?_, fun i hi => (hg i hi).1, fun i hi => (hg i hi).2⟩, ha⟩
    rcases Nat.lt_or_ge 200 J.n with h | h
    · exact absurd ⟨0, by omega, .inl h⟩ hb
    · exact h

/-- In an order: each behind all that come ahead of it. -/
structure Ord (J : Jb) (D : Nat → Bool) (r : Nat → Nat) : Prop where
  low : ∀ i, i < J.n → D i = true → r i + undone J D < J.n
  ahead : ∀ i, i < J.n → D i = true → ∀ a ∈ J.aft i, D a.toNat = true ∧ r a.toNat < r i

theorem ord_start (J : Jb) : Ord J (fun _ => false) (fun _ => 0) := ⟨fun _ _ h => (by cases h), fun _ _ h => (by cases h)⟩

theorem ord_more {J : Jb} (hg : J.Good) {D : Nat → Bool} {r : Nat → Nat} (h : Ord J D r) {b : Nat} (hb : b < J.n) (hD : D b = false) (ha : adB D (J.aft b) = true) :
    Ord J (Gr.put D b true) (Gr.put r b (J.n - undone J D)) ∧ undone J (Gr.put D b true) + 1 = undone J D := by
  have hu := undone_put hb hD
  have hle := undone_le J D
  refine ⟨⟨fun i hi h1 => ?_, fun i hi h1 a hm => ?_⟩, hu⟩
  · by_cases e : i = b
    · subst e; rw [Gr.put_at]; omega
    · rw [Gr.put_ne _ _ e] at h1 ⊢
      have := h.low i hi h1
      omega
  · by_cases e : i = b
    · subst e
      have h2 := List.all_eq_true.1 ha a hm
      have h3 := (hg i hi).2 a hm
      have e2 : a.toNat ≠ i := fun e2 => by rw [e2, hD] at h2; cases h2
      rw [Gr.put_ne _ _ e2, Gr.put_ne _ _ e2, Gr.put_at]
      have h4 := h.low a.toNat (by omega) h2
      exact ⟨h2, by omega⟩
    · rw [Gr.put_ne _ _ e] at h1
      obtain ⟨h2, h3⟩ := h.ahead i hi h1 a hm
      have e2 : a.toNat ≠ b := fun e2 => by rw [e2, hD] at h2; cases h2
      rw [Gr.put_ne _ _ e2, Gr.put_ne _ _ e2, Gr.put_ne _ _ e]
      exact ⟨h2, h3⟩

/-- None of those that are left can be taken: there is no order. -/
theorem no_order {J : Jb} (hg : J.Good) {D : Nat → Bool} (hno : ∀ i, i < J.n → D i = false → adB D (J.aft i) = false) (hpos : 0 < undone J D) : ¬ J.Acyc := by
  rintro ⟨r, hr⟩
  obtain ⟨i, hi, hD⟩ := undone_pos hpos
  have main : ∀ c i, i < J.n → r i = c → D i = false → False := by
    intro c
    induction c using Nat.strongRecOn with
    | _ c ih =>
      intro i hi hc hD
      obtain ⟨a, ha, hx⟩ := List.all_eq_false.1 (hno i hi hD)
      have h1 := (hg i hi).2 a ha
      have h2 := (hr i hi).2 a ha
      exact ih (r a.toNat) (by omega) a.toNat (by omega) rfl (by simpa using hx)
  exact main _ i hi rfl hD

theorem acyc_of {J : Jb} {D : Nat → Bool} {r : Nat → Nat} (h : Ord J D r) (h0 : undone J D = 0) : J.Acyc :=
  ⟨r, fun i hi => ⟨by have := h.low i hi (undone_zero h0 i hi); omega, fun a ha => (h.ahead i hi (undone_zero h0 i hi) a ha).2⟩⟩

theorem between_yes (n l h : Int) (w : World) (h1 : l ≤ n) (h2 : n ≤ h) : Calls Try.prog 15 #[.int .i64 n, .int .i64 l, .int .i64 h] w fun e w' => e = .returned (.bool true) ∧ w' = w :=
  (between_any n l h w).mono fun e w' ⟨he, hw⟩ => ⟨by rw [he]; simp [h1, h2], hw⟩
theorem between_no (n l h : Int) (w : World) (h1 : ¬ (l ≤ n ∧ n ≤ h)) : Calls Try.prog 15 #[.int .i64 n, .int .i64 l, .int .i64 h] w fun e w' => e = .returned (.bool false) ∧ w' = w :=
  (between_any n l h w).mono fun e w' ⟨he, hw⟩ => ⟨by rw [he, decide_eq_false h1], hw⟩

/-- As far as it has been looked: no fault; too large or not. -/
def LookTo (J : Jb) (k : Nat) (e : Int) : Prop := (∀ i, i < k → J.goodAt i) ∧ ((e = 0 ∧ ∀ i, i < k → ¬ J.bigAt i) ∨ (e = 2 ∧ ∃ i, i < k ∧ J.bigAt i))

theorem look_big {J : Jb} {k : Nat} {e : Int} (h : LookTo J k e) (hg : J.goodAt k) (hb : J.bigAt k) : LookTo J (k + 1) 2 :=
  ⟨fun i hi => by rcases Nat.lt_succ_iff_lt_or_eq.1 hi with h1 | rfl; exact h.1 i h1; exact hg, .inr ⟨rfl, k, by omega, hb⟩⟩
theorem look_same {J : Jb} {k : Nat} {e : Int} (h : LookTo J k e) (hg : J.goodAt k) (hb : ¬ J.bigAt k) : LookTo J (k + 1) e := by
  refine ⟨fun i hi => by rcases Nat.lt_succ_iff_lt_or_eq.1 hi with h1 | rfl; exact h.1 i h1; exact hg, ?_⟩
  rcases h.2 with ⟨h1, h2⟩ | ⟨h1, i, h2, h3⟩
  · exact .inl ⟨h1, fun i hi => by rcases Nat.lt_succ_iff_lt_or_eq.1 hi with h3 | rfl; exact h2 i h3; exact hb⟩
  · exact .inr ⟨h1, i, by omega, h3⟩

/-- One for true. -/
def yes : Value → Nat
  | .bool true => 1
  | _ => 0

theorem Try.infoBool : (Try.prog.info? 4).map (fun i => (i.zero, i.size, i.bytes)) = some (some (.bool false), 1, 1) := by kernel_rfl

set_option maxRecDepth 100000 in
set_option maxHeartbeats 1000000 in
theorem jobs_any (J : Jb) (w : World) (B : Nat) (v : Value) (hin : J.In w B v) (hB : B ≤ w.heap.size) (hsm : J.Small) :
    Calls Try.prog 20 #[v] w fun e w' => ∃ er : Int, e = .returned (.int .i64 er) ∧ J.Chk er ∧ Below w.heap.size w w' := by
  obtain ⟨a, cap, rfl, hl, hc, cell⟩ := hin
  unfold maxLen at hc
  have hsn := hsm.n
  have hmkB := run_make_row' (P := Try.prog) 85 4 (.bool false) 1 Try.underlying85 Try.infoBool rfl .i64 .i64 J.n (by omega) (by omega)
  go_enter Try.func20, Try.ntmps20
  go_wp2_with fail
  go_loop [3, 4] (fun ev iv => ∃ (k : Nat) (e : Int), k ≤ J.n ∧ iv = .int .i64 k ∧ ev = .int .i64 e ∧ LookTo J k e) (fun _ iv => J.n - (intOf iv).toNat)
  case atStart => exact ⟨0, 0, Nat.zero_le _, rfl, rfl, fun i hi => by omega, .inl ⟨rfl, fun i hi => by omega⟩⟩
  case round =>
    obtain ⟨k, e, hk, rfl, rfl, hlook⟩ := hrel
    by_cases hkt : k < J.n
    · obtain ⟨b, off, s, rfl, hbB, f0, f1, f2, f3, hs⟩ := cell k hkt
      obtain ⟨aa, acap, rfl, hal, hac, hax⟩ := hs
      unfold maxLen at hac
      by_cases hg1 : 1 ≤ J.len k ∧ J.len k ≤ 1000
      · go_wp2_with fail
        refine (between_yes _ _ _ _ hg1.1 hg1.2).mono ?_
        rintro e1 w' ⟨rfl, rfl⟩
        go_wp2_with fail
        go_loop [5] (fun jv => ∃ j : Nat, j ≤ (J.aft k).length ∧ jv = .int .i64 j ∧ ∀ x (h : x < (J.aft k).length), x < j → 0 ≤ (J.aft k)[x] ∧ (J.aft k)[x] < J.n) (fun jv => (J.aft k).length - (intOf jv).toNat)
        case atStart => exact ⟨0, Nat.zero_le _, rfl, fun x _ hx => by omega⟩
        case round =>
          obtain ⟨j, hj, rfl, hall⟩ := hrel
          by_cases hjt : j < (J.aft k).length
          · obtain ⟨ab, ao, rfl, hab, ac⟩ := hax j hjt
            by_cases hg2 : 0 ≤ (J.aft k)[j] ∧ (J.aft k)[j] ≤ (J.n : Int) - 1
            · have hall' : ∀ x (h : x < (J.aft k).length), x < j + 1 → 0 ≤ (J.aft k)[x] ∧ (J.aft k)[x] < J.n := by
                intro x hx hxj
                rcases Nat.lt_succ_iff_lt_or_eq.1 hxj with h1 | rfl
                · exact hall x hx h1
                · omega
              clear hall hlook cell hax
              go_wp2_with fail
              refine (between_yes _ _ _ _ hg2.1 hg2.2).mono ?_
              rintro e1 w' ⟨rfl, rfl⟩
              go_wp2_with fail
              go_round
              case rel => exact ⟨j + 1, by omega, by go_num, hall'⟩
              case measure => simp [intOf]; omega
            · have hbad : ¬ J.Good := fun hgd => hg2 (by have := (hgd k hkt).2 _ (List.getElem_mem hjt); omega)
              clear hall hlook cell hax
              go_wp2_with fail
              refine (between_no _ _ _ _ hg2).mono ?_
              rintro e1 w' ⟨rfl, rfl⟩
              go_wp2_with fail
              go_ret
              exact ⟨1, rfl, .inl ⟨hbad, rfl⟩, Below.refl _ _⟩
          · have hgood : J.goodAt k := ⟨hg1, fun x hx => by
              obtain ⟨y, hy, rfl⟩ := List.mem_iff_getElem.1 hx
              exact hall y hy (by omega)⟩
            by_cases hn : 200 < J.n
            · have hl' := look_big hlook hgood (.inl hn)
              have hd : decide ((200 : Int) < J.n) = true := by simp; omega
              clear hall hlook cell hax
              go_wp2_with fail
              go_round
              case rel => exact ⟨k + 1, 2, by omega, by go_num, rfl, hl'⟩
              case measure => simp [intOf]; omega
            · have hd : decide ((200 : Int) < J.n) = false := by simp; omega
              by_cases hal2 : 200 < (J.aft k).length
              · have hl' := look_big hlook hgood (.inr hal2)
                have hd2 : decide ((200 : Int) < (J.aft k).length) = true := by simp; omega
                clear hall hlook cell hax
                go_wp2_with fail
                go_round
                case rel => exact ⟨k + 1, 2, by omega, by go_num, rfl, hl'⟩
                case measure => simp [intOf]; omega
              · have hl' := look_same hlook hgood (fun h => by rcases h with h | h; exact hn h; exact hal2 h)
                have hd2 : decide ((200 : Int) < (J.aft k).length) = false := by simp; omega
                clear hall hlook cell hax
                go_wp2_with fail
                go_round
                case rel => exact ⟨k + 1, e, by omega, by go_num, rfl, hl'⟩
                case measure => simp [intOf]; omega
      · have hbad : ¬ J.Good := fun hgd => hg1 (hgd k hkt).1
        clear hlook cell hax
        go_wp2_with fail
        refine (between_no _ _ _ _ hg1).mono ?_
        rintro e1 w' ⟨rfl, rfl⟩
        go_wp2_with fail
        go_ret
        exact ⟨1, rfl, .inl ⟨hbad, rfl⟩, Below.refl _ _⟩
    · obtain rfl : k = J.n := by omega
      obtain ⟨hgood, hbig⟩ := hlook
      have hrow := World.rowIs_made w (.bool false) J.n 4
      have hlow : Below w.heap.size w (w.alloc (.cells (madeCells #[.bool false] J.n) 4)) := (Below.refl _ _).alloc (Nat.le_refl _) _
      rcases hbig with ⟨rfl, hnb⟩ | ⟨rfl, hbg⟩
      · have hnb' : ¬ J.Big := fun ⟨i, hi, h⟩ => hnb i hi h
        have hj : ∀ wr, Below w.heap.size w wr → ∀ i, i < J.n → ∃ b off, a = some ⟨b, off, none⟩ ∧ b < B ∧ ∃ s, wr.cell? ⟨b, off + i * 4 + 2, none⟩ = some s ∧ IntsIn wr B (J.aft i) s := by
          intro wr hb i hi
          obtain ⟨b, off, s, ha, hbB, f0, f1, f2, _, hs⟩ := cell i hi
          have e : ∀ o : Nat, wr.cell? ⟨b, o, none⟩ = w.cell? ⟨b, o, none⟩ := fun o => World.cell?_of_block (hb.block b (by omega))
          exact ⟨b, off, ha, hbB, s, by rw [e]; exact f2, hs.keep fun k hk => hb.block k (by omega)⟩
        clear cell hnb
        go_wp2_with fail
        go_loopw [7, 8] (fun lf mo wr => ∃ (D : Nat → Bool) (r : Nat → Nat) (x : Bool), lf = .int .i64 (undone J D) ∧ mo = .bool x ∧ Below w.heap.size w wr ∧ wr.rowIs w.heap.size 4 J.n (fun i => .bool (D i)) ∧ Ord J D r ∧ (x = false → ∀ i, i < J.n → D i = false → adB D (J.aft i) = false))
          (fun lf mo _ => (intOf lf).toNat + yes mo)
        case atStart => exact ⟨_, _, true, by rw [undone_all], rfl, hlow, hrow, ord_start J, fun h => by cases h⟩
        case round =>
          rename World => w3
          obtain ⟨D, r, x, rfl, rfl, hb3, hr3, hord, hno⟩ := hrel
          clear hrow hlow hmkB
          have hul := undone_le J D
          cases x with
          | false =>
            by_cases hz : undone J D = 0
            · have hch : J.Chk 0 := .inr (.inr (.inr ⟨hgood, hnb', acyc_of hord hz, rfl⟩))
              rw [hz]
              clear hj hno hord hr3
              go_wp2_with fail
              go_ret
              exact ⟨0, rfl, hch, hb3⟩
            · have hch : J.Chk 4 := .inr (.inr (.inl ⟨hgood, hnb', no_order hgood (hno rfl) (by omega), rfl⟩))
              have hd : decide (0 < undone J D) = true := by simp; omega
              clear hj hno hord hr3
              go_wp2_with fail
              go_ret
              exact ⟨4, rfl, hch, hb3⟩
          | true =>
            go_wp2_with fail
            go_loopw [7, 8, 9] (fun lf mo iv wr => ∃ (D' : Nat → Bool) (r' : Nat → Nat) (x : Bool) (k : Nat), k ≤ J.n ∧ lf = .int .i64 (undone J D') ∧ mo = .bool x ∧ iv = .int .i64 k ∧ Below w.heap.size w wr ∧ wr.rowIs w.heap.size 4 J.n (fun i => .bool (D' i)) ∧ Ord J D' r' ∧
              (x = false → ∀ i, i < k → D' i = false → adB D' (J.aft i) = false) ∧ undone J D' + (if x = true then 1 else 0) ≤ undone J D) (fun _ _ iv _ => J.n - (intOf iv).toNat)
            case atStart => exact ⟨D, r, false, 0, Nat.zero_le _, rfl, rfl, rfl, hb3, hr3, hord, fun _ i hi => by omega, by simp⟩
            case round =>
              rename World => w4
              obtain ⟨D', r', x, k, hk, rfl, rfl, rfl, hb4, hr4, hord', hno', hun⟩ := hrel
              clear hb3 hr3 hord hno
              have hul' := undone_le J D'
              by_cases hkt : k < J.n
              · obtain ⟨b, off, rfl, hbB, s, f2, hs⟩ := hj w4 hb4 k hkt
                have c1 := hr4.cell hkt
                have hcall := allDone_any w4 B _ _ w.heap.size J.n D' hs hr4 (fun a ha => (hgood k hkt).2 a ha) (by omega)
                cases hD : D' k with
                | true =>
                  have hno2 : x = false → ∀ i, i < k + 1 → D' i = false → adB D' (J.aft i) = false := fun hx i hi h => by
                    rcases Nat.lt_succ_iff_lt_or_eq.1 hi with h1 | rfl
                    · exact hno' hx i h1 h
                    · rw [hD] at h; cases h
                  rw [hD] at c1
                  clear hj hcall hD hno' hs
                  go_wp2_with fail
                  go_roundw
                  case rel => exact ⟨D', r', x, k + 1, by omega, rfl, rfl, by go_num, hb4, hr4, hord', hno2, hun⟩
                  case measure => simp [intOf]; omega
                | false =>
                  rw [hD] at c1
                  cases hO : adB D' (J.aft k) with
                  | false =>
                    have hno2 : x = false → ∀ i, i < k + 1 → D' i = false → adB D' (J.aft i) = false := fun hx i hi h => by
                      rcases Nat.lt_succ_iff_lt_or_eq.1 hi with h1 | rfl
                      · exact hno' hx i h1 h
                      · exact hO
                    rw [hO] at hcall
                    clear hj hD hno' hs hO
                    go_wp2_with fail
                    refine hcall.mono ?_
                    rintro e1 w' ⟨rfl, rfl⟩
                    go_wp2_with fail
                    go_roundw
                    case rel => exact ⟨D', r', x, k + 1, by omega, rfl, rfl, by go_num, hb4, hr4, hord', hno2, hun⟩
                    case measure => simp [intOf]; omega
                  | true =>
                    obtain ⟨ho2, hu2⟩ := ord_more hgood hord' hkt hD hO
                    have z1 := hr4.frozen k
                    have hr5 : (w4.setCell ⟨w.heap.size, k, none⟩ (.bool true)).rowIs w.heap.size 4 J.n (fun i => .bool (Gr.put D' k true i)) := (hr4.set k (.bool true)).congr fun i _ => by unfold Gr.put; split <;> rfl
                    have hb5 : Below w.heap.size w (w4.setCell ⟨w.heap.size, k, none⟩ (.bool true)) := hb4.setCell (by simp) _
                    have y1 := hr4.lt
                    rw [hO] at hcall
                    clear hj hD hno' hs hO
                    go_wp2_with fail
                    refine hcall.mono ?_
                    rintro e1 w' ⟨rfl, rfl⟩
                    go_wp2_with fail
                    go_roundw
                    case rel => exact ⟨_, _, true, k + 1, by omega, by congr 1; omega, rfl, by go_num, hb5, hr5, ho2, (fun h => by cases h), by cases x <;> simp at hun ⊢ <;> omega⟩
                    case measure => simp [intOf]; omega
              · obtain rfl : k = J.n := by omega
                clear hj
                go_wp2_with fail
                go_roundw
                case rel => exact ⟨D', r', x, rfl, rfl, hb4, hr4, hord', hno'⟩
                case measure => cases x <;> simp [intOf, yes] at hun ⊢ <;> omega
      · have hch : J.Chk 2 := .inr (.inl ⟨hgood, hbg, rfl⟩)
        clear cell hbg
        go_wp2_with fail
        go_loopw [7, 8] (fun lf mo wr => lf = .int .i64 J.n ∧ mo = .bool true ∧ wr = w.alloc (.cells (madeCells #[.bool false] J.n) 4)) (fun _ _ _ => 0)
        case atStart => exact ⟨rfl, rfl, rfl⟩
        case round =>
          rename World => w3
          obtain ⟨rfl, rfl, rfl⟩ := hrel
          go_wp2_with fail
          go_ret
          exact ⟨2, rfl, hch, hlow⟩

#print axioms jobs_any
end Go.Proofs.Ytgmemndjclhheae
