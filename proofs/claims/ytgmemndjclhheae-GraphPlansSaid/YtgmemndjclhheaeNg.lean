/-
  OUR OWN TEXT. inOrder, Check, checkFor.
-/
import Derived.Test.YtgmemndjclhheaeNf
namespace Go.Proofs.Ytgmemndjclhheae
open Go.RowKit

/-- What inOrder answers. -/
def InOrdRes (J : Jb) (w : World) (e : Ending) (w' : World) : Prop := ∃ v ol, e = .returned v ∧ w'.ownsRow w.heap.size 3 1 v ol.length (ints ol) ∧ OrdS J ol ol.length ∧ Below w.heap.size w w'

theorem lf_le {J : Jb} {O : Nat → Bool} {i : Nat} : lfO J O i ≤ (J.aft i).length := by
  unfold lfO
  have := List.countP_le_length (p := fun a => !O a) (l := J.gr.aft i)
  have e : (J.gr.aft i).length = (J.aft i).length := List.length_map _
  omega

theorem own_src {w : World} {base : Nat} {e : TypeId} {size : Nat} {a : Option Addr} {n c : Nat} {xs : List Value} (h : w.ownsRow base e size (.slice a n c) n xs) : ∀ a', a = some a' → ∀ j u, xs[j]? = some u → w.cell? (a'.add j) = some u := by
  intro a' ea j u hj
  have h' := h.2
  rcases h' with ⟨e1, _⟩ | ⟨g, c', cur, e1, _⟩
  · cases e1; cases ea
  · cases e1; cases ea
    exact h.cells (g := g) rfl j u hj

set_option maxRecDepth 100000 in
set_option maxHeartbeats 1000000 in
theorem inOrder_any (J : Jb) (w : World) (B : Nat) (v : Value) (hin : J.In w B v) (hB : B ≤ w.heap.size) (hg : J.Good) (hnb : ¬ J.Big) (hn : J.n ≤ 200) (hsm : J.Small) :
    Calls Try.prog 44 #[v] w (InOrdRes J w) := by
  have K1 := newWaits_any J w B v hin hB hg hnb hn
  have hlen : ∀ i, i < J.n → (J.aft i).length ≤ 200 := fun i hi => Nat.le_of_not_lt fun h => hnb ⟨i, hi, .inr h⟩
  have K2 := fun W (hb : Below w.heap.size w W) => free_any J W B v (hin.keep fun k hk => hb.block k (by omega)) (by have := hb.size; omega) hsm
  obtain ⟨i0, hi0, hz0, hz1, hz2⟩ := info_parts Try.info_int
  obtain ⟨a, cap, rfl, hl, hc, hq⟩ := hin
  clear hq
  go_enter Try.func44, Try.ntmps44
  go_upto_region 2 with (go_at_call 70; refine K1.mono ?_; rintro e w1 ⟨q, gl, gb, bv, bh, rfl, hW1, hgl, hgl1, hbh, hb1⟩)
  have K2' := K2 w1 hb1
  clear K1 K2
  go_upto_region 3 with (go_at_call 67; refine K2'.mono ?_; rintro e w2 ⟨ov, rfl, hown2, hb2⟩)
  have hs1 := hb1.size
  have hs2 := hb2.size
  have hW2 : WaitsAt w2 (fun k => w.heap.size ≤ k ∧ k < w1.heap.size ∧ k ≠ gl) J.n q gl gb (lfO J (inl ((freeTo J J.n).take 0))) bv bh := by
    have h := hW1.keep (w' := w2) (fun k hk => hb2.block k hk.2.1) (hb2.block gl hgl1)
    refine ⟨h.box, h.left.congr fun i _ => ?_, h.row, h.own, h.rq, h.rb, h.rv, h.out⟩
    have e : inl ((freeTo J J.n).take 0) = fun _ => false := by funext y; simp [inl]
    rw [e, lf_none]
  have hb02 : Below w.heap.size w w2 := hb1.trans (hb2.mono hs1)
  clear K2' hW1 hb1 hb2
  go_wp2_with fail
  go_loopw [4, 5] (fun sv iv wr => ∃ (i : Nat) (ol : List Nat), iv = .int .i64 i ∧ Below w.heap.size w wr ∧ w1.heap.size ≤ wr.heap.size ∧ wr.ownsRow w1.heap.size 3 1 sv ol.length (ints ol) ∧ OrdS J ol i ∧ WaitsAt wr (fun k => w.heap.size ≤ k ∧ k < w1.heap.size ∧ k ≠ gl) J.n q gl gb (lfO J (inl (ol.take i))) bv bh) (fun _ iv _ => J.n - (intOf iv).toNat)
  case atStart => exact ⟨0, freeTo J J.n, rfl, hb02, hs2, hown2, ordS_start J, hW2⟩
  case round =>
    rename World => w3
    clear hW2 hb02 hown2
    obtain ⟨i, ol, rfl, hb3, hs3, hown, hord, hW⟩ := hrel
    have hole := hord.len_le
    have hile := hord.le
    obtain ⟨oa, oc, rfl, ho1, ho2, _⟩ := own_shape hown
    unfold maxLen at ho2
    by_cases hi : i < ol.length
    · obtain ⟨g, rfl, hg1, hg2, cg, _⟩ := own_int hown hi
      obtain ⟨j, hj⟩ : ∃ j, ol[i] = j := ⟨_, rfl⟩
      have hjn : j < J.n := hj ▸ hord.lt _ (List.getElem_mem hi)
      have hOj := nodup_take hord.nd hi
      rw [hj] at hOj cg
      have KO := over_any w3 _ J.n q gl gb _ bv bh j hW hjn (fun x hx => hbh.lt hjn hx) (fun x => hbh.le hjn hOj x) (fun k hk => by have := hk.2.1; omega) (fun x hx => Nat.le_trans lf_le (hlen x hx)) (hbh.few j hjn)
      have HN : Hid (∀ nl, Ov (lfO J (inl (ol.take i))) (bh j) nl → OrdS J (ol ++ nl) (i + 1) ∧ ∀ x, x < J.n → lfO J (inl ((ol ++ nl).take (i + 1))) x = lfO J (inl (ol.take i)) x - (bh j).count x) := fun nl h => by
        have := hord.next (nl := nl) hbh hi (by rw [hj]; exact h)
        rw [hj] at this
        exact this
      have HJ : Hid (ol[i] = j) := hj
      clear hj hOj hW hord hlen
      go_wp2_with (first
        | (go_at_call 71; refine KO.mono ?_; rintro e w5 ⟨v5, nl, rfl, hown5, hov5, hnl5, hW5, hb5⟩; obtain ⟨na, nc, rfl, hn1, hn2, hn3⟩ := own_shape hown5; have hs5 := hb5.size
           have hown5' : w5.ownsRow w1.heap.size 3 1 (.slice (some ⟨g, 0, none⟩) ol.length oc) ol.length (ints ol) := own_keep hown fun b e => hb5.block b (hown.lt b e).2 (fun e2 => by have := (hown.lt b e).1; omega))
        | (at_builtin; refine wpList_append_mem rfl (.tmp 16) (.tmp 22) 56 rfl w1.heap.size 3 i0 _ 1 8 Try.underlying56 hi0 hz0 hz1 hz2 rfl (by decide) _ _ _ rfl hown5' na nl.length nc (ints nl) rfl (by rw [ints_len, Nat.mul_one]) hn3 ?c2 (ints_one nl) (by unfold maxLen; omega) (by omega) (by omega) ?_))
      case c2 => exact own_src hown5
      intro v' w7 hown7 hg7 _
      have hlow := fun b e => (hown.lt b e).1
      have hsz7 := hg7.size
      obtain ⟨hN1, hN2⟩ := HN.out nl hov5
      have hb7 : Below w.heap.size w w7 := below_grown (hb3.trans (hb5.below (N := w.heap.size) (by omega) (fun k hk e => by omega))) (by omega) hg7 (fun b e => by have := hlow b e; omega)
      have hW7 : WaitsAt w7 (fun k => w.heap.size ≤ k ∧ k < w1.heap.size ∧ k ≠ gl) J.n q gl gb (lfO J (inl ((ol ++ nl).take (i + 1)))) bv bh := by
        have h := hW5.keep (w' := w7) (fun k hk => hg7.block k (by have := hk.2.1; omega) (fun e => by have := hlow k e.symm; have := hk.2.1; omega)) (hg7.block gl (by omega) (fun e => by have := hlow gl e.symm; omega))
        exact ⟨h.box, h.left.congr fun x hx => by rw [hN2 x hx], h.row, h.own, h.rq, h.rb, h.rv, h.out⟩
      have hown7' : w7.ownsRow w1.heap.size 3 1 v' (ol ++ nl).length (ints (ol ++ nl)) := by
        unfold ints at hown7 ⊢
        rw [List.length_append, List.map_append]
        exact hown7
      have HN1 : Hid (OrdS J (ol ++ nl) (i + 1)) := hN1
      clear hN1 hN2 HN hW5 hb5 hg7 hown7 hown5 hown5' hov5 KO
      go_wp2_with fail
      go_roundw
      case rel => exact ⟨i + 1, ol ++ nl, by go_num, hb7, by omega, hown7', HN1.out, hW7⟩
      case measure => simp [intOf]; omega
    · obtain rfl : i = ol.length := by omega
      go_wp2_with fail
      go_ret
      exact ⟨_, ol, rfl, own_weak hown hs1, hord, hb3⟩

/-- What Check answers. -/
def CheckRes (J : Jb) (w : World) (e : Ending) (w' : World) : Prop := ∃ er : Int, e = .returned (.int .i64 er) ∧ J.Chk er ∧ Below w.heap.size w w'

theorem big_iff (J : Jb) : J.Big ↔ (200 < J.n ∨ ∃ i, i < J.n ∧ 200 < (J.aft i).length) := by
  unfold Jb.Big Jb.bigAt
  constructor
  · rintro ⟨i, hi, h | h⟩
    · exact .inl h
    · exact .inr ⟨i, hi, h⟩
  · rintro (h | ⟨i, hi, h⟩)
    · exact ⟨0, by omega, .inl h⟩
    · exact ⟨i, hi, .inr h⟩

set_option maxRecDepth 100000 in
set_option maxHeartbeats 1000000 in
theorem check_any (J : Jb) (w : World) (B : Nat) (v : Value) (hin : J.In w B v) (hB : B ≤ w.heap.size) (hsm : J.Small) :
    Calls Try.prog 19 #[v] w (CheckRes J w) := by
  have K1 := allSound_any J w B v hin hB hsm
  have KT := fun W (hb : Below w.heap.size w W) => tooLarge_any J W B v (hin.keep fun k hk => hb.block k (by omega)) (by have := hb.size; omega) hsm
  have KI := fun W (hb : Below w.heap.size w W) h1 h2 h3 => inOrder_any J W B v (hin.keep fun k hk => hb.block k (by omega)) (by have := hb.size; omega) h1 h2 h3 hsm
  obtain ⟨a, cap, rfl, hl, hc, hq⟩ := hin
  have hsn := hsm.n
  clear hq
  by_cases hG : J.Good
  · by_cases hBg : J.Big
    · have HBG : Hid (J.Good ∧ J.Big) := ⟨hG, hBg⟩
      have HX : Hid (∀ x : Bool, (x = true ↔ J.Good) → x = true) := fun x h => h.2 hG
      have HY : Hid (∀ x : Bool, (x = true ↔ (200 < J.n ∨ ∃ i, i < J.n ∧ 200 < (J.aft i).length)) → x = true) := fun x h => h.2 ((big_iff J).1 hBg)
      clear hG hBg KI
      go_enter Try.func19, Try.ntmps19
      go_upto_region 3 with (go_at_call 42; refine K1.mono ?_; rintro e w1 ⟨x, rfl, hx, hb1⟩; obtain rfl := HX.out x hx)
      have KT1 := KT w1 hb1
      go_wp2_with (go_at_call 43; refine KT1.mono ?_; rintro e w2 ⟨y, rfl, hy, hb2⟩; obtain rfl := HY.out y hy)
      go_ret
      exact ⟨2, rfl, .inr (.inl ⟨HBG.out.1, HBG.out.2, rfl⟩), hb1.trans (hb2.mono hb1.size)⟩
    · have hn : J.n ≤ 200 := Nat.le_of_not_lt fun h => hBg ((big_iff J).2 (.inl h))
      have HBG : Hid (J.Good ∧ ¬ J.Big) := ⟨hG, hBg⟩
      have HX : Hid (∀ x : Bool, (x = true ↔ J.Good) → x = true) := fun x h => h.2 hG
      have HY : Hid (∀ x : Bool, (x = true ↔ (200 < J.n ∨ ∃ i, i < J.n ∧ 200 < (J.aft i).length)) → x = false) := fun x h => by
        cases x with
        | false => rfl
        | true => exact absurd ((big_iff J).2 (h.1 rfl)) hBg
      have KI' := fun W hb => KI W hb hG hBg hn
      clear hG hBg KI
      go_enter Try.func19, Try.ntmps19
      go_upto_region 3 with (go_at_call 42; refine K1.mono ?_; rintro e w1 ⟨x, rfl, hx, hb1⟩; obtain rfl := HX.out x hx)
      have KT1 := KT w1 hb1
      go_upto_region 5 with (go_at_call 43; refine KT1.mono ?_; rintro e w2 ⟨y, rfl, hy, hb2⟩; obtain rfl := HY.out y hy)
      have hb02 : Below w.heap.size w w2 := hb1.trans (hb2.mono hb1.size)
      have KI2 := KI' w2 hb02
      clear hx hy KT1 KI'
      go_wp2_with (go_at_call 44; refine KI2.mono ?_; rintro e w3 ⟨ov, ol, rfl, hown, hord, hb3⟩; obtain ⟨oa, oc, rfl, _, _, _⟩ := own_shape hown; have hle := hord.len_le)
      · rename_i hlt
        go_ret
        exact ⟨4, rfl, .inr (.inr (.inl ⟨HBG.out.1, HBG.out.2, hord.cyc HBG.out.1 hlt, rfl⟩)), hb02.trans (hb3.mono hb02.size)⟩
      · rename_i hlt
        go_ret
        exact ⟨0, rfl, .inr (.inr (.inr ⟨HBG.out.1, HBG.out.2, hord.acyc (by omega), rfl⟩)), hb02.trans (hb3.mono hb02.size)⟩
  · have HBG : Hid (¬ J.Good) := hG
    have HX : Hid (∀ x : Bool, (x = true ↔ J.Good) → x = false) := fun x h => by
      cases x with
      | false => rfl
      | true => exact absurd (h.1 rfl) hG
    clear hG KI KT
    go_enter Try.func19, Try.ntmps19
    go_wp2_with (go_at_call 42; refine K1.mono ?_; rintro e w1 ⟨x, rfl, hx, hb1⟩; obtain rfl := HX.out x hx)
    go_ret
    exact ⟨1, rfl, .inl ⟨HBG.out, rfl⟩, hb1⟩

#print axioms check_any
end Go.Proofs.Ytgmemndjclhheae
