/-
  OUR OWN TEXT. finish.
-/
import Derived.Test.YtgmemndjclhheaeNn
import Derived.Test.YtgmemndjclhheaeEa
namespace Go.Proofs.Ytgmemndjclhheae
open Go.RowKit

section
variable {J : Jb} {m : Nat} {P : PlanB} {w : World} {ov : Value} {ol : List Nat} {lf Bg Wk : Nat → Nat} {dg : Nat → Int}

/-- append onto a slice that the call owns, of a slice that may be nil, as one step of a region that draws. -/
theorem step_append_any {P : Program} {ops : Array Oper} {o : Oper} {a : Act} {w : World} {K : Act → World → Prop} {Q : Exit → Act → World → Prop} {E : Prop}
    (hg : o.guard = none) (s x : Operand) (t : TypeId) (hop : o.op = Op.call { callee := Callee.builtin Builtin.append, args := #[s, x], argTypes := #[t, t] })
    (base : Nat) (e : TypeId) (i : TypeInfo) (z : Value) (size bytes : Nat) (h1 : P.underlying t = some (.slice e)) (h2 : P.info? e = some i) (h3 : i.zero = some z) (h4 : i.size = size) (h5 : i.bytes = bytes) (h6 : z.cells.size = size) (h7 : 0 < size)
    (v : Value) (n : Nat) (xs : List Value) (hs : a.eval s = v) (hown : w.ownsRow base e size v n xs)
    (ad : Option Addr) (m c : Nat) (news : List Value) (hx : a.eval x = .slice ad m c) (hn : news.length = m * size) (h0 : ad = none → m = 0 ∧ c = 0) (hc : ∀ a', ad = some a' → ∀ j u, news[j]? = some u → w.cell? (a'.add j) = some u) (h1c : ∀ u ∈ news, u.oneCell' = true)
    (b1 : n + m ≤ maxLen) (b2 : (n + m) * bytes ≤ 140737488355328) (hbase : base ≤ w.heap.size)
    (hK : ∀ v' w', w'.ownsRow base e size v' (n + m) (xs ++ news) → w.grownBy w' v.ownBlock → (v'.ownBlock = v.ownBlock ∨ v'.ownBlock = some w.heap.size) → K (a.put o.dst v') w') :
    if Region.wanted o (yielded ops a.tmps) = true then Oper.wp P o a w K Q else E := by
  have hw : Region.wanted o (yielded ops a.tmps) = true := by simp [Region.wanted, hg]
  rw [if_pos hw]
  cases ad with
  | some ad =>
    obtain ⟨v', w', hrun, r1, r2, _, r3⟩ := run_append_own_at (P := P) w base t o.type e i z size bytes h1 h2 h3 h4 h5 h6 h7 v n xs hown ad m c news hn (hc ad rfl) h1c b1 b2 hbase
    unfold Oper.wp
    simp [execOp, hop, resolve, invoke, builtin, hs, hx, hrun, Result.andThen]
    exact hK v' w' r1 r2 r3
  | none =>
    obtain ⟨rfl, rfl⟩ := h0 rfl
    have hrun := run_append_owned_none (P := P) (w := w) base t o.type e i size h1 h2 v n xs hown
    have hnews : news = [] := List.length_eq_zero_iff.1 (by rw [hn]; omega)
    subst hnews
    unfold Oper.wp
    simp [execOp, hop, resolve, invoke, builtin, hs, hx, hrun, Result.andThen]
    exact hK v w (by simpa using hown) (World.grownBy.refl _ _) (.inl rfl)

/-- A worker's job is set. -/
theorem PlanAt.setDoing (h : PlanAt J m P w ov ol lf Bg Wk dg) (x : Nat) (v : Int) : PlanAt J m P (w.setCell ⟨P.gd, x, none⟩ (.int .i64 v)) ov ol lf Bg Wk (Gr.put dg x v) := by
  obtain ⟨n1, n2, n3, n4, n5, n6⟩ := h.ne
  have st : ∀ g, g ≠ P.gd → (w.setCell ⟨P.gd, x, none⟩ (.int .i64 v)).heap[g]? = w.heap[g]? := fun g hn => Below.heap_setCell w ⟨P.gd, x, none⟩ _ g hn
  have hRd : ∀ k, P.R k → k ≠ P.gd := fun k hk e => h.rd (e ▸ hk)
  refine ⟨(st _ n3).trans h.box, h.jobs.keep fun k hk => st k (hRd k hk), h.waits.keep (fun k hk => st k (hRd k hk)) (st _ n5), own_keep h.own fun g e => st g (h.ro g e).2.2.2.2, h.slots.of_block (st _ n6), (h.doing.set x _).congr fun i _ => ?_, fun k hk => by simpa using h.rlt k hk, h.rp, h.rs, h.rd, h.ro, h.ne, by simpa using h.le⟩
  unfold Gr.put
  split <;> rfl
end

set_option maxRecDepth 100000 in
set_option maxHeartbeats 1000000 in
theorem finish_any {J : Jb} {m : Nat} {P : PlanB} {w : World} {ov : Value} {ol : List Nat} {D O : Nat → Bool} {Bg Wk : Nat → Nat} {dg : Nat → Int} {t : Nat} (h : PlanAt J m P w ov ol (lfO J O) Bg Wk dg) (F : Fin J m t D Bg Wk O dg ol 0) (hR : J.Right) (hb : Beh J P.bh) (hnb : ¬ J.Big) (hm : m ≤ 16) (ht : t ≤ 200000) (hbp : P.base ≤ P.p ∧ P.base ≤ P.gl ∧ P.base ≤ P.gd) :
    Calls Try.prog 73 #[.pointer (some ⟨P.p, 0, none⟩), .int .i64 t] w fun e w' => e = .returned (.tuple #[]) ∧ ∃ ov' ol' O' dg', PlanAt J m P w' ov' ol' (lfO J O') Bg Wk dg' ∧ Fin J m t D Bg Wk O' dg' ol' m ∧ But (fun k => P.base ≤ k) w w' := by
  have p4 : w.cell? ⟨P.p, 4, none⟩ = some (.slice (some ⟨P.gd, 0, none⟩) m m) := cell_in h.box 4 _ rfl
  have hlen : ∀ i, i < J.n → (J.aft i).length ≤ 200 := fun i hi => Nat.le_of_not_lt fun h => hnb ⟨i, hi, .inr h⟩
  have hn := hR.few
  go_enter Try.func73, Try.ntmps73
  go_wp2_with fail
  clear p4
  go_loopw [11] (fun iv wr => ∃ (x : Nat) (ov : Value) (ol : List Nat) (O : Nat → Bool) (dg : Nat → Int), x ≤ m ∧ iv = .int .i64 x ∧ PlanAt J m P wr ov ol (lfO J O) Bg Wk dg ∧ Fin J m t D Bg Wk O dg ol x ∧ But (fun k => P.base ≤ k) w wr) (fun iv _ => m - (intOf iv).toNat)
  case atStart => exact ⟨0, ov, ol, O, dg, Nat.zero_le _, rfl, h, F, But.refl _ _⟩
  case round =>
    rename World => w3
    clear h F
    obtain ⟨x, ov, ol, O, dg, hx, rfl, h, F, hbt⟩ := hrel
    by_cases hxt : x < m
    · have c0 := h.doing.cell hxt
      rcases F.doing.some x hxt with hd | ⟨k, hd, hkn, hD, hO, hW⟩
      · rw [hd] at c0
        have HF : Hid (Fin J m t D Bg Wk O dg ol (x + 1)) := F.skip hd
        clear hd F hlen
        go_wp2_with fail
        go_roundw
        case rel => exact ⟨x + 1, ov, ol, O, dg, by omega, by go_num, h, HF.out, hbt⟩
        case measure => simp [intOf]; omega
      · rw [hd] at c0
        have hk1 : ((k : Int) != -1) = true := by simp
        have hk2 : ((k : Int) == -1) = false := by simp
        have hB := (F.part.at_ k hkn hD).2
        have KE := end_any h hR hkn (by omega)
        by_cases he : Bg k + J.gr.len k = t
        · rw [he] at KE
          have KO : ∀ W, PlanAt J m P W ov ol (lfO J O) Bg Wk (Gr.put dg x (-1)) → Calls Try.prog 71 #[.pointer (some ⟨P.q, 0, none⟩), .int .i64 k] W (OverRes W P.R J.n P.q P.gl P.gb (lfO J O) P.bv P.bh k) := fun W hW =>
            over_any W P.R J.n P.q P.gl P.gb (lfO J O) P.bv P.bh k hW.waits hkn (fun y hy => hb.lt hkn hy) (fun y => hb.le hkn hO y) hW.rlt (fun y hy => Nat.le_trans lf_le (hlen y hy)) (hb.few k hkn)
          have HF : Hid (∀ nl, Ov (lfO J O) (P.bh k) nl → Fin J m t D Bg Wk (Gr.put O k true) (Gr.put dg x (-1)) (ol ++ nl) (x + 1) ∧ ∀ y, y < J.n → lfO J (Gr.put O k true) y = lfO J O y - (P.bh k).count y) := fun nl ho => F.over_ hb hd hkn hD hO hW he ho (right_aft hR)
          have hle : ol.length ≤ J.n := by
            have := undone_list J ol F.openl.nd fun y hy => ((F.openl.mem y).1 hy).1
            omega
          clear F hd hlen hW hO hD he hB
          go_upto_region 4 with (go_at_call 107; refine KE.mono ?_; rintro r w4 ⟨rfl, q4, rfl⟩)
          have h4 := h.drew q4
          have p4 : (w3.drewN q4).cell? ⟨P.p, 4, none⟩ = some (.slice (some ⟨P.gd, 0, none⟩) m m) := cell_in h4.box 4 _ rfl
          have d4 := h4.doing.cell hxt
          have z4 := h4.doing.frozen x
          have y4 := h4.doing.lt
          have h5 := h4.setDoing x (-1)
          have hbt5 : But (fun k => P.base ≤ k) w ((w3.drewN q4).setCell ⟨P.gd, x, none⟩ (.int .i64 (-1))) := (hbt.trans (But.of_below (below_drewN w3 q4))).trans (But.set (F := fun k => P.base ≤ k) _ P.gd x _ hbp.2.2)
          go_upto_region 5 with fail
          obtain ⟨W0, hW0⟩ : ∃ X, (w3.drewN q4).setCell ⟨P.gd, x, none⟩ (.int .i64 (-1)) = X := ⟨_, rfl⟩
          rw [hW0] at h5 hbt5 ⊢
          clear hW0 h4 p4 d4 z4 y4 c0 h hbt KE
          obtain ⟨i0, hi0, hz0, hz1, hz2⟩ := info_parts Try.info_int
          have h5d : PlanAt J m P W0.drew ov ol (lfO J O) Bg Wk (Gr.put dg x (-1)) := h5.keep ⟨rfl, rfl, rfl, Nat.le_refl _, fun _ _ => rfl⟩
          have hpF : ¬ (P.p = P.gl ∨ ov.ownBlock = some P.p) := fun e => by
            rcases e with e | e
            · exact h5.ne.1 e
            · exact (h5.ro _ e).2.1 rfl
          have hplt : P.p < W0.heap.size := (Array.getElem?_eq_some_iff.1 h5.box).1
          have hP1 : ∀ W, But (fun k => k = P.gl ∨ ov.ownBlock = some k) W0 W → W.cell? ⟨P.p, 1, none⟩ = some (.pointer (some ⟨P.q, 0, none⟩)) := fun W hW => by
            rw [World.cell?_of_block (a := ⟨P.p, 1, none⟩) (hW.block _ hplt hpF)]
            exact cell_in h5.box 1 _ rfl
          have hP2 : ∀ W, But (fun k => k = P.gl ∨ ov.ownBlock = some k) W0 W → W.cell? ⟨P.p, 2, none⟩ = some ov := fun W hW => by
            rw [World.cell?_of_block (a := ⟨P.p, 2, none⟩) (hW.block _ hplt hpF)]
            exact h5.box_cell.1
          have H7 : ∀ W, But (fun k => k = P.gl ∨ ov.ownBlock = some k) W0 W → W.cell? ⟨P.p, 2, none⟩ = some ov ∧ W.frozen? ⟨P.p, 2, none⟩ = false := fun W hW => ⟨hP2 W hW, by
            rw [World.frozen?_of_block (a := ⟨P.p, 2, none⟩) (hW.block _ hplt hpF)]
            exact h5.box_cell.2⟩
          have B0 : But (fun k => k = P.gl ∨ ov.ownBlock = some k) W0 W0.drew := But.drew W0
          refine wp_region_E (fun w' => But (fun k => k = P.gl ∨ ov.ownBlock = some k) W0 w') 14 (by kernel_rfl) ?_
          refine wpAnyE_take (i := 0) (oi := ⟨_, _, _, _, _, none⟩) (v := ?vf1) rfl (by kernel_rfl) (fun _ _ _ h => h) (by rfl) ?yf1 B0 ?rf1
          case yf1 =>
            intro W hW
            go_simp
            all_goals with_reducible rfl
          try simp only [Act.put, List.setIfInBounds_toArray, List.set_cons_zero, List.set_cons_succ]
          refine wpAnyE_take (i := 1) (oi := ⟨_, _, _, _, _, none⟩) (v := ?vf2) rfl (by kernel_rfl) (fun _ _ _ h => h) (by rfl) ?yf2 B0 ?rf2
          case yf2 =>
            intro W hW
            go_simp
            all_goals with_reducible rfl
          try simp only [Act.put, List.setIfInBounds_toArray, List.set_cons_zero, List.set_cons_succ]
          refine wpAnyE_take (i := 2) (oi := ⟨_, _, _, _, _, none⟩) (v := ?vf3) rfl (by kernel_rfl) (fun _ _ _ h => h) (by rfl) ?yf3 B0 ?rf3
          case yf3 =>
            intro W hW
            go_simp
            all_goals with_reducible rfl
          try simp only [Act.put, List.setIfInBounds_toArray, List.set_cons_zero, List.set_cons_succ]
          refine wpAnyE_take (i := 3) (oi := ⟨_, _, _, _, _, none⟩) (v := ?vf4) rfl (by kernel_rfl) (fun _ _ _ h => h) (by rfl) ?yf4 B0 ?rf4
          case yf4 =>
            intro W hW
            go_simp
            all_goals with_reducible rfl
          try simp only [Act.put, List.setIfInBounds_toArray, List.set_cons_zero, List.set_cons_succ]
          refine wpAnyE_take (i := 4) (oi := ⟨_, _, _, _, _, none⟩) (v := ?vf5) rfl (by kernel_rfl) (fun _ _ _ h => h) (by rfl) ?yf5 B0 ?rf5
          case yf5 =>
            intro W hW
            have q1 := hP1 W hW
            have q2 := hP2 W hW
            go_simp
            all_goals with_reducible rfl
          try simp only [Act.put, List.setIfInBounds_toArray, List.set_cons_zero, List.set_cons_succ]
          refine wpAnyE_take (i := 5) (oi := ⟨_, _, _, _, _, none⟩) (v := ?vf6) rfl (by kernel_rfl) (fun _ _ _ h => h) (by rfl) ?yf6 B0 ?rf6
          case yf6 =>
            intro W hW
            go_simp
            all_goals with_reducible rfl
          try simp only [Act.put, List.setIfInBounds_toArray, List.set_cons_zero, List.set_cons_succ]
          refine wpAnyE_take (i := 6) (oi := ⟨_, _, _, _, _, none⟩) (v := ?vf7) rfl (by kernel_rfl) (fun _ _ _ h => h) (by rfl) ?yf7 B0 ?rf7
          case yf7 =>
            intro W hW
            go_simp
            all_goals with_reducible rfl
          try simp only [Act.put, List.setIfInBounds_toArray, List.set_cons_zero, List.set_cons_succ]
          refine wpAnyE_take (i := 7) (oi := ⟨_, _, _, _, _, none⟩) (v := ?vf8) rfl (by kernel_rfl) (fun _ _ _ h => h) (by rfl) ?yf8 B0 ?rf8
          case yf8 =>
            intro W hW
            go_simp
            all_goals with_reducible rfl
          try simp only [Act.put, List.setIfInBounds_toArray, List.set_cons_zero, List.set_cons_succ]
          refine wpAnyE_take (i := 8) (oi := ⟨_, _, _, _, _, none⟩) (v := ?vf9) rfl (by kernel_rfl) (fun _ _ _ h => h) (by rfl) ?yf9 B0 ?rf9
          case yf9 =>
            intro W hW
            have q1 := hP1 W hW
            have q2 := hP2 W hW
            go_simp
            all_goals with_reducible rfl
          try simp only [Act.put, List.setIfInBounds_toArray, List.set_cons_zero, List.set_cons_succ]
          refine wpAnyE_take (i := 9) (oi := ⟨_, _, _, _, _, none⟩) (v := ?vf10) rfl (by kernel_rfl) (fun _ _ _ h => h) (by rfl) ?yf10 B0 ?rf10
          case yf10 =>
            intro W hW
            go_simp
            all_goals with_reducible rfl
          try simp only [Act.put, List.setIfInBounds_toArray, List.set_cons_zero, List.set_cons_succ]
          -- 1 may come up: [10]: Op.call { callee := Callee.value (Operand.func 32), args := #[Operand.tmp 39, Operand.tmp 40], argTypes := #[43, 3] }
          refine wpAnyE_one (i := 10) (o := ⟨_, _, _, _, _, none⟩) (by kernel_rfl) rfl ?_
          intro K hK
          go_simp
          refine (KO _ h5d).mono ?_
          rintro r W1 ⟨v5, nl, rfl, hown5, hov5, hnl5, hW5, hb5⟩
          obtain ⟨na, nc, rfl, hn1, hn2, hn3⟩ := own_shape hown5
          have hs1 := hb5.size
          have hs0 : W0.heap.size = W0.drew.heap.size := rfl
          have B1 : But (fun k => k = P.gl ∨ ov.ownBlock = some k) W0 W1 := B0.trans (hb5.mono fun k _ e => .inl e)
          have hown1 : W1.ownsRow P.base 3 1 ov ol.length (ints ol) := own_keep h5d.own fun g e => hb5.block g (h5d.own.lt g e).2 (fun e2 => (h5.ro g e).2.2.1 e2)
          refine hK.out _ _ (fun _ => B1) (fun _ => ?_)
          clear hK K
          try simp only [Act.put, List.setIfInBounds_toArray, List.set_cons_zero, List.set_cons_succ]
          refine wpAnyE_one (i := 11) (o := ⟨_, _, _, _, _, none⟩) (by kernel_rfl) rfl ?_
          intro K hK
          refine step_append_any rfl (.tmp 35) (.tmp 41) 56 rfl P.base 3 i0 _ 1 8 Try.underlying56 hi0 hz0 hz1 hz2 rfl (by decide) ov ol.length (ints ol) rfl hown1 na nl.length nc (ints nl) rfl (by rw [ints_len, Nat.mul_one]) hn3 (own_src hown5) (ints_one nl) (by unfold maxLen; omega) (by omega) (by have := h5.le; omega) ?_
          intro v' w7 hown7 hg7 hat7
          have hsz7 := hg7.size
          have B2 : But (fun k => k = P.gl ∨ ov.ownBlock = some k) W0 w7 := B1.trans (But.grown hg7 fun g e _ => .inr e)
          obtain ⟨p7, z7⟩ := H7 w7 B2
          refine hK.out _ _ (fun _ => B2) (fun _ => ?_)
          clear hK K
          try simp only [Act.put, List.setIfInBounds_toArray, List.set_cons_zero, List.set_cons_succ]
          obtain ⟨a7, cap7, rfl, _, _, _⟩ := own_shape hown7
          -- 1 may come up: [12]: Op.nilCheck (Operand.tmp 31)
          refine wpAnyE_one (i := 12) (o := ⟨_, _, _, _, _, none⟩) (by kernel_rfl) rfl ?_
          intro K hK
          go_simp
          refine hK.out _ _ (fun _ => B2) (fun _ => ?_)
          clear hK K
          try simp only [Act.put, List.setIfInBounds_toArray, List.set_cons_zero, List.set_cons_succ]
          refine wpAnyE_take (i := 13) (oi := ⟨_, _, _, _, _, none⟩) (v := ?vf11) rfl (by kernel_rfl) (fun _ _ _ h => h) (by rfl) ?yf11 B2 ?rf11
          case yf11 =>
            intro W hW
            go_simp
            all_goals with_reducible rfl
          try simp only [Act.put, List.setIfInBounds_toArray, List.set_cons_zero, List.set_cons_succ]
          -- 1 may come up: [14]: Op.store 36 (Operand.tmp 44) (Operand.tmp 42)
          refine wpAnyE_one (i := 14) (o := ⟨_, _, _, _, _, none⟩) (by kernel_rfl) rfl ?_
          intro K hK
          go_simp
          refine hK.out _ _ (fun h => absurd rfl h) (fun _ => ?_)
          clear hK K
          try simp only [Act.put, List.setIfInBounds_toArray, List.set_cons_zero, List.set_cons_succ]
          refine wpAnyE_done (by kernel_rfl) ?_ _
          try simp only [Act.put]
          obtain ⟨hF7, hL7⟩ := HF.out nl hov5
          have hW7 : WaitsAt w7 P.R J.n P.q P.gl P.gb (lfO J (Gr.put O k true)) P.bv P.bh := by
            have hw := hW5.keep (w' := w7) (fun j hj => hg7.block j (by have := h5.rlt j hj; omega) (fun e => (h5.ro j e.symm).1 hj)) (hg7.block P.gl hW5.left.lt (fun e => (h5.ro _ e.symm).2.2.1 rfl))
            exact ⟨hw.box, hw.left.congr fun y hy => by rw [hL7 y hy], hw.row, hw.own, hw.rq, hw.rb, hw.rv, hw.out⟩
          have hown7' : w7.ownsRow P.base 3 1 (.slice a7 (ol.length + nl.length) cap7) (ol ++ nl).length (ints (ol ++ nl)) := by
            unfold ints at hown7 ⊢
            rw [List.length_append, List.map_append]
            exact hown7
          have hP7 := h5.reopen B2 (fun k e => e.symm) hW7 hown7' (fun g e => by
            rcases hat7 with e2 | e2
            · exact h5.ro g (e2 ▸ e)
            · have e3 : g = W1.heap.size := Option.some.inj (e.symm.trans e2)
              have l1 := h5.waits.left.lt
              have l2 := h5.slots.lt
              have l3 := h5.doing.lt
              exact ⟨fun hr => by have := h5.rlt g hr; omega, by omega, by omega, by omega, by omega⟩)
          have hbt7 : But (fun k => P.base ≤ k) w (w7.setCell ⟨P.p, 2, none⟩ (.slice a7 (ol.length + nl.length) cap7)) := (hbt5.trans (B2.mono fun k _ e => by
            rcases e with e | e
            · omega
            · exact (h5.own.lt k e).1)).trans (But.set (F := fun k => P.base ≤ k) w7 P.p 2 _ hbp.1)
          have HF7 : Hid (Fin J m t D Bg Wk (Gr.put O k true) (Gr.put dg x (-1)) (ol ++ nl) (x + 1)) := hF7
          clear hF7 hL7 HF h5 h5d hW7 hW5 hown7 hown7' hown5 hown1 hg7 hat7 hP1 hP2 H7 B0 B1 B2 hb5 p7 z7 KO hbt5 hov5
          go_wp2_with fail
          go_roundw
          case rel => exact ⟨x + 1, _, ol ++ nl, _, _, by omega, by go_num, hP7, HF7.out, hbt7⟩
          case measure => simp [intOf]; omega
        · obtain ⟨e, hee⟩ : ∃ e : Nat, Bg k + J.gr.len k = e := ⟨_, rfl⟩
          rw [hee] at KE
          have hd3 : ((e : Int) == (t : Int)) = false := by simp; omega
          have HF : Hid (Fin J m t D Bg Wk O dg ol (x + 1)) := F.later hd hkn hD hO he
          clear F hd hlen hW hO hD he hB hee
          go_wp2_with (go_at_call 107; refine KE.mono ?_; rintro r w4 ⟨rfl, q4, rfl⟩)
          go_roundw
          case rel => exact ⟨x + 1, ov, ol, O, dg, by omega, by go_num, h.drew q4, HF.out, hbt.trans (But.of_below (below_drewN w3 q4))⟩
          case measure => simp [intOf]; omega
    · obtain rfl : x = m := by omega
      have HF : Hid (Fin J x t D Bg Wk O dg ol x) := F
      clear F
      go_wp2_with fail
      go_end0
      exact ⟨rfl, ov, ol, O, dg, h, HF.out, hbt⟩

#print axioms finish_any
end Go.Proofs.Ytgmemndjclhheae
