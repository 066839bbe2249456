/-
  The document's list of things: each that is looked at, in their order.
-/
import Derived.Test.YtmpamcdobhiipaaGreatDoorRgToTm
import Derived.Test.YtmpamcdobhiipaaGreatDoorIm7ToTc
namespace Go.Proofs.YtmpamcdobhiipaaGreatDoor
open Go.RowKit
attribute [local go_sem ↓] Go.wp_at_zero Go.wp_at_succ

theorem step_append_lcT {P : Program} {ops : Array Oper} {o : Oper} {a : Act} {w : World} {K : Act → World → Prop} {Q : Exit → Act → World → Prop} {E : Prop} (hgd : o.guard = none) (s x : Operand) (t : TypeId)
    (ho : o.op = .call { callee := .builtin .append, args := #[s, x], argTypes := #[t, t] })
    (base : Nat) (e : TypeId) (i : TypeInfo) (z : Value) (size bytes : Nat) (ht : P.underlying t = some (.slice e)) (hi : P.info? e = some i) (hz : i.zero = some z)
    (hsize : i.size = size) (hby : i.bytes = bytes) (hzs : z.cells.size = size) (hsz : 0 < size)
    (v : Value) (n : Nat) (xs : List Value) (hs : a.eval s = v) (hown : w.ownsRow base e size v n xs) (u : Value) (m : Nat) (cs : List Value) (hx : a.eval x = u) (hu : LC w u size m cs) (h1 : ∀ u ∈ cs, u.oneCell' = true)
    (h63 : n + m ≤ maxLen) (hbytes : (n + m) * bytes ≤ 140737488355328) (hbase : base ≤ w.heap.size)
    (h : ∀ v' w', w'.ownsRow base e size v' (n + m) (xs ++ cs) → w.grownBy w' v.ownBlock → K (a.put o.dst v') w') : if Region.wanted o (yielded ops a.tmps) = true then Oper.wp P o a w K Q else E := by
  have hw : Region.wanted o (yielded ops a.tmps) = true := by simp [Region.wanted, hgd]
  rw [if_pos hw]
  obtain ⟨v', w', hr, h2, h3⟩ := run_append_lc (P := P) w base t o.type e i z size bytes ht hi hz hsize hby hzs hsz v n xs hown u m cs hu h1 h63 hbytes hbase
  unfold Oper.wp execOp
  simp only [ho, resolve, invoke, builtin, Sem.run_bind, Sem.run_pure, Result.andThen_ok, List.map_toArray, List.map_cons, List.map_nil, hs, hx, hr]
  exact h v' w' h2 h3
namespace ST
theorem lc_one (W : World) (b : Bool) : LC (W.alloc (.cells #[.bool b] 4)) (.slice (some ⟨W.heap.size, 0, none⟩) 1 1) 1 1 (bvs [b]) := lc_row (heap_alloc_new W _) rfl 1 (Nat.le_refl _)
theorem lc_four (W : World) (b1 b2 b3 b4 : Bool) : LC (W.alloc (.cells #[.bool b1, .bool b2, .bool b3, .bool b4] 4)) (.slice (some ⟨W.heap.size, 0, none⟩) 4 4) 1 4 (bvs [b1, b2, b3, b4]) := lc_row (heap_alloc_new W _) rfl 4 (Nat.le_refl _)
def ThPost (w : World) (s : Stt) (e : Ending) (w' : World) : Prop := ∃ x l, e = .returned x ∧ BL w' x l ∧ l.findIdx? (fun b => !b) = ff s ∧ l.length ≤ 4294967296 ∧ Up w w'
theorem th_post {w w' : World} {s : Stt} {x : Value} {l : List Bool} (h : LC w' x 1 l.length (bvs l)) (hl : l = thL s) (u : Up w w') : ThPost w s (.returned x) w' := by
  subst hl
  exact ⟨x, _, rfl, h, thL_ff s, by have := thL_len s; omega, u⟩
theorem TI.post {w W : World} {box : Array Value} {v : Value} {q : Nat} {l : List Bool} {s : Stt} (h : TI w W box v q l) (hl : l = thL s) : ThPost w s (.returned v) W := by
  obtain ⟨-, h2, h3, -, h5⟩ := h
  subst h5
  exact th_post (own_lc h2) hl h3
theorem th_end1 (s : Stt) (hs : sizesB s = true) (k : Nat) (hg : good s.cs.length (flat s) = k) (hk : k < (flat s).length) : thA s ++ (List.replicate k true ++ [false]) = thL s := by
  unfold thL thT
  rw [if_neg (by rw [hs]; simp), hg, if_pos hk]
theorem th_end2 (s : Stt) (hs : sizesB s = true) (k : Nat) (hg : good s.cs.length (flat s) = k) (hk : ¬ k < (flat s).length) : thA s ++ (List.replicate k true ++ [decide (s.cs.length ≤ k), decide (1 ≤ s.turn), numB s.whose s.ps.length, finB s, winB s]) = thL s := by
  unfold thL thT
  rw [if_neg (by rw [hs]; simp), hg, if_neg hk]
theorem ncB_from (m : Nat) : fromB m 1 256 = ncB m := by
  simp only [fromB, ncB]
  congr 1 <;> (apply decide_eq_decide.2; omega)
theorem npB_from (m : Nat) : fromB m 2 4 = npB m := by
  simp only [fromB, npB]
  congr 1 <;> (apply decide_eq_decide.2; omega)
set_option maxRecDepth 100000 in
set_option maxHeartbeats 4000000 in
theorem things_bad (s : Stt) (hsm : Small s) (hb : sizesB s = false) (v : Value) (w : World) (hs : StL w v s) : Calls Tryz.prog 54 #[v] w (ThPost w s) := by
  obtain ⟨vp, vc, vz, rfl, h1, h2, h3⟩ := hs
  obtain ⟨a1, k1, rfl, -, -⟩ := lc_at h1
  obtain ⟨a2, k2, rfl, -, -⟩ := lc_at h2
  obtain ⟨a3, k3, rfl, -, -⟩ := zl_at h3
  obtain ⟨Post, hPost⟩ : ∃ P : Ending → World → Prop, P = ThPost w s := ⟨_, rfl⟩
  have HE : Hid (∀ c t, Post (.returned (.slice (some ⟨w.heap.size + 1, 0, none⟩) 1 1)) ((w.alloc (.cells c t)).alloc (.cells #[.bool false] 4))) := fun c t => by
    have h := lc_one (w.alloc (.cells c t)) false
    rw [show (w.alloc (.cells c t)).heap.size = w.heap.size + 1 by simp] at h
    rw [hPost]; exact th_post (l := [false]) h (by rw [thL, if_pos hb]) (((Up.refl _).alloc _).alloc _)
  rw [← hPost]
  obtain ⟨n1, n2, n3, -⟩ := hsm
  simp only [sizesB, ← npB_from, ← ncB_from] at hb
  clear h1 h2 h3 hPost
  unfold sv
  generalize s.turn = tu
  generalize s.whose = wo
  generalize s.fin = fi
  generalize s.winner = wi
  generalize s.ps.length = n at *
  generalize s.cs.length = m at *
  generalize s.zs.length = z at *
  cases q1 : fromB n 2 4
  · clear hb
    go_enter Tryz.func54, Tryz.ntmps54
    go_wp2_with fail
    refine Calls.mono (rfromB _ 2 4 false q1 _) ?_
    rintro e w1 ⟨rfl, rfl⟩
    go_wp2
    exact HE.out _ _
  · cases q2 : fromB m 1 256
    · clear hb
      go_enter Tryz.func54, Tryz.ntmps54
      go_wp2_with fail
      refine Calls.mono (rfromB _ 2 4 true q1 _) ?_
      rintro e w1 ⟨rfl, rfl⟩
      go_wp2_with fail
      refine Calls.mono (rfromB _ 1 256 false q2 _) ?_
      rintro e w2 ⟨rfl, rfl⟩
      go_wp2
      exact HE.out _ _
    · rw [q1, q2] at hb
      simp only [Bool.true_and, decide_eq_false_iff_not] at hb
      have hb2 : ((z : Int) == 4 * (n : Int)) = false := beq_eq_false_iff_ne.2 (by omega)
      clear hb
      go_enter Tryz.func54, Tryz.ntmps54
      go_wp2_with fail
      refine Calls.mono (rfromB _ 2 4 true q1 _) ?_
      rintro e w1 ⟨rfl, rfl⟩
      go_wp2_with fail
      refine Calls.mono (rfromB _ 1 256 true q2 _) ?_
      rintro e w2 ⟨rfl, rfl⟩
      go_wp2
      exact HE.out _ _
set_option maxRecDepth 100000 in
set_option maxHeartbeats 8000000 in
theorem things_good (s : Stt) (hsm : Small s) (hfl : (flat s).length ≤ 4294967296) (hb : sizesB s = true) (v : Value) (w : World) (hs : StL w v s) : Calls Tryz.prog 54 #[v] w (ThPost w s) := by
  obtain ⟨iB, hiB, b0, b1, b2⟩ := info_parts infoB
  have HS : Hid (StL w v s) := hs
  obtain ⟨vp, vc, vz, rfl, h1, h2, h3⟩ := hs
  obtain ⟨a1, k1, rfl, -, c1⟩ := pl_at h1
  obtain ⟨a2, k2, rfl, -, c2⟩ := cl_at h2
  obtain ⟨a3, k3, rfl, -, -⟩ := zl_at h3
  obtain ⟨Post, hPost⟩ : ∃ P : Ending → World → Prop, P = ThPost w s := ⟨_, rfl⟩
  have HP : Hid (Post = ThPost w s) := hPost
  have HSm : Hid (Small s ∧ (flat s).length ≤ 4294967296 ∧ sizesB s = true) := ⟨hsm, hfl, hb⟩
  rw [← hPost]
  obtain ⟨n1, n2, n3, -⟩ := hsm
  simp only [sizesB, npB, ncB, Bool.and_eq_true, decide_eq_true_eq] at hb
  obtain ⟨⟨⟨hn1, hn2⟩, hm1, hm2⟩, hz4⟩ := hb
  have HC1 : Hid _ := c1
  have HC2 : Hid _ := c2
  clear h1 h2 h3 hPost hfl c1 c2
  unfold sv at HS ⊢
  obtain ⟨n, hn⟩ : ∃ n, n = s.ps.length := ⟨_, rfl⟩
  obtain ⟨m, hm⟩ : ∃ n, n = s.cs.length := ⟨_, rfl⟩
  obtain ⟨z, hz⟩ : ∃ n, n = s.zs.length := ⟨_, rfl⟩
  rw [← hn] at n1 hn1 hn2 hz4 HC1 HS ⊢
  rw [← hm] at n2 hm1 hm2 HC2 HS ⊢
  rw [← hz] at n3 hz4 HS ⊢
  have HN : Hid (n = s.ps.length ∧ m = s.cs.length) := ⟨hn, hm⟩
  clear hn hm hz
  obtain ⟨tu, htu⟩ : ∃ n, n = s.turn := ⟨_, rfl⟩
  obtain ⟨wo, hwo⟩ : ∃ n, n = s.whose := ⟨_, rfl⟩
  obtain ⟨fi, hfi⟩ : ∃ n, n = s.fin := ⟨_, rfl⟩
  obtain ⟨wi, hwi⟩ : ∃ n, n = s.winner := ⟨_, rfl⟩
  rw [← htu, ← hwo, ← hfi, ← hwi] at HS ⊢
  have HV : Hid (tu = s.turn ∧ wo = s.whose ∧ fi = s.fin ∧ wi = s.winner) := ⟨htu, hwo, hfi, hwi⟩
  clear htu hwo hfi hwi
  have q1 : fromB n 2 4 = true := by rw [npB_from]; simp [npB]; omega
  have q2 : fromB m 1 256 = true := by rw [ncB_from]; simp [ncB]; omega
  have hb2 : ((z : Int) == 4 * (n : Int)) = true := by rw [beq_iff_eq]; omega
  have hz5 : z ≤ 16 := by omega
  clear hz4
  go_enter Tryz.func54, Tryz.ntmps54
  go_wp2_with fail
  refine Calls.mono (rfromB _ 2 4 true q1 _) ?_
  rintro e w1 ⟨rfl, rfl⟩
  go_wp2_with fail
  refine Calls.mono (rfromB _ 1 256 true q2 _) ?_
  rintro e w2 ⟨rfl, rfl⟩
  go_wp2_with fail
  obtain ⟨box, hbox⟩ : ∃ b : Array Value, b = #[.slice a1 n k1, .slice a2 m k2, .slice a3 z k3, .int .i32 tu, .int .i64 wo, .int .i8 fi, .int .i64 wi] := ⟨_, rfl⟩
  have HB : Hid (box = #[.slice a1 n k1, .slice a2 m k2, .slice a3 z k3, .int .i32 tu, .int .i64 wo, .int .i8 fi, .int .i64 wi]) := hbox
  obtain ⟨W1, hW1⟩ : ∃ W, W = (w.alloc (.cells #[.slice a1 n k1, .slice a2 m k2, .slice a3 z k3, .int .i32 tu, .int .i64 wo, .int .i8 fi, .int .i64 wi] 30)).alloc (.cells #[.bool true] 4) := ⟨_, rfl⟩
  have HI : Hid (TI w W1 box (.slice (some ⟨w.heap.size + 1, 0, none⟩) 1 1) 1 [true]) := by
    rw [hW1, hbox]
    refine ⟨?_, ⟨rfl, .inr ⟨w.heap.size + 1, 1, #[.bool true], rfl, Nat.le_refl _, ?_, Nat.le_refl _, by unfold maxLen; omega, rfl, rfl⟩⟩, ((Up.refl _).alloc _).alloc _, by simp, rfl⟩
    · rw [Below.heap_alloc _ _ _ (by simp)]; exact heap_alloc_new w _
    · have := heap_alloc_new (w.alloc (.cells #[.slice a1 n k1, .slice a2 m k2, .slice a3 z k3, .int .i32 tu, .int .i64 wo, .int .i8 fi, .int .i64 wi] 30)) (.cells #[.bool true] 4)
      simpa using this
  rw [hW1] at HI
  clear hbox hW1 q1 q2 hb2 hz5
  go_loopw [5, 6] (fun s5 s6 W => ∃ (i q : Nat) (va : Option Addr) (vk : Nat), i ≤ n ∧ s6 = .int .i64 i ∧ s5 = .slice va q vk ∧ q = 1 + i ∧ TI w W box (.slice va q vk) q (true :: (s.ps.take i).map plyB)) (fun _ s6 _ => n - (intOf s6).toNat)
  case atStart => exact ⟨0, 1, _, _, Nat.zero_le _, rfl, rfl, rfl, HI.out⟩
  case round =>
    obtain ⟨i, q, va, vk, hi, rfl, rfl, hq, ht⟩ := hrel
    clear HI
    have HQ : Hid (q = 1 + i) := hq
    have hqb : q ≤ 5 := by omega
    have HT : Hid (TI w wr box (.slice va q vk) q (true :: (s.ps.take i).map plyB)) := ht
    have hbx := ht.1
    rw [HB.out] at hbx
    obtain ⟨y0, y1, y2, y3, y4, y5, y6⟩ := seven_cells hbx
    clear ht hbx hq
    by_cases hlt : i < n
    · have hlt2 : (i : Int) < (n : Int) := by omega
      obtain ⟨bb, o, rfl, hcell⟩ := HC1.out (by omega)
      obtain ⟨x0, x1, -⟩ := hcell wr HT.out.2.2.1 i hlt
      have HLs : Hid ((true :: (s.ps.take i).map plyB) ++ [statB (s.ps.getD i dp).life && statB (s.ps.getD i dp).energy] = true :: (s.ps.take (i + 1)).map plyB) := by
        unfold Hid
        have hl := HN.out.1
        rw [List.take_add_one, List.map_append, List.getElem?_eq_getElem (by omega), List.getD_eq_getElem?_getD, List.getElem?_eq_getElem (by omega)]
        rfl
      generalize (true :: (s.ps.take i).map plyB) = l at HT HLs
      generalize (s.ps.getD i dp).life = li at x0 HLs
      generalize (s.ps.getD i dp).energy = en at x1 HLs
      have HA : Hid (∀ b, TI w (wr.alloc (.cells #[.bool b] 4)) box (.slice va q vk) q l) := fun b => TI.up HT.out ((Up.refl _).alloc _)
      clear hcell
      cases e1 : statB li
      · rw [e1, Bool.false_and] at HLs
        go_wp2_with fail
        refine Calls.mono (rStatB _ false e1 _) ?_
        rintro e w1 ⟨rfl, rfl⟩
        go_wp2_with (at_builtin; (refine wpList_append_lc (by rfl) (.tmp 45) (.tmp 62) 96 (by rfl) (w.heap.size + 1) 4 iB (.bool false) 1 1 Tryz.underlying96 hiB b0 b1 b2 (by rfl) (by decide) (.slice va q vk) q (bvs (l)) (by rfl) (HA.out false).2.1 (.slice (some ⟨w1.heap.size, 0, none⟩) 1 1) 1 (bvs [false]) (by rfl) (lc_one _ _) (bvs_one _) (by unfold maxLen; omega) (by omega) (HA.out false).2.2.2.1 ?_; intro v5 w5 hin hg1; have HT5 : Hid _ := TI.more (bs := [false]) (HA.out false) hin hg1 rfl; obtain ⟨xa5, xk5, hx5⟩ := row_val hin; subst hx5; clear hin hg1))
        go_roundw
        case rel => exact ⟨i + 1, q + 1, xa5, xk5, by omega, by go_num, rfl, by have := HQ.out; omega, by rw [← HLs.out]; exact HT5.out⟩
        case measure => simp [intOf]; omega
      · rw [e1, Bool.true_and] at HLs
        go_wp2_with fail
        refine Calls.mono (rStatB _ true e1 _) ?_
        rintro e w1 ⟨rfl, rfl⟩
        go_wp2_with fail
        refine Calls.mono (rStat_ _ _) ?_
        rintro e w1 ⟨rfl, rfl⟩
        generalize statB en = b at HLs ⊢
        go_wp2_with (at_builtin; (refine wpList_append_lc (by rfl) (.tmp 45) (.tmp 62) 96 (by rfl) (w.heap.size + 1) 4 iB (.bool false) 1 1 Tryz.underlying96 hiB b0 b1 b2 (by rfl) (by decide) (.slice va q vk) q (bvs (l)) (by rfl) (HA.out b).2.1 (.slice (some ⟨w1.heap.size, 0, none⟩) 1 1) 1 (bvs [b]) (by rfl) (lc_one _ _) (bvs_one _) (by unfold maxLen; omega) (by omega) (HA.out b).2.2.2.1 ?_; intro v5 w5 hin hg1; have HT5 : Hid _ := TI.more (bs := [b]) (HA.out b) hin hg1 rfl; obtain ⟨xa5, xk5, hx5⟩ := row_val hin; subst hx5; clear hin hg1))
        go_roundw
        case rel => exact ⟨i + 1, q + 1, xa5, xk5, by omega, by go_num, rfl, by have := HQ.out; omega, by rw [← HLs.out]; exact HT5.out⟩
        case measure => simp [intOf]; omega
    · have hlt2 : ¬ (i : Int) < (n : Int) := by omega
      have HT2 : Hid (TI w wr box (.slice va q vk) q ((true :: s.ps.map plyB) ++ (s.cs.take 0).map (crdB n))) := by
        unfold Hid
        have := HT.out
        rw [List.take_of_length_le (by have := HN.out.1; omega)] at this
        simpa using this
      have HQ2 : Hid (q = 1 + n + 0) := by have := HQ.out; unfold Hid; omega
      clear HT HQ y0 y1 y2 y3 y4 y5 y6
      go_wp2_with fail
      go_loopw [5, 7] (fun s5 s7 W => ∃ (i q : Nat) (va : Option Addr) (vk : Nat), i ≤ m ∧ s7 = .int .i64 i ∧ s5 = .slice va q vk ∧ q = 1 + n + i ∧ TI w W box (.slice va q vk) q ((true :: s.ps.map plyB) ++ (s.cs.take i).map (crdB n))) (fun _ s7 _ => m - (intOf s7).toNat)
      case atStart => exact ⟨0, q, _, _, Nat.zero_le _, rfl, rfl, HQ2.out, HT2.out⟩
      case round =>
        clear HT2 HQ2 hqb hlt2 hlt hi
        obtain ⟨i, q, va, vk, hi, rfl, rfl, hq, ht⟩ := hrel
        have HQ : Hid (q = 1 + n + i) := hq
        have hqb : q ≤ 261 := by omega
        have HT : Hid (TI w wr box (.slice va q vk) q ((true :: s.ps.map plyB) ++ (s.cs.take i).map (crdB n))) := ht
        have hbx := ht.1
        rw [HB.out] at hbx
        obtain ⟨y0, y1, y2, y3, y4, y5, y6⟩ := seven_cells hbx
        clear ht hbx hq
        by_cases hlt : i < m
        · have hlt2 : (i : Int) < (m : Int) := by omega
          obtain ⟨bb, o, rfl, hcell⟩ := HC2.out (by omega)
          obtain ⟨x0, x1, x2, x3, x4, x5⟩ := hcell wr HT.out.2.2.1 i hlt
          have HLs : Hid (((true :: s.ps.map plyB) ++ (s.cs.take i).map (crdB n)) ++ [crdB n (s.cs.getD i dc)] = (true :: s.ps.map plyB) ++ (s.cs.take (i + 1)).map (crdB n)) := by
            unfold Hid
            have hl := HN.out.2
            rw [List.take_add_one, List.map_append, List.getElem?_eq_getElem (by omega), List.getD_eq_getElem?_getD, List.getElem?_eq_getElem (by omega), List.append_assoc]
            rfl
          generalize ((true :: s.ps.map plyB) ++ (s.cs.take i).map (crdB n)) = l at HT HLs
          generalize s.cs.getD i dc = c at x0 x1 x2 x3 x4 x5 HLs
          clear hcell
          go_wp2_with fail
          refine Calls.mono (rcard_ c n (by omega) _) ?_
          rintro e w1 ⟨rfl, u1⟩
          generalize crdB n c = b at HLs ⊢
          have HA : Hid (∀ b, TI w (w1.alloc (.cells #[.bool b] 4)) box (.slice va q vk) q l) := fun b => TI.up HT.out (u1.alloc _)
          clear u1
          go_wp2_with (at_builtin; (refine wpList_append_lc (by rfl) (.tmp 69) (.tmp 77) 96 (by rfl) (w.heap.size + 1) 4 iB (.bool false) 1 1 Tryz.underlying96 hiB b0 b1 b2 (by rfl) (by decide) (.slice va q vk) q (bvs (l)) (by rfl) (HA.out b).2.1 (.slice (some ⟨w1.heap.size, 0, none⟩) 1 1) 1 (bvs [b]) (by rfl) (lc_one _ _) (bvs_one _) (by unfold maxLen; omega) (by omega) (HA.out b).2.2.2.1 ?_; intro v5 w5 hin hg1; have HT5 : Hid _ := TI.more (bs := [b]) (HA.out b) hin hg1 rfl; obtain ⟨xa5, xk5, hx5⟩ := row_val hin; subst hx5; clear hin hg1))
          go_roundw
          case rel => exact ⟨i + 1, q + 1, xa5, xk5, by omega, by go_num, rfl, by have := HQ.out; omega, by rw [← HLs.out]; exact HT5.out⟩
          case measure => simp [intOf]; omega
        · have hlt2 : ¬ (i : Int) < (m : Int) := by omega
          obtain ⟨A, hA0⟩ : ∃ A, A = thA s := ⟨_, rfl⟩
          have HA0 : Hid (A = thA s ∧ A.length = 1 + n + m) := ⟨hA0, by rw [hA0, thA]; simp only [List.length_cons, List.length_append, List.length_map]; have := HN.out; omega⟩
          have HT2 : Hid (TI w wr box (.slice va q vk) q A) := by
            unfold Hid
            have := HT.out
            rw [List.take_of_length_le (by have := HN.out.2; omega)] at this
            rw [hA0, thA, ← HN.out.1]
            exact this
          have HQ2 : Hid (q = 1 + n + m) := by have := HQ.out; unfold Hid; omega
          clear HT HQ y0 y1 y2 y3 y4 y5 y6 hA0
          have HMk : Hid (∀ w3, Up wr w3 → w3.heap[wr.heap.size]? = some (.cells (madeCells (Value.bool false).cells (m * 1)).toList.toArray 4 (0, 0)) → w.heap.size + 1 ≤ wr.heap.size ∧ TI w w3 box (.slice va q vk) q A ∧ w3.heap[wr.heap.size]? = some (.cells (seenM m (flat s) 0) 4 (0, 0))) := fun w3 u3 hst => by
            rw [show (madeCells (Value.bool false).cells (m * 1)).toList = List.replicate m (Value.bool false) from by rw [Nat.mul_one]; exact toList_madeCells_one _ _, seenM_zero m (flat s)] at hst
            exact ⟨HT2.out.2.2.2.1, TI.up HT2.out u3, hst⟩
          clear HT2
          go_wp2_with (at_make; (refine wpList_make_full _ rfl _ _ 96 rfl wr.heap.size 4 iB _ 1 Tryz.underlying96 hiB b0 b1 .i64 .i64 _ _ m rfl rfl rfl rfl (by rw [b2]; omega) (by unfold maxLen; omega) (Nat.le_refl _) ?_; intro w3 hin hg1; have HG : Hid _ := HMk.out w3 (made_up hg1) (row_made hin); have hbx := HG.out.2.1.1; rw [HB.out] at hbx; obtain ⟨y0, y1, y2, y3, y4, y5, y6⟩ := seven_cells hbx; clear hin hg1 hbx HMk))
          obtain ⟨g, hg⟩ : ∃ g, g = wr.heap.size := ⟨_, rfl⟩
          rw [← hg] at HG ⊢
          clear hg
          have HEn := entries_ _ s w3 (HS.out.up HG.out.2.1.2.2.1) HSm.out.1.2.2.1 HSm.out.2.1 HSm.out.1.2.2.2
          refine Calls.mono HEn ?_
          rintro e w4 ⟨x, rfl, hx, u4⟩
          clear HEn
          obtain ⟨la, lk, hxv⟩ := row_val hx
          subst hxv
          obtain ⟨L, hL⟩ : ∃ l, l = flat s := ⟨_, rfl⟩
          rw [← hL] at hx HG ⊢
          obtain ⟨p, hp⟩ : ∃ p, p = L.length := ⟨_, rfl⟩
          have HL : Hid (L = flat s ∧ p = L.length) := ⟨hL, hp⟩
          have hp2 : p ≤ 4294967296 := by rw [hp, hL]; exact HSm.out.2.1
          have HT3 : Hid (T3 w w4 box (.slice va q vk) q A g m la L 0 []) := by
            refine ⟨?_, u4.heap HG.out.2.2, el_of hx, fun j hj => by omega, by rw [HA0.out.2]; omega, HG.out.1⟩
            have := TI.up HG.out.2.1 u4
            simpa using this
          rw [← hp] at ⊢
          have HQ3 : Hid (q = 1 + n + m + 0) := HQ2.out
          clear hx u4 HG hL hp HQ2 y0 y1 y2 y3 y4 y5 y6
          go_wp2_with fail
          go_loopw [5, 10, 11] (fun s5 s10 s11 W => ∃ (k q : Nat) (va : Option Addr) (vk : Nat), k ≤ p ∧ s10 = .int .i64 k ∧ s5 = .slice va q vk ∧ q = 1 + n + m + k ∧ T3 w W box (.slice va q vk) q A g m la L k []) (fun _ s10 _ _ => p - (intOf s10).toNat)
          case atStart => exact ⟨0, q, _, _, Nat.zero_le _, rfl, rfl, HQ3.out, HT3.out⟩
          case round =>
            clear HT3 HQ3 hqb hlt2 hlt hi
            obtain ⟨k, q, va, vk, hk, rfl, rfl, hq, ht⟩ := hrel
            have hkm : k ≤ m := good_small m L k (by rw [← HL.out.2]; exact hk) ht.2.2.2.1
            have HQ : Hid (q = 1 + n + m + k) := hq
            have hqb : q ≤ 517 := by omega
            have HT : Hid (T3 w wr box (.slice va q vk) q A g m la L k []) := ht
            clear ht hq
            by_cases hlt : k < p
            · have hlt2 : (k : Int) < (p : Int) := by omega
              have hkL : k < L.length := by rw [← HL.out.2]; exact hlt
              obtain ⟨gl, rfl, x1⟩ := EL.at HT.out.2.2.1 k hkL
              have HX : Hid (∀ W, EL W (some ⟨gl, 0, none⟩) L → W.cell? ⟨gl, k, none⟩ = some (.int .i64 (L.getD k 0))) := fun W h => by
                obtain ⟨gl', e, h⟩ := EL.at h k hkL
                cases e
                exact h
              have hent : L[k]? = some (L.getD k 0) := by rw [List.getD_eq_getElem?_getD, List.getElem?_eq_getElem hkL]; rfl
              have HE : Hid (L[k]? = some (L.getD k 0)) := hent
              have HO : Hid (okAt m L k = (numB (L.getD k 0) m && !(L.take k).contains (L.getD k 0))) := by unfold Hid; rw [okAt, hent]
              have HF : Hid (okAt m L k = false → ∀ W v, T3 w W box v (q + 1) A g m (some ⟨gl, 0, none⟩) L k [false] → Post (.returned v) W) := fun ho W v h => by
                have hg := good_at m L k (by omega) HT.out.2.2.2.1 (fun _ => ho)
                rw [HP.out]
                refine TI.post h.1 ?_
                have h1 := HL.out.1
                have h2 := HN.out.2
                subst h1 h2
                rw [HA0.out.1]
                exact th_end1 s HSm.out.2.2 k hg hkL
              have HA : Hid (∀ b, T3 w (wr.alloc (.cells #[.bool b] 4)) box (.slice va q vk) q A g m (some ⟨gl, 0, none⟩) L k []) := fun b => T3.up HT.out ((Up.refl _).alloc _)
              clear hent
              generalize L.getD k 0 = x at x1 HX HE HO
              have hfr : fromB x 0 ((m : Int) - 1) = numB x m := from_num x m
              cases hnb : numB x m
              · have HF2 : Hid _ := HF.out (by rw [HO.out, hnb]; rfl)
                have hfr2 : fromB x 0 ((m : Int) - 1) = false := hfr.trans hnb
                clear HF HO hfr HE HX
                go_wp2_with fail
                refine Calls.mono (rfromB _ 0 _ false hfr2 _) ?_
                rintro e w1 ⟨rfl, rfl⟩
                go_wp2_with (at_builtin; (refine wpList_append_lc (by rfl) (.tmp 106) (.tmp 108) 96 (by rfl) (w.heap.size + 1) 4 iB (.bool false) 1 1 Tryz.underlying96 hiB b0 b1 b2 (by rfl) (by decide) (.slice va q vk) q (bvs (A ++ (List.replicate k true ++ []))) (by rfl) (HA.out false).1.2.1 (.slice (some ⟨w1.heap.size, 0, none⟩) 1 1) 1 (bvs [false]) (by rfl) (lc_one _ _) (bvs_one _) (by unfold maxLen; omega) (by omega) (HA.out false).1.2.2.2.1 ?_; intro v5 w5 hin hg1; have HT5 : Hid _ := T3.more (bs' := [false]) (HA.out false) hin hg1 rfl; obtain ⟨xa5, xk5, hx5⟩ := row_val hin; subst hx5; clear hin hg1))
                exact HF2.out _ _ HT5.out
              · have hfr2 : fromB x 0 ((m : Int) - 1) = true := hfr.trans hnb
                obtain ⟨e, rfl, hem⟩ : ∃ e : Nat, x = (e : Int) ∧ e < m := by
                  simp only [numB, Bool.and_eq_true, decide_eq_true_eq] at hnb
                  exact ⟨x.toNat, by omega, by omega⟩
                obtain ⟨z2, z3⟩ := seenM_cell HT.out.2.1 e hem
                have hem2 : (e : Int) < (m : Int) := by omega
                by_cases hin : (e : Int) ∈ L.take k
                · rw [decide_eq_true hin] at z2
                  have HF2 : Hid _ := HF.out (by rw [HO.out, hnb, List.contains_iff_mem.2 hin]; rfl)
                  clear HF HO hfr HE HX hin
                  go_wp2_with fail
                  refine Calls.mono (rfromB _ 0 _ true hfr2 _) ?_
                  rintro e w1 ⟨rfl, rfl⟩
                  go_wp2_with (at_builtin; (refine wpList_append_lc (by rfl) (.tmp 106) (.tmp 108) 96 (by rfl) (w.heap.size + 1) 4 iB (.bool false) 1 1 Tryz.underlying96 hiB b0 b1 b2 (by rfl) (by decide) (.slice va q vk) q (bvs (A ++ (List.replicate k true ++ []))) (by rfl) (HA.out false).1.2.1 (.slice (some ⟨w1.heap.size, 0, none⟩) 1 1) 1 (bvs [false]) (by rfl) (lc_one _ _) (bvs_one _) (by unfold maxLen; omega) (by omega) (HA.out false).1.2.2.2.1 ?_; intro v5 w5 hin hg1; have HT5 : Hid _ := T3.more (bs' := [false]) (HA.out false) hin hg1 rfl; obtain ⟨xa5, xk5, hx5⟩ := row_val hin; subst hx5; clear hin hg1))
                  exact HF2.out _ _ HT5.out
                · rw [decide_eq_false hin] at z2
                  have hcn : (L.take k).contains (e : Int) = false := by
                    rw [Bool.eq_false_iff]; intro hc; exact hin (List.contains_iff_mem.1 hc)
                  have HO2 : Hid (okAt m L k = true) := by unfold Hid; rw [HO.out, hnb, hcn]; rfl
                  clear HF HO hfr hcn hin
                  go_wp2_with fail
                  refine Calls.mono (rfromB _ 0 _ true hfr2 _) ?_
                  rintro e9 w1 ⟨rfl, rfl⟩
                  go_wp2_with (at_builtin; (refine wpList_append_lc (by rfl) (.tmp 106) (.tmp 108) 96 (by rfl) (w.heap.size + 1) 4 iB (.bool false) 1 1 Tryz.underlying96 hiB b0 b1 b2 (by rfl) (by decide) (.slice va q vk) q (bvs (A ++ (List.replicate k true ++ []))) (by rfl) (HA.out true).1.2.1 (.slice (some ⟨w1.heap.size, 0, none⟩) 1 1) 1 (bvs [true]) (by rfl) (lc_one _ _) (bvs_one _) (by unfold maxLen; omega) (by omega) (HA.out true).1.2.2.2.1 ?_; intro v5 w5 hin hg1; have HT5 : Hid _ := T3.more (bs' := [true]) (HA.out true) hin hg1 rfl; obtain ⟨xa5, xk5, hx5⟩ := row_val hin; subst hx5; clear hin hg1; obtain ⟨z2, z3⟩ := seenM_cell HT5.out.2.1 e hem; have x1 := HX.out w5 HT5.out.2.2.1))
                  have HR : Hid (T3 w (w5.setCell ⟨g, e, none⟩ (.bool true)) box (.slice xa5 (q + 1) xk5) (q + 1) A g m (some ⟨gl, 0, none⟩) L (k + 1) []) := T3.set HT5.out HE.out HO2.out
                  go_roundw
                  case rel => exact ⟨k + 1, q + 1, xa5, xk5, by omega, by go_num, rfl, by have := HQ.out; omega, HR.out⟩
                  case measure => simp [intOf]; omega
            · have hlt2 : ¬ (k : Int) < (p : Int) := by omega
              have hkL : k = L.length := by rw [← HL.out.2]; omega
              have HGd : Hid (good m L = k ∧ ¬ k < L.length ∧ (List.range m).all (fun j : Nat => decide ((j : Int) ∈ L)) = decide (m ≤ k)) := by
                have hg : good m L = k := good_at m L k (by omega) HT.out.2.2.2.1 (by omega)
                refine ⟨hg, by omega, ?_⟩
                rw [all_iff m L ((good_iff m L).1 (by omega)), hkL]
              have HSt : Hid (∀ i, i < m → wr.cell? ⟨g, i, none⟩ = some (.bool (decide ((i : Int) ∈ L)))) := fun i hi => by
                have := (seenM_cell HT.out.2.1 i hi).1
                rw [List.take_of_length_le (by omega)] at this
                exact this
              clear hkL
              go_wp2_with fail
              go_loopw [12, 13] (fun s12 s13 W => ∃ (i : Nat) (al : Bool), i ≤ m ∧ s13 = .int .i64 i ∧ s12 = .bool al ∧ al = (List.range i).all (fun j : Nat => decide ((j : Int) ∈ L)) ∧ W = wr) (fun _ s13 _ => m - (intOf s13).toNat)
              case atStart => exact ⟨0, true, Nat.zero_le _, rfl, rfl, rfl, rfl⟩
              case round =>
                obtain ⟨i, al, hi, rfl, rfl, hal, hwr⟩ := hrel
                obtain rfl := hwr.symm
                by_cases hlt4 : i < m
                · have hlt5 : (i : Int) < (m : Int) := by omega
                  have z2 := HSt.out i hlt4
                  have HN9 : Hid ((List.range (i + 1)).all (fun j : Nat => decide ((j : Int) ∈ L)) = (al && decide ((i : Int) ∈ L))) := by
                    unfold Hid
                    rw [hal, List.range_succ, List.all_append]
                    simp
                  clear hal
                  generalize decide ((i : Int) ∈ L) = y at z2 HN9
                  cases al
                  · go_wp2_with fail
                    go_roundw
                    case rel => exact ⟨i + 1, false, by omega, by go_num, rfl, by rw [HN9.out]; rfl, by first | rfl | trivial⟩
                    case measure => simp [intOf]; omega
                  · go_wp2_with fail
                    go_roundw
                    case rel => exact ⟨i + 1, y, by omega, by go_num, rfl, by rw [HN9.out]; simp, by first | rfl | trivial⟩
                    case measure => simp [intOf]; omega
                · have hlt5 : ¬ (i : Int) < (m : Int) := by omega
                  have HAl : Hid (al = decide (m ≤ k)) := by
                    unfold Hid
                    rw [hal, show i = m by omega]
                    exact HGd.out.2.2
                  have hbx := HT.out.1.1
                  rw [HB.out] at hbx
                  obtain ⟨y0, y1, y2, y3, y4, y5, y6⟩ := seven_cells hbx
                  clear hal hbx HSt HC1 HC2
                  have hwo : fromB wo 0 ((n : Int) - 1) = numB wo n := from_num wo n
                  have hwr : IntKind.i64.wrap ((n : Int) - 1) = (n : Int) - 1 := by rw [IntKind.wrap_i64]; omega
                  obtain ⟨hw, hhw⟩ : ∃ b, b = numB wo n := ⟨_, rfl⟩
                  rw [← hhw] at hwo
                  obtain ⟨ht, hht⟩ : ∃ b : Bool, b = decide (1 ≤ tu) := ⟨_, rfl⟩
                  have HW : Hid (hw = numB wo n) := hhw
                  have HTu : Hid (ht = decide (1 ≤ tu)) := hht
                  have HA : Hid (∀ W b1 b2 b3 b4, Up wr W → T3 w (W.alloc (.cells #[.bool b1, .bool b2, .bool b3, .bool b4] 4)) box (.slice va q vk) q A g m la L k []) := fun W _ _ _ _ u => T3.up HT.out (u.alloc _)
                  clear hhw hht
                  have HEnd : Hid (∀ W v fb wb, finB s = fb → winB s = wb → T3 w W box v (q + 4 + 1) A g m la L k (([] ++ [al, decide (1 ≤ tu), hw, fb]) ++ [wb]) → Post (.returned v) W) := fun W v fb wb h1 h2 h => by
                    rw [HP.out]
                    refine TI.post h.1 ?_
                    rw [HA0.out.1, HAl.out, HW.out, HV.out.1, HV.out.2.1, HN.out.1, HN.out.2, ← h1, ← h2]
                    refine th_end2 s HSm.out.2.2 k ?_ ?_
                    · rw [← HN.out.2, ← HL.out.1]; exact HGd.out.1
                    · rw [← HL.out.1]; exact HGd.out.2.1
                  have HFi : Hid (finB s = (decide (fi = 0) || decide (fi = 1) || decide (fi = 2)) ∧ winB s = if fi = 1 then numB wi n else decide (wi = 0)) := by
                    obtain ⟨-, -, e3, e4⟩ := HV.out
                    refine ⟨by rw [finB, ← e3], ?_⟩
                    rw [winB, ← e3, ← e4, HN.out.1]
                  have hdw : decide (wi = 0) = (wi == 0) := by cases h : (wi == 0) <;> simp_all
                  rw [hdw] at HFi
                  clear hdw
                  by_cases hf0 : fi = 0
                  · subst hf0
                    have HFw : Hid (finB s = true ∧ winB s = (wi == 0)) := ⟨by rw [HFi.out.1]; rfl, by rw [HFi.out.2]; rfl⟩
                    clear HFi
                    go_wp2_with fail
                    refine TailR.wp_region_tail' 22 (.tmp 5) rfl rfl (by kernel_rfl) (by kernel_rfl) (fun _ _ _ _ h => h) ?_
                    simp only [List.take_succ_cons, List.take_zero, List.drop_succ_cons, List.drop_zero]
                    repeat (go_big_quiet_step (exact Calls.quiet_of_same (rfromB _ 0 _ hw hwo _)))
                    refine wpQuiet_nil ?_
                    intro _ hw'
                    obtain ⟨nq, hw''⟩ := hw'
                    subst hw''
                    go_wp2_with (at_builtin; first | (refine wpList_append_lc (by rfl) (.tmp 131) (.tmp 154) 96 (by rfl) (w.heap.size + 1) 4 iB (.bool false) 1 1 Tryz.underlying96 hiB b0 b1 b2 (by rfl) (by decide) (.slice va q vk) q (bvs (A ++ (List.replicate k true ++ []))) (by rfl) (HA.out (wr.drewN nq) al (decide (1 ≤ tu)) hw true ((Up.refl _).drewN _)).1.2.1 (.slice (some ⟨(wr.drewN nq).heap.size, 0, none⟩) 4 4) 4 (bvs [al, decide (1 ≤ tu), hw, true]) (by rfl) (lc_four _ _ _ _ _) (bvs_one _) (by unfold maxLen; omega) (by omega) (HA.out (wr.drewN nq) al (decide (1 ≤ tu)) hw true ((Up.refl _).drewN _)).1.2.2.2.1 ?_; intro v5 w5 hin hg1; have HT5 : Hid _ := T3.more (bs' := [al, decide (1 ≤ tu), hw, true]) (HA.out (wr.drewN nq) al (decide (1 ≤ tu)) hw true ((Up.refl _).drewN _)) hin hg1 rfl; obtain ⟨xa5, xk5, hx5⟩ := row_val hin; subst hx5; clear hin hg1; have HA5 : Hid (∀ b, T3 w (w5.alloc (.cells #[.bool b] 4)) box (.slice xa5 (q + 4) xk5) (q + 4) A g m la L k ([] ++ [al, decide (1 ≤ tu), hw, true])) := (fun b => T3.up HT5.out ((Up.refl _).alloc _)); have hbx := HT5.out.1.1; rw [HB.out] at hbx; clear y0 y1 y2 y3 y4 y5 y6 HA; obtain ⟨y0, y1, y2, y3, y4, y5, y6⟩ := seven_cells hbx; clear hbx) | (refine wpList_append_lc (by rfl) (.tmp 156) (.tmp 177) 96 (by rfl) (w.heap.size + 1) 4 iB (.bool false) 1 1 Tryz.underlying96 hiB b0 b1 b2 (by rfl) (by decide) (.slice xa5 (q + 4) xk5) (q + 4) (bvs (A ++ (List.replicate k true ++ ([] ++ [al, decide (1 ≤ tu), hw, true])))) (by rfl) (HA5.out (wi == 0)).1.2.1 (.slice (some ⟨w5.heap.size, 0, none⟩) 1 1) 1 (bvs [(wi == 0)]) (by rfl) (lc_one _ _) (bvs_one _) (by unfold maxLen; omega) (by omega) (HA5.out (wi == 0)).1.2.2.2.1 ?_; intro v6 w6 hin hg1; have HT6 : Hid _ := T3.more (bs' := [(wi == 0)]) (HA5.out (wi == 0)) hin hg1 rfl; obtain ⟨xa6, xk6, hx6⟩ := row_val hin; subst hx6; clear hin hg1))
                    exact HEnd.out _ _ _ _ HFw.out.1 HFw.out.2 HT6.out
                  · by_cases hf1 : fi = 1
                    · subst hf1
                      have HFw : Hid (finB s = true ∧ winB s = numB wi n) := ⟨by rw [HFi.out.1]; rfl, by rw [HFi.out.2]; rfl⟩
                      clear HFi
                      cases hc : numB wi n
                      · have hwi : fromB wi 0 ((n : Int) - 1) = false := (from_num wi n).trans hc
                        have HFv : Hid (finB s = true ∧ winB s = false) := ⟨HFw.out.1, HFw.out.2.trans hc⟩
                        go_wp2_with fail
                        refine TailR.wp_region_tail' 22 (.tmp 5) rfl rfl (by kernel_rfl) (by kernel_rfl) (fun _ _ _ _ h => h) ?_
                        simp only [List.take_succ_cons, List.take_zero, List.drop_succ_cons, List.drop_zero]
                        repeat (go_big_quiet_step (exact Calls.quiet_of_same (rfromB _ 0 _ hw hwo _)))
                        refine wpQuiet_nil ?_
                        intro _ hw'
                        obtain ⟨nq, hw''⟩ := hw'
                        subst hw''
                        go_wp2_with (at_builtin; (refine wpList_append_lc (by rfl) (.tmp 131) (.tmp 154) 96 (by rfl) (w.heap.size + 1) 4 iB (.bool false) 1 1 Tryz.underlying96 hiB b0 b1 b2 (by rfl) (by decide) (.slice va q vk) q (bvs (A ++ (List.replicate k true ++ []))) (by rfl) (HA.out (wr.drewN nq) al (decide (1 ≤ tu)) hw true ((Up.refl _).drewN _)).1.2.1 (.slice (some ⟨(wr.drewN nq).heap.size, 0, none⟩) 4 4) 4 (bvs [al, decide (1 ≤ tu), hw, true]) (by rfl) (lc_four _ _ _ _ _) (bvs_one _) (by unfold maxLen; omega) (by omega) (HA.out (wr.drewN nq) al (decide (1 ≤ tu)) hw true ((Up.refl _).drewN _)).1.2.2.2.1 ?_; intro v5 w5 hin hg1; have HT5 : Hid _ := T3.more (bs' := [al, decide (1 ≤ tu), hw, true]) (HA.out (wr.drewN nq) al (decide (1 ≤ tu)) hw true ((Up.refl _).drewN _)) hin hg1 rfl; obtain ⟨xa5, xk5, hx5⟩ := row_val hin; subst hx5; clear hin hg1; have HA5 : Hid (∀ b, T3 w (w5.alloc (.cells #[.bool b] 4)) box (.slice xa5 (q + 4) xk5) (q + 4) A g m la L k ([] ++ [al, decide (1 ≤ tu), hw, true])) := (fun b => T3.up HT5.out ((Up.refl _).alloc _)); have hbx := HT5.out.1.1; rw [HB.out] at hbx; clear y0 y1 y2 y3 y4 y5 y6 HA; obtain ⟨y0, y1, y2, y3, y4, y5, y6⟩ := seven_cells hbx; clear hbx))
                        refine Calls.mono (rfromB _ 0 _ false hwi _) ?_
                        rintro e w6 ⟨rfl, rfl⟩
                        go_wp2_with (at_builtin; (refine wpList_append_lc (by rfl) (.tmp 156) (.tmp 177) 96 (by rfl) (w.heap.size + 1) 4 iB (.bool false) 1 1 Tryz.underlying96 hiB b0 b1 b2 (by rfl) (by decide) (.slice xa5 (q + 4) xk5) (q + 4) (bvs (A ++ (List.replicate k true ++ ([] ++ [al, decide (1 ≤ tu), hw, true])))) (by rfl) (HA5.out false).1.2.1 (.slice (some ⟨w6.heap.size, 0, none⟩) 1 1) 1 (bvs [false]) (by rfl) (lc_one _ _) (bvs_one _) (by unfold maxLen; omega) (by omega) (HA5.out false).1.2.2.2.1 ?_; intro v6 w7 hin hg1; have HT6 : Hid _ := T3.more (bs' := [false]) (HA5.out false) hin hg1 rfl; obtain ⟨xa6, xk6, hx6⟩ := row_val hin; subst hx6; clear hin hg1))
                        exact HEnd.out _ _ _ _ HFv.out.1 HFv.out.2 HT6.out
                      · have hwi : fromB wi 0 ((n : Int) - 1) = true := (from_num wi n).trans hc
                        have HFv : Hid (finB s = true ∧ winB s = true) := ⟨HFw.out.1, HFw.out.2.trans hc⟩
                        go_wp2_with fail
                        refine TailR.wp_region_tail' 22 (.tmp 5) rfl rfl (by kernel_rfl) (by kernel_rfl) (fun _ _ _ _ h => h) ?_
                        simp only [List.take_succ_cons, List.take_zero, List.drop_succ_cons, List.drop_zero]
                        repeat (go_big_quiet_step (exact Calls.quiet_of_same (rfromB _ 0 _ hw hwo _)))
                        refine wpQuiet_nil ?_
                        intro _ hw'
                        obtain ⟨nq, hw''⟩ := hw'
                        subst hw''
                        go_wp2_with (at_builtin; (refine wpList_append_lc (by rfl) (.tmp 131) (.tmp 154) 96 (by rfl) (w.heap.size + 1) 4 iB (.bool false) 1 1 Tryz.underlying96 hiB b0 b1 b2 (by rfl) (by decide) (.slice va q vk) q (bvs (A ++ (List.replicate k true ++ []))) (by rfl) (HA.out (wr.drewN nq) al (decide (1 ≤ tu)) hw true ((Up.refl _).drewN _)).1.2.1 (.slice (some ⟨(wr.drewN nq).heap.size, 0, none⟩) 4 4) 4 (bvs [al, decide (1 ≤ tu), hw, true]) (by rfl) (lc_four _ _ _ _ _) (bvs_one _) (by unfold maxLen; omega) (by omega) (HA.out (wr.drewN nq) al (decide (1 ≤ tu)) hw true ((Up.refl _).drewN _)).1.2.2.2.1 ?_; intro v5 w5 hin hg1; have HT5 : Hid _ := T3.more (bs' := [al, decide (1 ≤ tu), hw, true]) (HA.out (wr.drewN nq) al (decide (1 ≤ tu)) hw true ((Up.refl _).drewN _)) hin hg1 rfl; obtain ⟨xa5, xk5, hx5⟩ := row_val hin; subst hx5; clear hin hg1; have HA5 : Hid (∀ b, T3 w (w5.alloc (.cells #[.bool b] 4)) box (.slice xa5 (q + 4) xk5) (q + 4) A g m la L k ([] ++ [al, decide (1 ≤ tu), hw, true])) := (fun b => T3.up HT5.out ((Up.refl _).alloc _)); have hbx := HT5.out.1.1; rw [HB.out] at hbx; clear y0 y1 y2 y3 y4 y5 y6 HA; obtain ⟨y0, y1, y2, y3, y4, y5, y6⟩ := seven_cells hbx; clear hbx))
                        refine Calls.mono (rfromB _ 0 _ true hwi _) ?_
                        rintro e w6 ⟨rfl, rfl⟩
                        go_wp2_with (at_builtin; (refine wpList_append_lc (by rfl) (.tmp 156) (.tmp 177) 96 (by rfl) (w.heap.size + 1) 4 iB (.bool false) 1 1 Tryz.underlying96 hiB b0 b1 b2 (by rfl) (by decide) (.slice xa5 (q + 4) xk5) (q + 4) (bvs (A ++ (List.replicate k true ++ ([] ++ [al, decide (1 ≤ tu), hw, true])))) (by rfl) (HA5.out true).1.2.1 (.slice (some ⟨w6.heap.size, 0, none⟩) 1 1) 1 (bvs [true]) (by rfl) (lc_one _ _) (bvs_one _) (by unfold maxLen; omega) (by omega) (HA5.out true).1.2.2.2.1 ?_; intro v6 w7 hin hg1; have HT6 : Hid _ := T3.more (bs' := [true]) (HA5.out true) hin hg1 rfl; obtain ⟨xa6, xk6, hx6⟩ := row_val hin; subst hx6; clear hin hg1))
                        exact HEnd.out _ _ _ _ HFv.out.1 HFv.out.2 HT6.out
                    · have g0 : (fi == 0) = false := by simpa using hf0
                      have g1 : (fi == 1) = false := by simpa using hf1
                      have g3 : (fi != 1) = true := by simp [bne, g1]
                      by_cases hf2 : fi = 2
                      · subst hf2
                        have HFw : Hid (finB s = true ∧ winB s = (wi == 0)) := ⟨by rw [HFi.out.1]; rfl, by rw [HFi.out.2]; rfl⟩
                        clear HFi
                        go_wp2_with fail
                        refine TailR.wp_region_tail' 22 (.tmp 5) rfl rfl (by kernel_rfl) (by kernel_rfl) (fun _ _ _ _ h => h) ?_
                        simp only [List.take_succ_cons, List.take_zero, List.drop_succ_cons, List.drop_zero]
                        repeat (go_big_quiet_step (exact Calls.quiet_of_same (rfromB _ 0 _ hw hwo _)))
                        refine wpQuiet_nil ?_
                        intro _ hw'
                        obtain ⟨nq, hw''⟩ := hw'
                        subst hw''
                        go_wp2_with (at_builtin; first | (refine wpList_append_lc (by rfl) (.tmp 131) (.tmp 154) 96 (by rfl) (w.heap.size + 1) 4 iB (.bool false) 1 1 Tryz.underlying96 hiB b0 b1 b2 (by rfl) (by decide) (.slice va q vk) q (bvs (A ++ (List.replicate k true ++ []))) (by rfl) (HA.out (wr.drewN nq) al (decide (1 ≤ tu)) hw true ((Up.refl _).drewN _)).1.2.1 (.slice (some ⟨(wr.drewN nq).heap.size, 0, none⟩) 4 4) 4 (bvs [al, decide (1 ≤ tu), hw, true]) (by rfl) (lc_four _ _ _ _ _) (bvs_one _) (by unfold maxLen; omega) (by omega) (HA.out (wr.drewN nq) al (decide (1 ≤ tu)) hw true ((Up.refl _).drewN _)).1.2.2.2.1 ?_; intro v5 w5 hin hg1; have HT5 : Hid _ := T3.more (bs' := [al, decide (1 ≤ tu), hw, true]) (HA.out (wr.drewN nq) al (decide (1 ≤ tu)) hw true ((Up.refl _).drewN _)) hin hg1 rfl; obtain ⟨xa5, xk5, hx5⟩ := row_val hin; subst hx5; clear hin hg1; have HA5 : Hid (∀ b, T3 w (w5.alloc (.cells #[.bool b] 4)) box (.slice xa5 (q + 4) xk5) (q + 4) A g m la L k ([] ++ [al, decide (1 ≤ tu), hw, true])) := (fun b => T3.up HT5.out ((Up.refl _).alloc _)); have hbx := HT5.out.1.1; rw [HB.out] at hbx; clear y0 y1 y2 y3 y4 y5 y6 HA; obtain ⟨y0, y1, y2, y3, y4, y5, y6⟩ := seven_cells hbx; clear hbx) | (refine wpList_append_lc (by rfl) (.tmp 156) (.tmp 177) 96 (by rfl) (w.heap.size + 1) 4 iB (.bool false) 1 1 Tryz.underlying96 hiB b0 b1 b2 (by rfl) (by decide) (.slice xa5 (q + 4) xk5) (q + 4) (bvs (A ++ (List.replicate k true ++ ([] ++ [al, decide (1 ≤ tu), hw, true])))) (by rfl) (HA5.out (wi == 0)).1.2.1 (.slice (some ⟨w5.heap.size, 0, none⟩) 1 1) 1 (bvs [(wi == 0)]) (by rfl) (lc_one _ _) (bvs_one _) (by unfold maxLen; omega) (by omega) (HA5.out (wi == 0)).1.2.2.2.1 ?_; intro v6 w6 hin hg1; have HT6 : Hid _ := T3.more (bs' := [(wi == 0)]) (HA5.out (wi == 0)) hin hg1 rfl; obtain ⟨xa6, xk6, hx6⟩ := row_val hin; subst hx6; clear hin hg1))
                        exact HEnd.out _ _ _ _ HFw.out.1 HFw.out.2 HT6.out
                      · have g2 : (fi == 2) = false := by simpa using hf2
                        have HFw : Hid (finB s = false ∧ winB s = (wi == 0)) := ⟨by rw [HFi.out.1]; simp [hf0, hf1, hf2], by rw [HFi.out.2, if_neg hf1]⟩
                        clear HFi
                        go_wp2_with fail
                        refine TailR.wp_region_tail' 22 (.tmp 5) rfl rfl (by kernel_rfl) (by kernel_rfl) (fun _ _ _ _ h => h) ?_
                        simp only [List.take_succ_cons, List.take_zero, List.drop_succ_cons, List.drop_zero]
                        repeat (go_big_quiet_step (exact Calls.quiet_of_same (rfromB _ 0 _ hw hwo _)))
                        refine wpQuiet_nil ?_
                        intro _ hw'
                        obtain ⟨nq, hw''⟩ := hw'
                        subst hw''
                        go_wp2_with (at_builtin; first | (refine wpList_append_lc (by rfl) (.tmp 131) (.tmp 154) 96 (by rfl) (w.heap.size + 1) 4 iB (.bool false) 1 1 Tryz.underlying96 hiB b0 b1 b2 (by rfl) (by decide) (.slice va q vk) q (bvs (A ++ (List.replicate k true ++ []))) (by rfl) (HA.out (wr.drewN nq) al (decide (1 ≤ tu)) hw false ((Up.refl _).drewN _)).1.2.1 (.slice (some ⟨(wr.drewN nq).heap.size, 0, none⟩) 4 4) 4 (bvs [al, decide (1 ≤ tu), hw, false]) (by rfl) (lc_four _ _ _ _ _) (bvs_one _) (by unfold maxLen; omega) (by omega) (HA.out (wr.drewN nq) al (decide (1 ≤ tu)) hw false ((Up.refl _).drewN _)).1.2.2.2.1 ?_; intro v5 w5 hin hg1; have HT5 : Hid _ := T3.more (bs' := [al, decide (1 ≤ tu), hw, false]) (HA.out (wr.drewN nq) al (decide (1 ≤ tu)) hw false ((Up.refl _).drewN _)) hin hg1 rfl; obtain ⟨xa5, xk5, hx5⟩ := row_val hin; subst hx5; clear hin hg1; have HA5 : Hid (∀ b, T3 w (w5.alloc (.cells #[.bool b] 4)) box (.slice xa5 (q + 4) xk5) (q + 4) A g m la L k ([] ++ [al, decide (1 ≤ tu), hw, false])) := (fun b => T3.up HT5.out ((Up.refl _).alloc _)); have hbx := HT5.out.1.1; rw [HB.out] at hbx; clear y0 y1 y2 y3 y4 y5 y6 HA; obtain ⟨y0, y1, y2, y3, y4, y5, y6⟩ := seven_cells hbx; clear hbx) | (refine wpList_append_lc (by rfl) (.tmp 156) (.tmp 177) 96 (by rfl) (w.heap.size + 1) 4 iB (.bool false) 1 1 Tryz.underlying96 hiB b0 b1 b2 (by rfl) (by decide) (.slice xa5 (q + 4) xk5) (q + 4) (bvs (A ++ (List.replicate k true ++ ([] ++ [al, decide (1 ≤ tu), hw, false])))) (by rfl) (HA5.out (wi == 0)).1.2.1 (.slice (some ⟨w5.heap.size, 0, none⟩) 1 1) 1 (bvs [(wi == 0)]) (by rfl) (lc_one _ _) (bvs_one _) (by unfold maxLen; omega) (by omega) (HA5.out (wi == 0)).1.2.2.2.1 ?_; intro v6 w6 hin hg1; have HT6 : Hid _ := T3.more (bs' := [(wi == 0)]) (HA5.out (wi == 0)) hin hg1 rfl; obtain ⟨xa6, xk6, hx6⟩ := row_val hin; subst hx6; clear hin hg1))
                        exact HEnd.out _ _ _ _ HFw.out.1 HFw.out.2 HT6.out
end ST
end Go.Proofs.YtmpamcdobhiipaaGreatDoor
