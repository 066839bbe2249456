/-
  The document's shape.
-/
import Derived.Test.YtgahdppcdeefaaaSj9
import Derived.Test.YtgahdppcdeefaaaTc
namespace Go.Proofs.Ytgahdppcdeefaaa
open Go.RowKit
attribute [local go_sem ↓] Go.wp_at_zero Go.wp_at_succ
namespace TR
def lenOf : Value → Nat
  | .slice _ n _ => n
  | _ => 0
theorem rask_ks {op ks : Int} (h : (rask op ks).2.2 = true) : 0 ≤ ks := by
  refine Classical.byContradiction fun h9 => ?_
  have e0 : ¬ ks = 0 := by omega
  have e1 : ¬ ks = 1 := by omega
  have e2 : ¬ ks = 2 := by omega
  have e3 : ¬ ks = 3 := by omega
  unfold rask at h
  simp only [apply_ite Prod.snd, decide_eq_false e0, decide_eq_false e1, decide_eq_false e2, decide_eq_false e3, decide_eq_false h9, if_neg e1, Bool.or_false, ite_self] at h
  cases h
theorem own_froz {W : World} {b e s n g m c : Nat} {xs : List Value} (h : W.ownsRow b e s (.slice (some ⟨g, 0, none⟩) m c) n xs) : ∀ j, W.frozen? ⟨g, j, none⟩ = false := fun j => by
  rcases h.2 with ⟨h1, -⟩ | ⟨g1, c1, cur, h1, -, h3, -⟩
  · cases h1
  · cases h1
    exact froz_f h3 j
theorem heap_alloc_lt {w : World} (o : Obj) (k : Nat) (hk : k < w.heap.size) : (w.alloc o).heap[k]? = w.heap[k]? := by
  simp only [World.alloc, Array.getElem?_push]
  rw [if_neg (by omega)]
theorem SK.root (w : World) : SK w ((w.alloc (.cells #[.int .i64 0] 3)).alloc (.cells #[.slice (some ⟨w.heap.size, 0, none⟩) 1 1, .int .i64 0, .int .i64 1, .int .i64 0] 60)) (.slice (some ⟨w.heap.size + 1, 0, none⟩) 1 1) [(⟨[0], 0, 1, 0⟩, .slice (some ⟨w.heap.size, 0, none⟩) 1 1)] := by
  have h1 := World.ownsRow_lit (base := w.heap.size) (size := 1) (e := 3) w #[.int .i64 0] 1 (Nat.le_refl _) (by unfold maxLen; omega) rfl
  have h2 := World.ownsRow_lit (base := w.heap.size) (size := 4) (e := 60) (w.alloc (.cells #[.int .i64 0] 3)) #[.slice (some ⟨w.heap.size, 0, none⟩) 1 1, .int .i64 0, .int .i64 1, .int .i64 0] 1 (by simp) (by unfold maxLen; omega) rfl
  rw [show (w.alloc (.cells #[.int .i64 0] 3)).heap.size = w.heap.size + 1 by simp] at h2
  refine ⟨h2, fun x hx => ?_, ((Up.refl _).alloc _).alloc _⟩
  rcases List.mem_singleton.1 hx with rfl
  exact row_up h1 ((Up.refl _).alloc _)
set_option maxRecDepth 100000 in
set_option maxHeartbeats 16000000 in
theorem shape_ (v : Value) (l : List Nd) (w : World) (hv : NLs w v l) (hb : ∀ a ∈ l, Byt a.text) (hks : ∀ a ∈ l, a.kids ≤ 9223372036854775807) (hn : l.length ≤ 1000000) : Calls Try.prog 29 #[v] w (fun e w' => e = .returned (.int .i64 (shpR l)) ∧ Up w w') := by
  obtain ⟨Post, hPost⟩ : ∃ P : Ending → World → Prop, P = fun e w' => e = .returned (.int .i64 (shpR l)) ∧ Up w w' := ⟨_, rfl⟩
  rw [← hPost]
  have HPo : Hid (Post = fun e w' => e = .returned (.int .i64 (shpR l)) ∧ Up w w') := hPost
  clear hPost
  obtain ⟨iT, hiT, z0, z1, z2⟩ := info_parts infoFm
  obtain ⟨va, vc, rfl, -, hcell⟩ := nl_at hv
  obtain ⟨n, hN⟩ : ∃ n, n = l.length := ⟨_, rfl⟩
  have HN : Hid (n = l.length) := hN
  have HC : Hid (∀ i, i < n → ∃ bk off, va = some ⟨bk, off, none⟩ ∧ ∀ W, Up w W → ∀ j x, (ndc (l.getD i dn))[j]? = some x → W.cell? ⟨bk, off + i * 7 + j, none⟩ = some x) := fun i hi => by
    obtain ⟨bk, off, e1, e2⟩ := hcell (by omega)
    exact ⟨bk, off, e1, fun W hu j x hj => e2 W hu i (by omega) j x hj⟩
  have HBY : Hid (∀ a ∈ l, Byt a.text) := hb
  have HKS : Hid (∀ a ∈ l, a.kids ≤ 9223372036854775807) := hks
  rw [← hN] at hn ⊢
  clear hcell hv hN hb hks
  go_enter Try.func29, Try.ntmps29
  go_wp2_with fail
  obtain ⟨W1, hW1⟩ : ∃ W1, (w.alloc (.cells #[.int .i64 0] 3)).alloc (.cells #[.slice (some ⟨w.heap.size, 0, none⟩) 1 1, .int .i64 0, .int .i64 1, .int .i64 0] 60) = W1 := ⟨_, rfl⟩
  have HW1 : Hid (SK w W1 (.slice (some ⟨w.heap.size + 1, 0, none⟩) 1 1) [(⟨[0], 0, 1, 0⟩, .slice (some ⟨w.heap.size, 0, none⟩) 1 1)]) := by
    unfold Hid
    rw [← hW1]
    exact SK.root w
  rw [hW1]
  clear hW1
  go_loopw [3, 4] (fun s3 s4 W => ∃ (i : Nat) (X : List (Fm × Value)), i ≤ n ∧ s4 = .int .i64 (i : Int) ∧ SK w W s3 X ∧ X.length ≤ i + 1 ∧ (∀ x ∈ X, FOk x.1 ∧ x.1.left ≤ 9223372036854775807 ∧ x.1.next ≤ i) ∧ fsh l [⟨[0], 0, 1, 0⟩] 0 = fsh (l.drop i) (X.map (·.1)) i) (fun _ s4 _ => n - (intOf s4).toNat)
  case atStart =>
    refine ⟨0, _, Nat.zero_le _, rfl, HW1.out, by simp, fun x hx => ?_, rfl⟩
    rcases List.mem_singleton.1 hx with rfl
    exact ⟨⟨by intro w hw; rcases List.mem_singleton.1 hw with rfl; exact .inl rfl, .inl rfl⟩, by show 1 ≤ _; omega, Nat.le_refl _⟩
  case round =>
    obtain ⟨i, X, hi, rfl, hsk, hlen, hX, hf⟩ := hrel
    obtain ⟨sa, sc, rfl⟩ := row_val hsk.1
    have HSK : Hid (SK w wr (.slice sa X.length sc) X) := hsk
    have HLN : Hid (X.length ≤ i + 1) := hlen
    have HX : Hid (∀ x ∈ X, FOk x.1 ∧ x.1.left ≤ 9223372036854775807 ∧ x.1.next ≤ i) := hX
    have HF : Hid (fsh l [⟨[0], 0, 1, 0⟩] 0 = fsh (l.drop i) (X.map (·.1)) i) := hf
    clear hsk hlen hX hf HW1
    by_cases hlt : i < n
    · have hlt2 : (i : Int) < (n : Int) := by omega
      have ei : IntKind.i64.wrap ((i : Int) + 1) = ((i + 1 : Nat) : Int) := by rw [IntKind.wrap_i64]; omega
      obtain ⟨m0, hm0⟩ : ∃ m0, m0 = X.length := ⟨_, rfl⟩
      rw [← hm0] at HSK ⊢
      have HM0 : Hid (m0 = X.length) := hm0
      clear hm0
      go_wp2_with fail
      go_loopw [3] (fun s3 W => ∃ Y : List (Fm × Value), SK w W s3 Y ∧ Y.length ≤ i + 1 ∧ (∀ x ∈ Y, FOk x.1 ∧ x.1.left ≤ 9223372036854775807 ∧ x.1.next ≤ i) ∧ popF (Y.map (·.1)) = popF (X.map (·.1))) (fun s3 _ => lenOf s3)
      case atStart => exact ⟨X, HSK.out, HLN.out, HX.out, rfl⟩
      case round =>
        obtain ⟨Y, hsk, hlen, hX, hpp⟩ := hrel
        have HF2 : Hid (fsh l [⟨[0], 0, 1, 0⟩] 0 = fsh (l.drop i) (Y.map (·.1)) i) := by
          unfold Hid
          rw [HF.out, ← fsh_pop, ← hpp, fsh_pop]
        have HPP : Hid (popF (Y.map (·.1)) = popF (X.map (·.1))) := hpp
        have HUW : Hid (Up w wr) := hsk.2.2
        have hi9 : i ≤ 1000000 := by omega
        clear hpp HF HSK HX HLN HM0
        cases Y with
        | nil =>
          obtain ⟨ya, yc, rfl⟩ := row_val hsk.1
          have HE : Hid (shpR l = (i : Int)) := by
            unfold Hid shpR
            rw [HF2.out, List.drop_eq_getElem_cons (by have := HN.out; omega)]
            rfl
          clear hsk hlen hX
          go_wp2_with fail
          rw [HPo.out, HE.out]
          exact ⟨rfl, HUW.out⟩
        | cons x Y =>
          obtain ⟨g, c, rfl, hgw, hMc, hrowS, hcells⟩ := hsk.top
          obtain ⟨⟨own, oth, lf, nx⟩, xv⟩ := x
          have hxo := hsk.2.1 _ (List.mem_cons_self ..)
          obtain ⟨xa, xc, hxv⟩ := row_val hxo
          simp only at hxv
          subst hxv
          obtain ⟨on, hon⟩ : ∃ on, on = own.length := ⟨_, rfl⟩
          simp only at hxo
          rw [← hon] at hxo hcells hsk hrowS hX
          have HON : Hid (on = own.length) := hon
          have y0 : wr.cell? ⟨g, Y.length * 4, none⟩ = some (.slice xa on xc) := hcells 0 (by omega)
          have y1 : wr.cell? ⟨g, Y.length * 4 + 1, none⟩ = some (.int .i64 oth) := hcells 1 (by omega)
          have y2 : wr.cell? ⟨g, Y.length * 4 + 2, none⟩ = some (.int .i64 (lf : Int)) := hcells 2 (by omega)
          have y3 : wr.cell? ⟨g, Y.length * 4 + 3, none⟩ = some (.int .i64 (nx : Int)) := hcells 3 (by omega)
          have hgl := (World.ownsRow.lt hrowS g rfl).2
          have HSK2 : Hid (SK w wr (.slice (some ⟨g, 0, none⟩) (Y.length + 1) c) ((⟨own, oth, lf, nx⟩, .slice xa on xc) :: Y)) := hsk
          have HXO : Hid (wr.ownsRow w.heap.size 3 1 (.slice xa on xc) own.length (ivn own)) := by rw [hon] at hxo ⊢; exact hxo
          have HX2 : Hid (∀ x ∈ ((⟨own, oth, lf, nx⟩, .slice xa on xc) : Fm × Value) :: Y, FOk x.1 ∧ x.1.left ≤ 9223372036854775807 ∧ x.1.next ≤ i) := hX
          have hlY : Y.length + 1 ≤ i + 1 := by simpa using hlen
          obtain ⟨M, hM⟩ : ∃ M, M = Y.length := ⟨_, rfl⟩
          rw [← hM] at y0 y1 y2 y3 hMc hlY HSK2 ⊢
          have HM : Hid (M = Y.length) := hM
          obtain ⟨n9, hn9⟩ : ∃ n9, n9 = M + 1 := ⟨_, rfl⟩
          have HN9 : Hid (n9 = M + 1) := hn9
          rw [← hn9] at HSK2 hMc ⊢
          have ewM : IntKind.i64.wrap ((n9 : Int) - 1) = (M : Int) := by rw [IntKind.wrap_i64]; omega
          have hM1 : (M : Int) < (n9 : Int) := by omega
          have hM2 : (0 : Int) < (n9 : Int) := by omega
          have hM3 : M ≤ c := by omega
          have hM4 : ((n9 : Int) == 0) = false := by simp; omega
          have hM5 : ¬ n9 = 0 := by omega
          have hM6 : 0 < n9 := by omega
          have hMn : M < n9 := by omega
          clear hsk hlen hX hcells hxo hrowS hM hn9 hon
          by_cases hl0 : lf = 0
          · subst hl0
            have HPN : Hid (SK w wr (.slice (some ⟨g, 0, none⟩) M c) Y) := by
              unfold Hid
              have h9 := HSK2.out.pop
              rw [← HM.out] at h9
              exact h9
            have HX3 : Hid (∀ x ∈ Y, FOk x.1 ∧ x.1.left ≤ 9223372036854775807 ∧ x.1.next ≤ i) := fun x hx => HX2.out x (.tail _ hx)
            have HP3 : Hid (popF (Y.map (·.1)) = popF (X.map (·.1))) := by
              unfold Hid
              rw [← HPP.out]
              rfl
            have HLY : Hid (Y.length ≤ i + 1) := by have := HM.out; unfold Hid; omega
            clear HSK2 HX2 HPP HF2 HXO
            go_wp2_with fail
            go_roundw
            case rel => exact ⟨Y, HPN.out, HLY.out, HX3.out, HP3.out⟩
            case measure => have := HN9.out; simp [lenOf]; omega
          · have hl1 : ((lf : Int) == 0) = false := by simpa using hl0
            have hl2 : ¬ (lf : Int) = 0 := by omega
            obtain ⟨lf', hlf⟩ : ∃ lf', lf' + 1 = lf := ⟨lf - 1, by omega⟩
            obtain ⟨hOk, hlb, hnb⟩ := HX2.out _ (List.mem_cons_self ..)
            have HXY : Hid (∀ x ∈ Y, FOk x.1 ∧ x.1.left ≤ 9223372036854775807 ∧ x.1.next ≤ i) := fun x hx => HX2.out x (.tail _ hx)
            simp only at hlb hnb
            have HOK : Hid (FOk ⟨own, oth, lf, nx⟩) := hOk
            have ewl : IntKind.i64.wrap ((lf : Int) - 1) = (lf' : Int) := by rw [IntKind.wrap_i64]; omega
            obtain ⟨nx', hnx⟩ : ∃ nx', nx' = nx + 1 := ⟨_, rfl⟩
            have ewn : IntKind.i64.wrap ((nx : Int) + 1) = (nx' : Int) := by rw [IntKind.wrap_i64]; omega
            have HLF : Hid (lf' + 1 = lf) := hlf
            have HNX : Hid (nx' = nx + 1) := hnx
            have HFR : Hid (∀ U, Up wr U → IvL U (.slice xa on xc) own) := fun U hu => own_ivl (row_up HXO.out hu)
            obtain ⟨bk, off, rfl, hx⟩ := HC.out i hlt
            obtain ⟨a, ha⟩ : ∃ a, a = l.getD i dn := ⟨_, rfl⟩
            have hmem : a ∈ l := by
              rw [ha, List.getD_eq_getElem?_getD, List.getElem?_eq_getElem (by have := HN.out; omega)]
              exact List.getElem_mem _
            have hby := HBY.out a hmem
            have hkk := HKS.out a hmem
            have HD : Hid (l.drop i = a :: l.drop (i + 1)) := by
              unfold Hid
              rw [ha, List.getD_eq_getElem?_getD, List.getElem?_eq_getElem (by have := HN.out; omega)]
              exact List.drop_eq_getElem_cons (by have := HN.out; omega)
            rw [← ha] at hx
            have HST : Hid (fsh l [⟨[0], 0, 1, 0⟩] 0 = if dok a (own.getD nx oth) = true then fsh (l.drop (i + 1)) (fnew a :: ⟨own, oth, lf', nx'⟩ :: Y.map (·.1)) (i + 1) else (i, false)) := by
              unfold Hid
              rw [HF2.out, HD.out]
              refine (fsh_go (f := ⟨own, oth, lf, nx⟩) (by exact hl0)).trans ?_
              unfold fnx Fm.want
              simp only
              rw [show lf - 1 = lf' by omega, ← hnx]
            have HNO : Hid (dok a (own.getD nx oth) = false → shpR l = (i : Int)) := fun h => by
              unfold shpR
              rw [HST.out, h]
              rfl
            have hwk : Wok (own.getD nx oth) := HOK.out.wok
            clear ha hmem HF2 HPP hlf hnx hl0 hOk
            obtain ⟨aop, akd, an, am, at_, aps, aks⟩ := a
            simp only at hkk
            have HKK : Hid (aks ≤ 9223372036854775807) := hkk
            clear hkk
            have x0 := hx wr HUW.out 0 _ rfl
            have HNC : Hid (∀ W, Up w W → W.cell? ⟨bk, off + i * 7, none⟩ = some (.int .i8 aop) ∧ W.cell? ⟨bk, off + i * 7 + 1, none⟩ = some (.int .i8 akd) ∧ W.cell? ⟨bk, off + i * 7 + 2, none⟩ = some (.int .i64 an) ∧ W.cell? ⟨bk, off + i * 7 + 3, none⟩ = some (.int .i64 am) ∧ W.cell? ⟨bk, off + i * 7 + 4, none⟩ = some (.string (strOfNums at_)) ∧ W.cell? ⟨bk, off + i * 7 + 5, none⟩ = some (.int .i64 aps) ∧ W.cell? ⟨bk, off + i * 7 + 6, none⟩ = some (.int .i64 aks)) := fun W hu => ⟨hx W hu 0 _ rfl, hx W hu 1 _ rfl, hx W hu 2 _ rfl, hx W hu 3 _ rfl, hx W hu 4 _ rfl, hx W hu 5 _ rfl, hx W hu 6 _ rfl⟩
            have HAS : Hid (∀ W, Calls Try.prog 35 #[.agg #[.int .i8 aop, .int .i8 akd, .int .i64 an, .int .i64 am, .string (strOfNums at_), .int .i64 aps, .int .i64 aks]] W (AskR aop aks W)) := fun W => asks_ ⟨aop, akd, an, am, at_, aps, aks⟩ W
            have HTX : Hid (∀ W, Calls Try.prog 38 #[.agg #[.int .i8 aop, .int .i8 akd, .int .i64 an, .int .i64 am, .string (strOfNums at_), .int .i64 aps, .int .i64 aks]] W (fun e w' => e = .returned (.bool (rTx aop at_)) ∧ Up W w')) := fun W => rtexts_ ⟨aop, akd, an, am, at_, aps, aks⟩ W hby
            have HNU : Hid (∀ W, Calls Try.prog 39 #[.agg #[.int .i8 aop, .int .i8 akd, .int .i64 an, .int .i64 am, .string (strOfNums at_), .int .i64 aps, .int .i64 aks]] W (fun e w' => e = .returned (.bool (rNum aop an)) ∧ Up W w')) := fun W => rnumbers_ ⟨aop, akd, an, am, at_, aps, aks⟩ W
            have HDK : Hid (dok ⟨aop, akd, an, am, at_, aps, aks⟩ (own.getD nx oth) = (rWant aop (own.getD nx oth) && (akd == 0 && (am == 0 && (decide (0 ≤ aps) && (rTx aop at_ && (rNum aop an && (rask aop aks).2.2))))))) := rfl
            have HFW : Hid (∀ U, Up wr U → Calls Try.prog 37 #[.agg #[.slice xa on xc, .int .i64 oth, .int .i64 (lf : Int), .int .i64 (nx : Int)]] U fun e w' => e = .returned (.int .i64 (own.getD nx oth)) ∧ Up U w') := fun U hu => fwant_ _ own oth lf nx U (HFR.out U hu)
            have HWT : Hid (∀ U, Calls Try.prog 36 #[.int .i8 aop, .int .i64 (own.getD nx oth)] U fun e w' => e = .returned (.bool (rWant aop (own.getD nx oth))) ∧ Up U w') := fun U => Calls.mono (wanted_ aop _ U hwk) (fun e w' h => ⟨h.1, by rw [h.2]; exact Up.refl _⟩)
            rw [HDK.out] at HST HNO
            generalize hst : strOfNums at_ = st at HAS HTX HNU HNC
            generalize hb1 : rWant aop (own.getD nx oth) = b1 at HST HNO HWT
            generalize hb5 : rTx aop at_ = b5 at HST HNO HTX
            generalize hb6 : rNum aop an = b6 at HST HNO HNU
            have HUr : Hid (∀ o, Up w (wr.alloc o)) := fun o => HUW.out.alloc _
            obtain ⟨n0, n1, n2, n3, n4, n5, n6⟩ := HNC.out _ (HUW.out.alloc (.cells #[.slice xa on xc, .int .i64 oth, .int .i64 (lf : Int), .int .i64 (nx : Int)] 60))
            clear hst hb1 hb5 hb6 hwk hx x0 HDK HC hby
            go_wp2_with fail
            refine Calls.mono (HAS.out _) ?_
            rintro e w3 ⟨v, rfl, hrow, hu3⟩
            have hB1 : w3.heap[wr.heap.size]? = some (.cells #[.slice xa on xc, .int .i64 oth, .int .i64 (lf : Int), .int .i64 (nx : Int)] 60 (0, 0)) := hu3.heap (by
              rw [heap_alloc_lt _ _ (by simp)]
              exact heap_alloc_new _ _)
            have hB2 : w3.heap[wr.heap.size + 1]? = some (.cells #[.int .i8 aop, .int .i8 akd, .int .i64 an, .int .i64 am, .string st, .int .i64 aps, .int .i64 aks] 33 (0, 0)) := hu3.heap (by
              have h9 := heap_alloc_new (wr.alloc (.cells #[.slice xa on xc, .int .i64 oth, .int .i64 (lf : Int), .int .i64 (nx : Int)] 60)) (.cells #[.int .i8 aop, .int .i8 akd, .int .i64 an, .int .i64 am, .string st, .int .i64 aps, .int .i64 aks] 33)
              rw [show (wr.alloc (.cells #[.slice xa on xc, .int .i64 oth, .int .i64 (lf : Int), .int .i64 (nx : Int)] 60)).heap.size = wr.heap.size + 1 by simp] at h9
              exact h9)
            have HB1 : Hid (w3.heap[wr.heap.size]? = some (.cells #[.slice xa on xc, .int .i64 oth, .int .i64 (lf : Int), .int .i64 (nx : Int)] 60 (0, 0))) := hB1
            have HB2 : Hid (w3.heap[wr.heap.size + 1]? = some (.cells #[.int .i8 aop, .int .i8 akd, .int .i64 an, .int .i64 am, .string st, .int .i64 aps, .int .i64 aks] 33 (0, 0))) := hB2
            have HUr3 : Hid (Up wr w3) := (((Up.refl wr).alloc _).alloc _).trans hu3
            have HU3 : Hid (Up w w3) := HUW.out.trans HUr3.out
            obtain ⟨qa, qc, hqv⟩ := row_val hrow
            obtain ⟨qn, hqn⟩ : ∃ qn, qn = (rask aop aks).1.length := ⟨_, rfl⟩
            rw [← hqn] at hqv
            subst hqv
            have HQN : Hid (qn = (rask aop aks).1.length) := hqn
            have HRW : Hid (w3.ownsRow (wr.heap.size + 2) 3 1 (.slice qa qn qc) (rask aop aks).1.length (ivn (rask aop aks).1)) := by
              unfold Hid
              simpa using hrow
            generalize hb7 : (rask aop aks).2.2 = b7 at HST HNO ⊢
            generalize hq2 : (rask aop aks).2.1 = oth2 at ⊢
            have HO2 : Hid ((rask aop aks).2.1 = oth2) := hq2
            have HB7 : Hid ((rask aop aks).2.2 = b7) := hb7
            have hne : Nonempty (UW w3) := ⟨⟨w3, Up.refl _⟩⟩
            have p0 : ∀ U : UW w3, U.W.cell? ⟨wr.heap.size, 0, none⟩ = some (.slice xa on xc) := fun U => by simp [World.cell?, U.up.heap hB1]
            have p1 : ∀ U : UW w3, U.W.cell? ⟨wr.heap.size, 1, none⟩ = some (.int .i64 oth) := fun U => by simp [World.cell?, U.up.heap hB1]
            have p2 : ∀ U : UW w3, U.W.cell? ⟨wr.heap.size, 2, none⟩ = some (.int .i64 (lf : Int)) := fun U => by simp [World.cell?, U.up.heap hB1]
            have p3 : ∀ U : UW w3, U.W.cell? ⟨wr.heap.size, 3, none⟩ = some (.int .i64 (nx : Int)) := fun U => by simp [World.cell?, U.up.heap hB1]
            have q0 : ∀ U : UW w3, U.W.cell? ⟨wr.heap.size + 1, 0, none⟩ = some (.int .i8 aop) := fun U => by simp [World.cell?, U.up.heap hB2]
            have q1 : ∀ U : UW w3, U.W.cell? ⟨wr.heap.size + 1, 1, none⟩ = some (.int .i8 akd) := fun U => by simp [World.cell?, U.up.heap hB2]
            have q2 : ∀ U : UW w3, U.W.cell? ⟨wr.heap.size + 1, 2, none⟩ = some (.int .i64 an) := fun U => by simp [World.cell?, U.up.heap hB2]
            have q3 : ∀ U : UW w3, U.W.cell? ⟨wr.heap.size + 1, 3, none⟩ = some (.int .i64 am) := fun U => by simp [World.cell?, U.up.heap hB2]
            have q4 : ∀ U : UW w3, U.W.cell? ⟨wr.heap.size + 1, 4, none⟩ = some (.string st) := fun U => by simp [World.cell?, U.up.heap hB2]
            have q5 : ∀ U : UW w3, U.W.cell? ⟨wr.heap.size + 1, 5, none⟩ = some (.int .i64 aps) := fun U => by simp [World.cell?, U.up.heap hB2]
            have q6 : ∀ U : UW w3, U.W.cell? ⟨wr.heap.size + 1, 6, none⟩ = some (.int .i64 aks) := fun U => by simp [World.cell?, U.up.heap hB2]
            have mk : ∀ {f : Nat} {args : Array Value} {R : Value} (U : UW w3), Calls Try.prog f args U.W (fun e w' => e = .returned R ∧ Up U.W w') → Calls Try.prog f args U.W (fun e w' => e = .returned R ∧ ∃ V : UW w3, w' = V.W) := fun U h => h.mono fun e w' ⟨he, u⟩ => ⟨he, ⟨w', U.up.trans u⟩, rfl⟩
            have HQ1 : Hid (∀ U : UW w3, Calls Try.prog 37 #[.agg #[.slice xa on xc, .int .i64 oth, .int .i64 (lf : Int), .int .i64 (nx : Int)]] U.W (fun e w' => e = .returned (.int .i64 (own.getD nx oth)) ∧ ∃ V : UW w3, w' = V.W)) := fun U => mk U (HFW.out U.W (HUr3.out.trans U.up))
            have HQ2 : Hid (∀ U : UW w3, Calls Try.prog 36 #[.int .i8 aop, .int .i64 (own.getD nx oth)] U.W (fun e w' => e = .returned (.bool b1) ∧ ∃ V : UW w3, w' = V.W)) := fun U => mk U (HWT.out U.W)
            have HQ3 : Hid (∀ U : UW w3, Calls Try.prog 38 #[.agg #[.int .i8 aop, .int .i8 akd, .int .i64 an, .int .i64 am, .string st, .int .i64 aps, .int .i64 aks]] U.W (fun e w' => e = .returned (.bool b5) ∧ ∃ V : UW w3, w' = V.W)) := fun U => mk U (HTX.out U.W)
            have HQ4 : Hid (∀ U : UW w3, Calls Try.prog 39 #[.agg #[.int .i8 aop, .int .i8 akd, .int .i64 an, .int .i64 am, .string st, .int .i64 aps, .int .i64 aks]] U.W (fun e w' => e = .returned (.bool b6) ∧ ∃ V : UW w3, w' = V.W)) := fun U => mk U (HNU.out U.W)
            generalize own.getD nx oth = wq at HQ1 HQ2
            clear mk hB1 hB2 hrow hu3 HAS HTX HNU HFW HWT n0 n1 n2 n3 n4 n5 n6 y0 y1 y2 y3 hb7 hq2 hqn
            go_upto_region 12 with fail
            cases b1
            · refine TailR.wp_region_seqC 34 (fun w' => ∃ U : UW w3, w' = U.W) ⟨⟨_, (Up.refl _).drewN 1⟩, rfl⟩ (by kernel_rfl) (by kernel_rfl) ?_
              simp only [List.take_succ_cons, List.take_zero, List.drop_succ_cons, List.drop_zero]
              repeat (go_big_quiet_step (first | with_reducible exact HQ1.out _ | with_reducible exact HQ2.out _))
              refine wpQuiet_nil ?_
              intro _ hw'
              obtain ⟨U, hw''⟩ := hw'
              subst hw''
              go_wp2
              rw [HPo.out, HNO.out (by rfl)]
              exact ⟨rfl, HU3.out.trans U.up⟩
            · by_cases hk : akd = 0
              · subst hk
                by_cases hk : am = 0
                · subst hk
                  by_cases hk : aps < 0
                  · have HKF : Hid (decide (0 ≤ aps) = false) := by unfold Hid; simp; omega
                    refine TailR.wp_region_seqC 34 (fun w' => ∃ U : UW w3, w' = U.W) ⟨⟨_, (Up.refl _).drewN 1⟩, rfl⟩ (by kernel_rfl) (by kernel_rfl) ?_
                    simp only [List.take_succ_cons, List.take_zero, List.drop_succ_cons, List.drop_zero]
                    repeat (go_big_quiet_step (first | with_reducible exact HQ1.out _ | with_reducible exact HQ2.out _))
                    refine wpQuiet_nil ?_
                    intro _ hw'
                    obtain ⟨U, hw''⟩ := hw'
                    subst hw''
                    go_wp2
                    rw [HPo.out, HNO.out (by rw [HKF.out]; rfl)]
                    exact ⟨rfl, HU3.out.trans U.up⟩
                  · have HKT : Hid (decide (0 ≤ aps) = true) := by unfold Hid; simp; omega
                    cases b5
                    · refine TailR.wp_region_seqC 34 (fun w' => ∃ U : UW w3, w' = U.W) ⟨⟨_, (Up.refl _).drewN 1⟩, rfl⟩ (by kernel_rfl) (by kernel_rfl) ?_
                      simp only [List.take_succ_cons, List.take_zero, List.drop_succ_cons, List.drop_zero]
                      repeat (go_big_quiet_step (first | with_reducible exact HQ1.out _ | with_reducible exact HQ2.out _ | with_reducible exact HQ3.out _))
                      refine wpQuiet_nil ?_
                      intro _ hw'
                      obtain ⟨U, hw''⟩ := hw'
                      subst hw''
                      go_wp2
                      rw [HPo.out, HNO.out (by rw [HKT.out]; rfl)]
                      exact ⟨rfl, HU3.out.trans U.up⟩
                    · cases b6
                      · refine TailR.wp_region_seqC 34 (fun w' => ∃ U : UW w3, w' = U.W) ⟨⟨_, (Up.refl _).drewN 1⟩, rfl⟩ (by kernel_rfl) (by kernel_rfl) ?_
                        simp only [List.take_succ_cons, List.take_zero, List.drop_succ_cons, List.drop_zero]
                        repeat (go_big_quiet_step (first | with_reducible exact HQ1.out _ | with_reducible exact HQ2.out _ | with_reducible exact HQ3.out _ | with_reducible exact HQ4.out _))
                        refine wpQuiet_nil ?_
                        intro _ hw'
                        obtain ⟨U, hw''⟩ := hw'
                        subst hw''
                        go_wp2
                        rw [HPo.out, HNO.out (by rw [HKT.out]; rfl)]
                        exact ⟨rfl, HU3.out.trans U.up⟩
                      · cases b7
                        · refine TailR.wp_region_seqC 34 (fun w' => ∃ U : UW w3, w' = U.W) ⟨⟨_, (Up.refl _).drewN 1⟩, rfl⟩ (by kernel_rfl) (by kernel_rfl) ?_
                          simp only [List.take_succ_cons, List.take_zero, List.drop_succ_cons, List.drop_zero]
                          repeat (go_big_quiet_step (first | with_reducible exact HQ1.out _ | with_reducible exact HQ2.out _ | with_reducible exact HQ3.out _ | with_reducible exact HQ4.out _))
                          refine wpQuiet_nil ?_
                          intro _ hw'
                          obtain ⟨U, hw''⟩ := hw'
                          subst hw''
                          go_wp2
                          rw [HPo.out, HNO.out (by rw [HKT.out]; rfl)]
                          exact ⟨rfl, HU3.out.trans U.up⟩
                        · refine TailR.wp_region_seqC 34 (fun w' => ∃ U : UW w3, w' = U.W) ⟨⟨_, (Up.refl _).drewN 1⟩, rfl⟩ (by kernel_rfl) (by kernel_rfl) ?_
                          simp only [List.take_succ_cons, List.take_zero, List.drop_succ_cons, List.drop_zero]
                          repeat (go_big_quiet_step (first | with_reducible exact HQ1.out _ | with_reducible exact HQ2.out _ | with_reducible exact HQ3.out _ | with_reducible exact HQ4.out _))
                          refine wpQuiet_nil ?_
                          intro _ hw'
                          obtain ⟨U, hw''⟩ := hw'
                          subst hw''
                          have HFS : Hid (fsh l [⟨[0], 0, 1, 0⟩] 0 = fsh (l.drop (i + 1)) (fnew ⟨aop, 0, an, 0, at_, aps, aks⟩ :: ⟨own, oth, lf', nx'⟩ :: Y.map (·.1)) (i + 1)) := by
                            unfold Hid
                            rw [HST.out, HKT.out]
                            rfl
                          have hB1 := U.up.heap HB1.out
                          have hB2 := U.up.heap HB2.out
                          have HU4 : Hid (Up wr U.W) := HUr3.out.trans U.up
                          have HR4 : Hid (U.W.ownsRow (wr.heap.size + 2) 3 1 (.slice qa qn qc) (rask aop aks).1.length (ivn (rask aop aks).1)) := row_up HRW.out U.up
                          have HS4 : Hid (SK w U.W (.slice (some ⟨g, 0, none⟩) n9 c) ((⟨own, oth, lf, nx⟩, .slice xa on xc) :: Y)) := HSK2.out.up HU4.out
                          generalize U.W = W4 at *
                          obtain ⟨hrow4, hcells4, -, hgW4⟩ := HS4.out.topg
                          rw [← HM.out] at hcells4
                          have c0 : W4.cell? ⟨g, M * 4, none⟩ = some (.slice xa on xc) := hcells4 0 (by omega)
                          have c1 : W4.cell? ⟨g, M * 4 + 1, none⟩ = some (.int .i64 oth) := hcells4 1 (by omega)
                          have c2 : W4.cell? ⟨g, M * 4 + 2, none⟩ = some (.int .i64 (lf : Int)) := hcells4 2 (by omega)
                          have c3 : W4.cell? ⟨g, M * 4 + 3, none⟩ = some (.int .i64 (nx : Int)) := hcells4 3 (by omega)
                          have b0 : W4.cell? ⟨wr.heap.size, 0, none⟩ = some (.slice xa on xc) := by simp [World.cell?, hB1]
                          have b1 : W4.cell? ⟨wr.heap.size, 1, none⟩ = some (.int .i64 oth) := by simp [World.cell?, hB1]
                          have b2 : W4.cell? ⟨wr.heap.size, 2, none⟩ = some (.int .i64 (lf : Int)) := by simp [World.cell?, hB1]
                          have b3 : W4.cell? ⟨wr.heap.size, 3, none⟩ = some (.int .i64 (nx : Int)) := by simp [World.cell?, hB1]
                          have d6 : W4.cell? ⟨wr.heap.size + 1, 6, none⟩ = some (.int .i64 aks) := by simp [World.cell?, hB2]
                          have fT : ∀ j, W4.frozen? ⟨wr.heap.size, j, none⟩ = false := froz_f hB1
                          have fg : ∀ j, W4.frozen? ⟨g, j, none⟩ = false := own_froz hrow4
                          have hne1 : ¬ g = wr.heap.size := by omega
                          have hne2 : ¬ wr.heap.size = g := by omega
                          have hne3 : ¬ wr.heap.size + 1 = g := by omega
                          have HUW4 : Hid (Up w W4) := HUW.out.trans HU4.out
                          clear p0 p1 p2 p3 q0 q1 q2 q3 q4 q5 q6 HQ1 HQ2 HQ3 HQ4 hne HNO HST HKT HRW HUr3 HU3 HB1 HB2 HFR HNC HUr c0 c1 c2 c3 fg
                          have hpT : wr.heap.size ≤ wr.heap.size := Nat.le_refl _
                          obtain ⟨V2, hV2⟩ : ∃ V2, (W4.setCell ⟨wr.heap.size, 2, none⟩ (.int .i64 (lf' : Int))).setCell ⟨wr.heap.size, 3, none⟩ (.int .i64 (nx' : Int)) = V2 := ⟨_, rfl⟩
                          have HUV : Hid (Up wr V2) := by unfold Hid; rw [← hV2]; exact up_setN (up_setN HU4.out 2 _ hpT) 3 _ hpT
                          have hV1 : V2.heap[wr.heap.size]? = some (.cells #[.slice xa on xc, .int .i64 oth, .int .i64 (lf' : Int), .int .i64 (nx' : Int)] 60 (0, 0)) := by
                            rw [← hV2]
                            have h9 := set_cellsN (j := 3) (x := .int .i64 (nx' : Int)) (set_cellsN (j := 2) (x := .int .i64 (lf' : Int)) hB1)
                            simpa using h9
                          have HSV := SK.step (y := (⟨own, oth, lf', nx'⟩, .slice xa on xc)) HSK2.out HU4.out hpT HR4.out (by omega) rfl rfl (.int .i64 (lf' : Int)) (.int .i64 (nx' : Int)) (by have := HUW.out.size; omega)
                          rw [hV2, ← HM.out] at HSV
                          obtain ⟨V3, hV3⟩ : ∃ V3, V2.setCells g (M * 4) (fmc (⟨own, oth, lf', nx'⟩, .slice xa on xc)) = V3 := ⟨_, rfl⟩
                          have hV4 : (((V2.setCell ⟨g, M * 4, none⟩ (.slice xa on xc)).setCell ⟨g, M * 4 + 1, none⟩ (.int .i64 oth)).setCell ⟨g, M * 4 + 2, none⟩ (.int .i64 (lf' : Int))).setCell ⟨g, M * 4 + 3, none⟩ (.int .i64 (nx' : Int)) = V3 := by rw [← hV3]; rfl
                          have hV5 : V3.heap[wr.heap.size + 1]? = W4.heap[wr.heap.size + 1]? := by
                            rw [← hV3, setCells_other _ _ hne3, ← hV2, Below.heap_setCell _ _ _ _ (by simp), Below.heap_setCell _ _ _ _ (by simp)]
                          rw [hV3] at HSV
                          obtain ⟨HS6, HR6⟩ := HSV
                          obtain ⟨hrow5, hcells5, -, -⟩ := (HSK2.out.up HUV.out).topg
                          rw [← HM.out] at hcells5
                          have c0 : V2.cell? ⟨g, M * 4, none⟩ = some (.slice xa on xc) := hcells5 0 (by omega)
                          have c1 : V2.cell? ⟨g, M * 4 + 1, none⟩ = some (.int .i64 oth) := hcells5 1 (by omega)
                          have c2 : V2.cell? ⟨g, M * 4 + 2, none⟩ = some (.int .i64 (lf : Int)) := hcells5 2 (by omega)
                          have c3 : V2.cell? ⟨g, M * 4 + 3, none⟩ = some (.int .i64 (nx : Int)) := hcells5 3 (by omega)
                          have fg : ∀ j, V2.frozen? ⟨g, j, none⟩ = false := own_froz hrow5
                          have e0 : V2.cell? ⟨wr.heap.size, 0, none⟩ = some (.slice xa on xc) := by simp [World.cell?, hV1]
                          have e1 : V2.cell? ⟨wr.heap.size, 1, none⟩ = some (.int .i64 oth) := by simp [World.cell?, hV1]
                          have e2 : V2.cell? ⟨wr.heap.size, 2, none⟩ = some (.int .i64 (lf' : Int)) := by simp [World.cell?, hV1]
                          have e3 : V2.cell? ⟨wr.heap.size, 3, none⟩ = some (.int .i64 (nx' : Int)) := by simp [World.cell?, hV1]
                          have f6 : V3.cell? ⟨wr.heap.size + 1, 6, none⟩ = some (.int .i64 aks) := by simp [World.cell?, hV5, hB2]
                          have HS7 : Hid (SK w V3 (.slice (some ⟨g, 0, none⟩) n9 c) ((⟨own, oth, lf', nx'⟩, .slice xa on xc) :: Y)) := HS6
                          have HR7 : Hid (V3.ownsRow w.heap.size 3 1 (.slice qa qn qc) (rask aop aks).1.length (ivn (rask aop aks).1)) := HR6
                          clear hV1 hV3 HS6 HR6 hrow5 hcells5 hV5 hB1 hB2 HS4 HSK2 HR4 hrow4 hcells4 HX2 HXO
                          have HV2 : Hid ((W4.setCell ⟨wr.heap.size, 2, none⟩ (.int .i64 (lf' : Int))).setCell ⟨wr.heap.size, 3, none⟩ (.int .i64 (nx' : Int)) = V2) := hV2
                          have HV4 : Hid ((((V2.setCell ⟨g, M * 4, none⟩ (.slice xa on xc)).setCell ⟨g, M * 4 + 1, none⟩ (.int .i64 oth)).setCell ⟨g, M * 4 + 2, none⟩ (.int .i64 (lf' : Int))).setCell ⟨g, M * 4 + 3, none⟩ (.int .i64 (nx' : Int)) = V3) := hV4
                          clear hV4
                          go_upto_region 16 with fail
                          clear hV2
                          have hV4 := HV4.out
                          go_upto_region 17 with fail
                          clear hV4 HV4 HV2 c0 c1 c2 c3 fg e0 e1 e2 e3 b0 b1 b2 b3 d6 fT
                          have hks0 : 0 ≤ aks := rask_ks HB7.out
                          have HSP : Hid (SK w (V3.alloc (.cells #[.slice qa qn qc, .int .i64 oth2, .int .i64 aks, .int .i64 0] 60)) (.slice (some ⟨g, 0, none⟩) n9 c) ((⟨own, oth, lf', nx'⟩, .slice xa on xc) :: Y)) := HS7.out.up ((Up.refl _).alloc _)
                          have HRP : Hid ((V3.alloc (.cells #[.slice qa qn qc, .int .i64 oth2, .int .i64 aks, .int .i64 0] 60)).ownsRow w.heap.size 3 1 (.slice qa qn qc) (rask aop aks).1.length (ivn (rask aop aks).1)) := HR7.out.alloc _
                          have HRS : Hid ((V3.alloc (.cells #[.slice qa qn qc, .int .i64 oth2, .int .i64 aks, .int .i64 0] 60)).ownsRow w.heap.size 60 4 (.slice (some ⟨g, 0, none⟩) n9 c) n9 (fms (((⟨own, oth, lf', nx'⟩, .slice xa on xc) :: Y : List (Fm × Value)).reverse))) := by
                            unfold Hid
                            have h9 := HSP.out.1
                            rw [List.length_cons, ← HM.out, ← HN9.out] at h9
                            exact h9
                          have hszV : w.heap.size ≤ V3.heap.size := HS7.out.2.2.size
                          have hn9b : n9 ≤ 1000002 := by have := HN9.out; omega
                          clear HS7 HR7
                          go_wp2_with (at_builtin; refine wpList_append_far _ (by rfl) (.tmp 107) (.tmp 113) 61 (by rfl) w.heap.size 60 iT _ 4 48 Try.underlying61 hiT z0 z1 z2 (by rfl) (by decide) (.slice (some ⟨g, 0, none⟩) n9 c) n9 (fms (((⟨own, oth, lf', nx'⟩, .slice xa on xc) :: Y : List (Fm × Value)).reverse)) (by rfl) HRS.out ⟨_, 0, none⟩ 1 1 (#[.slice qa qn qc, .int .i64 oth2, .int .i64 aks, .int .i64 0] : Array Value).toList (by rfl) (by decide) (by rfl) (lit_news (cs := #[.slice qa qn qc, .int .i64 oth2, .int .i64 aks, .int .i64 0]) (t := 60)) (by simp [Value.oneCell']) (by unfold maxLen; omega) (by omega) (by simp; omega) ?_; intro v9 w9 hin9 hg9 hl9)
                          have HU9 : Hid (Up w w9) := Below.grown HSP.out.2.2 hg9 (by simp; omega) (fun k9 hk9 => (World.ownsRow.lt HRS.out k9 hk9).1)
                          have HSF : Hid (SK w w9 v9 ((fnew ⟨aop, 0, an, 0, at_, aps, aks⟩, .slice qa qn qc) :: (⟨own, oth, lf', nx'⟩, .slice xa on xc) :: Y)) := by
                            refine HSP.out.push (y := (fnew ⟨aop, 0, an, 0, at_, aps, aks⟩, .slice qa qn qc)) HRP.out ?_ hg9 HU9.out
                            have e1 : fmc (fnew ⟨aop, 0, an, 0, at_, aps, aks⟩, .slice qa qn qc) = [.slice qa qn qc, .int .i64 oth2, .int .i64 aks, .int .i64 0] := by
                              unfold fmc fnew
                              simp only
                              rw [HO2.out, Int.toNat_of_nonneg hks0]
                              rfl
                            rw [e1, List.length_cons, ← HM.out, ← HN9.out]
                            exact hin9
                          have HXF : Hid (∀ x ∈ ((fnew ⟨aop, 0, an, 0, at_, aps, aks⟩, .slice qa qn qc) :: (⟨own, oth, lf', nx'⟩, .slice xa on xc) :: Y : List (Fm × Value)), FOk x.1 ∧ x.1.left ≤ 9223372036854775807 ∧ x.1.next ≤ i + 1) := fun x hx => by
                            have h1 := HKK.out
                            have h2 := HLF.out
                            have h3 := HNX.out
                            rcases List.mem_cons.1 hx with rfl | hx
                            · exact ⟨fnew_ok _, by show aks.toNat ≤ _; omega, Nat.zero_le _⟩
                            rcases List.mem_cons.1 hx with rfl | hx
                            · exact ⟨HOK.out, by show lf' ≤ _; omega, by show nx' ≤ _; omega⟩
                            · obtain ⟨k1, k2, k3⟩ := HXY.out x hx
                              exact ⟨k1, k2, Nat.le_succ_of_le k3⟩
                          have HLF9 : Hid (((fnew ⟨aop, 0, an, 0, at_, aps, aks⟩, .slice qa qn qc) :: (⟨own, oth, lf', nx'⟩, .slice xa on xc) :: Y : List (Fm × Value)).length ≤ i + 1 + 1) := by
                            unfold Hid
                            rw [List.length_cons, List.length_cons, ← HM.out]
                            omega
                          clear hin9 hg9 hl9 HRS HRP HSP
                          go_roundw
                          case rel => exact ⟨i + 1, _, by omega, by go_num, HSF.out, HLF9.out, HXF.out, HFS.out⟩
                          case measure => simp [intOf]; omega
                · have hk2 : (am != 0) = true := by simpa using hk
                  have HKF : Hid ((am == 0) = false) := by unfold Hid; simpa using hk
                  clear hk
                  refine TailR.wp_region_seqC 34 (fun w' => ∃ U : UW w3, w' = U.W) ⟨⟨_, (Up.refl _).drewN 1⟩, rfl⟩ (by kernel_rfl) (by kernel_rfl) ?_
                  simp only [List.take_succ_cons, List.take_zero, List.drop_succ_cons, List.drop_zero]
                  repeat (go_big_quiet_step (first | with_reducible exact HQ1.out _ | with_reducible exact HQ2.out _))
                  refine wpQuiet_nil ?_
                  intro _ hw'
                  obtain ⟨U, hw''⟩ := hw'
                  subst hw''
                  go_wp2
                  rw [HPo.out, HNO.out (by rw [HKF.out]; rfl)]
                  exact ⟨rfl, HU3.out.trans U.up⟩
              · have hk2 : (akd != 0) = true := by simpa using hk
                have HKF : Hid ((akd == 0) = false) := by unfold Hid; simpa using hk
                clear hk
                refine TailR.wp_region_seqC 34 (fun w' => ∃ U : UW w3, w' = U.W) ⟨⟨_, (Up.refl _).drewN 1⟩, rfl⟩ (by kernel_rfl) (by kernel_rfl) ?_
                simp only [List.take_succ_cons, List.take_zero, List.drop_succ_cons, List.drop_zero]
                repeat (go_big_quiet_step (first | with_reducible exact HQ1.out _ | with_reducible exact HQ2.out _))
                refine wpQuiet_nil ?_
                intro _ hw'
                obtain ⟨U, hw''⟩ := hw'
                subst hw''
                go_wp2
                rw [HPo.out, HNO.out (by rw [HKF.out]; rfl)]
                exact ⟨rfl, HU3.out.trans U.up⟩
    · obtain rfl : i = n := by omega
      have HE1 : Hid (popF (X.map (·.1)) = [] → shpR l = -1) := fun h => by
        unfold shpR
        rw [HF.out, List.drop_eq_nil_of_le (by have := HN.out; omega), fsh, if_pos h]
        rfl
      have HE2 : Hid (popF (X.map (·.1)) ≠ [] → shpR l = (i : Int)) := fun h => by
        unfold shpR
        rw [HF.out, List.drop_eq_nil_of_le (by have := HN.out; omega), fsh, if_neg h]
        rfl
      obtain ⟨m0, hm0⟩ : ∃ m0, m0 = X.length := ⟨_, rfl⟩
      rw [← hm0] at HSK ⊢
      have HM0 : Hid (m0 = X.length) := hm0
      clear hm0
      go_wp2_with fail
      go_loopw [3] (fun s3 W => ∃ Y : List (Fm × Value), SK w W s3 Y ∧ Y.length ≤ i + 1 ∧ popF (Y.map (·.1)) = popF (X.map (·.1))) (fun s3 _ => lenOf s3)
      case atStart => exact ⟨X, HSK.out, HLN.out, rfl⟩
      case round =>
        obtain ⟨Y, hsk, hlen, hpp⟩ := hrel
        have HPP : Hid (popF (Y.map (·.1)) = popF (X.map (·.1))) := hpp
        have HUW : Hid (Up w wr) := hsk.2.2
        have hi9 : i ≤ 1000000 := by omega
        clear hpp HF HSK HX HLN HM0
        cases Y with
        | nil =>
          obtain ⟨ya, yc, rfl⟩ := row_val hsk.1
          have HE : Hid (shpR l = -1) := HE1.out (by rw [← HPP.out]; rfl)
          clear hsk hlen
          go_wp2_with fail
          rw [HPo.out, HE.out]
          exact ⟨rfl, HUW.out⟩
        | cons x Y =>
          obtain ⟨g, c, rfl, hgw, hMc, hrowS, hcells⟩ := hsk.top
          obtain ⟨⟨own, oth, lf, nx⟩, xv⟩ := x
          have y2 : wr.cell? ⟨g, Y.length * 4 + 2, none⟩ = some (.int .i64 (lf : Int)) := hcells 2 (by omega)
          have HSK2 : Hid (SK w wr (.slice (some ⟨g, 0, none⟩) (Y.length + 1) c) ((⟨own, oth, lf, nx⟩, xv) :: Y)) := hsk
          have hlY : Y.length + 1 ≤ i + 1 := by simpa using hlen
          obtain ⟨M, hM⟩ : ∃ M, M = Y.length := ⟨_, rfl⟩
          rw [← hM] at y2 hMc hlY HSK2 ⊢
          have HM : Hid (M = Y.length) := hM
          obtain ⟨n9, hn9⟩ : ∃ n9, n9 = M + 1 := ⟨_, rfl⟩
          have HN9 : Hid (n9 = M + 1) := hn9
          rw [← hn9] at HSK2 hMc ⊢
          have ewM : IntKind.i64.wrap ((n9 : Int) - 1) = (M : Int) := by rw [IntKind.wrap_i64]; omega
          have hM1 : (M : Int) < (n9 : Int) := by omega
          have hM2 : (0 : Int) < (n9 : Int) := by omega
          have hM3 : M ≤ c := by omega
          have hM5 : ¬ n9 = 0 := by omega
          have hM6 : 0 < n9 := by omega
          have hMn : M < n9 := by omega
          clear hsk hlen hcells hrowS hM hn9
          by_cases hl0 : lf = 0
          · subst hl0
            have HPN : Hid (SK w wr (.slice (some ⟨g, 0, none⟩) M c) Y) := by
              unfold Hid
              have h9 := HSK2.out.pop
              rw [← HM.out] at h9
              exact h9
            have HP3 : Hid (popF (Y.map (·.1)) = popF (X.map (·.1))) := by
              unfold Hid
              rw [← HPP.out]
              rfl
            have HLY : Hid (Y.length ≤ i + 1) := by have := HM.out; unfold Hid; omega
            clear HSK2 HPP
            go_wp2_with fail
            go_roundw
            case rel => exact ⟨Y, HPN.out, HLY.out, HP3.out⟩
            case measure => have := HN9.out; simp [lenOf]; omega
          · have HE : Hid (shpR l = (i : Int)) := HE2.out (by
              rw [← HPP.out]
              show popF (⟨own, oth, lf, nx⟩ :: Y.map (·.1)) ≠ []
              rw [popF_on (by exact hl0)]
              simp)
            have hl1 : ((lf : Int) == 0) = false := by simpa using hl0
            have hl2 : ¬ (lf : Int) = 0 := by omega
            clear hl0
            go_wp2_with fail
            rw [HPo.out, HE.out]
            exact ⟨rfl, HUW.out⟩
end TR
end Go.Proofs.Ytgahdppcdeefaaa
