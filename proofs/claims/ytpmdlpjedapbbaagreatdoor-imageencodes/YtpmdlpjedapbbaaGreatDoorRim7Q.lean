/-
  The document's head and Image.
-/
import Derived.Test.YtpmdlpjedapbbaaGreatDoorLb7ToRpt7
namespace Go.Proofs.YtpmdlpjedapbbaaGreatDoor
open Go.RowKit
attribute [local go_sem ↓] Go.wp_at_zero Go.wp_at_succ

namespace IM
open Go.Proofs.YtpmdlpjedapbbaaGreatDoor.ST
/- the bytes so far, in a row of this call's own -/
def IB (w W0 : World) (B : List Int) (a : Option Addr) (n c : Nat) (W : World) : Prop := n = B.length ∧ W.ownsRow w.heap.size 5 1 (.slice a n c) n (bvs B) ∧ Tk w.heap.size W0 W ∧ Up w W
theorem IB.alloc {w W0 : World} {B : List Int} {a : Option Addr} {n c : Nat} {W : World} (h : IB w W0 B a n c W) (o : Obj) : IB w W0 B a n c (W.alloc o) := ⟨h.1, h.2.1.alloc o, h.2.2.1.trans (Tk.of_up ((Up.refl _).alloc o)), h.2.2.2.alloc o⟩
theorem putk (k : Nat) (f : Int → List Int) (hk : k ≤ 4) (hf : ∀ x, byn k x = f x) (w W0 : World) (B : List Int) (x : Int) (a : Option Addr) (n c : Nat) (W : World) (h : IB w W0 B a n c W) (hB : B.length ≤ 1000000000) : Calls Tryz.prog 77 #[.slice a n c, .int .i64 x, .int .i64 k] W fun r W' => ∃ a' n' c', r = .returned (.slice a' n' c') ∧ IB w W0 (B ++ f x) a' n' c' W' ∧ Tk w.heap.size W W' := by
  obtain ⟨h1, h2, h3, h4⟩ := h
  subst h1
  refine Calls.mono (rput_ w.heap.size _ B x k W h2 h4.size hB hk) ?_
  rintro r W' ⟨v, rfl, ho, ht⟩
  obtain ⟨a', c', hv⟩ := row_val ho
  subst hv
  rw [hf x] at ho
  refine ⟨a', _, c', by rw [hf x], ⟨rfl, ho, h3.trans ht, ht.up w h4 (Nat.le_refl _)⟩, ht⟩
set_option maxRecDepth 100000 in
theorem rhead_ (w : World) : Calls Tryz.prog 76 #[] w fun r W => r = .returned (.slice (some ⟨w.heap.size, 0, none⟩) 5 5) ∧ W = w.alloc (.cells #[.int .u8 84, .int .u8 66, .int .u8 76, .int .u8 83, .int .u8 1] 5) := by
  go_enter Tryz.func76, Tryz.ntmps76
  go_wp2
  go_ret
  exact ⟨rfl, rfl⟩
theorem own_new (base : Nat) (w : World) (vs : List Value) (e : TypeId) (hb : base ≤ w.heap.size) (hm : vs.length ≤ maxLen) : (w.alloc (.cells vs.toArray e)).ownsRow base e 1 (.slice (some ⟨w.heap.size, 0, none⟩) vs.length vs.length) vs.length vs := by
  refine ⟨by simp, .inr ⟨w.heap.size, vs.length, vs.toArray, rfl, hb, heap_alloc_new _ _, ?_⟩⟩
  simp [hm]
set_option maxRecDepth 100000 in
set_option maxHeartbeats 8000000 in
theorem rimage_ (v : Value) (s : Stt) (w : World) (hv : StL w v s) (hr : RS s) :
    Calls Tryz.prog 32 #[v] w fun x w' => ∃ vb, x = .returned vb ∧ w'.ownsRow w.heap.size 5 1 vb (img s).length (bvs (img s)) ∧ Up w w' := by
  obtain ⟨Post, hPost⟩ : ∃ P : Ending → World → Prop, P = fun x w' => ∃ vb, x = .returned vb ∧ w'.ownsRow w.heap.size 5 1 vb (img s).length (bvs (img s)) ∧ Up w w' := ⟨_, rfl⟩
  rw [← hPost]
  have HP : Hid (Post = fun x w' => ∃ vb, x = .returned vb ∧ w'.ownsRow w.heap.size 5 1 vb (img s).length (bvs (img s)) ∧ Up w w') := hPost
  obtain ⟨i5, hi5, z0, z1, z2⟩ := info_parts SM.info5
  obtain ⟨vp, vc, vz, hvv, h1, h2, h3⟩ := hv
  obtain ⟨a1, k1, rfl, -, c1⟩ := pl_at h1
  obtain ⟨a2, k2, rfl, -, c2⟩ := cl_at h2
  obtain ⟨a3, k3, rfl, -, c3⟩ := zl_at h3
  unfold sv at hvv
  have HC1 : Hid _ := c1
  have HC2 : Hid _ := c2
  have HC3 : Hid _ := c3
  have HR : Hid (RS s) := hr
  obtain ⟨n1, hn1⟩ : ∃ n, n = s.ps.length := ⟨_, rfl⟩
  obtain ⟨n2, hn2⟩ : ∃ n, n = s.cs.length := ⟨_, rfl⟩
  obtain ⟨n3, hn3⟩ : ∃ n, n = s.zs.length := ⟨_, rfl⟩
  have HN : Hid (n1 = s.ps.length ∧ n2 = s.cs.length ∧ n3 = s.zs.length) := ⟨hn1, hn2, hn3⟩
  have b1 : n1 < 256 := by rw [hn1]; exact hr.nps
  have b2 : n2 < 65536 := by rw [hn2]; exact hr.ncs
  have b3 : n3 < 1024 := by have := hr.nzs; omega
  rw [← hn1] at HC1 hvv
  rw [← hn2] at HC2 hvv
  rw [← hn3] at HC3 hvv
  have e4 := w64 hr.turn
  clear c1 c2 c3 h1 h2 h3 hn1 hn2 hn3 hPost
  subst hvv
  obtain ⟨turn, hturn⟩ : ∃ n, n = s.turn := ⟨_, rfl⟩
  obtain ⟨whose, hwhose⟩ : ∃ n, n = s.whose := ⟨_, rfl⟩
  obtain ⟨fin, hfin⟩ : ∃ n, n = s.fin := ⟨_, rfl⟩
  obtain ⟨winner, hwinner⟩ : ∃ n, n = s.winner := ⟨_, rfl⟩
  have HI : Hid (img s = mk ++ (by1 (n1 : Int) ++ (s.ps.flatMap plyI ++ (by2 (n2 : Int) ++ (s.cs.flatMap crdI ++ (s.zs.flatMap zonI ++ (by4 turn ++ (by1 whose ++ (by1 fin ++ by1 winner))))))))) := by
    unfold Hid img
    rw [hturn, hwhose, hfin, hwinner, HN.out.1, HN.out.2.1]
  rw [← hturn] at e4
  rw [← hturn, ← hwhose, ← hfin, ← hwinner]
  clear hturn hwhose hfin hwinner hr
  obtain ⟨A, hA⟩ : ∃ A : Array Value, A = #[.slice a1 n1 k1, .slice a2 n2 k2, .slice a3 n3 k3, .int .i32 turn, .int .i64 whose, .int .i8 fin, .int .i64 winner] := ⟨_, rfl⟩
  obtain ⟨W0, hW0⟩ : ∃ W0, w.alloc (.cells A 27) = W0 := ⟨_, rfl⟩
  have g0 : W0.heap[w.heap.size]? = some (.cells A 27 (0, 0)) := by rw [← hW0]; exact heap_alloc_new _ _
  have u0 : Up w W0 := by rw [← hW0]; exact (Up.refl _).alloc _
  rw [hA] at hW0
  have HG : Hid (∀ W, Tk w.heap.size W0 W → ∀ j, W.cell? ⟨w.heap.size, j, none⟩ = A[j]?) := fun W tk j => by
    have := tk.ty _ _ _ _ g0 (by decide)
    simp only [World.cell?, this]
    rfl
  have HA : Hid (A[0]? = some (.slice a1 n1 k1) ∧ A[1]? = some (.slice a2 n2 k2) ∧ A[2]? = some (.slice a3 n3 k3) ∧ A[3]? = some (.int .i32 turn) ∧ A[4]? = some (.int .i64 whose) ∧ A[5]? = some (.int .i8 fin) ∧ A[6]? = some (.int .i64 winner)) := by rw [hA]; exact ⟨rfl, rfl, rfl, rfl, rfl, rfl, rfl⟩
  have HP1 : Hid (∀ (B : List Int) (x : Int) (a : Option Addr) (n c : Nat) (W : World), IB w W0 B a n c W → B.length ≤ 1000000000 → Calls Tryz.prog 77 #[.slice a n c, .int .i64 x, .int .i64 1] W fun r W' => ∃ a' n' c', r = .returned (.slice a' n' c') ∧ IB w W0 (B ++ by1 x) a' n' c' W' ∧ Tk w.heap.size W W') := fun B x a n c W h hB => putk 1 by1 (by decide) byn1 w W0 B x a n c W h hB
  have HP2 : Hid (∀ (B : List Int) (x : Int) (a : Option Addr) (n c : Nat) (W : World), IB w W0 B a n c W → B.length ≤ 1000000000 → Calls Tryz.prog 77 #[.slice a n c, .int .i64 x, .int .i64 2] W fun r W' => ∃ a' n' c', r = .returned (.slice a' n' c') ∧ IB w W0 (B ++ by2 x) a' n' c' W' ∧ Tk w.heap.size W W') := fun B x a n c W h hB => putk 2 by2 (by decide) byn2 w W0 B x a n c W h hB
  have HP4 : Hid (∀ (B : List Int) (x : Int) (a : Option Addr) (n c : Nat) (W : World), IB w W0 B a n c W → B.length ≤ 1000000000 → Calls Tryz.prog 77 #[.slice a n c, .int .i64 x, .int .i64 4] W fun r W' => ∃ a' n' c', r = .returned (.slice a' n' c') ∧ IB w W0 (B ++ by4 x) a' n' c' W' ∧ Tk w.heap.size W W') := fun B x a n c W h hB => putk 4 by4 (by decide) byn4 w W0 B x a n c W h hB
  have HHD : Hid (Calls Tryz.prog 76 #[] W0 fun r W => r = .returned (.slice (some ⟨W0.heap.size, 0, none⟩) 5 5) ∧ IB w W0 mk (some ⟨W0.heap.size, 0, none⟩) 5 5 W) := by
    refine Calls.mono (rhead_ W0) ?_
    rintro r W ⟨rfl, rfl⟩
    exact ⟨rfl, rfl, own_new w.heap.size W0 [.int .u8 84, .int .u8 66, .int .u8 76, .int .u8 83, .int .u8 1] 5 u0.size (by decide), Tk.of_up ((Up.refl _).alloc _), u0.alloc _⟩
  obtain ⟨a50, ha50⟩ : ∃ a : Option Addr, a = some ⟨W0.heap.size, 0, none⟩ := ⟨_, rfl⟩
  rw [← ha50] at HHD
  clear hA g0 u0 ha50
  go_enter Tryz.func32, Tryz.ntmps32
  go_wp2_with fail
  first | (refine calls_world hW0 (Calls.mono HHD.out ?_)) | (refine Calls.mono HHD.out ?_)
  rintro r V50 ⟨rfl, jz⟩
  obtain ⟨n50, hn50⟩ : ∃ n : Nat, n = 5 := ⟨_, rfl⟩
  obtain ⟨c50, hc50⟩ : ∃ n : Nat, n = 5 := ⟨_, rfl⟩
  have HJ50 : Hid (IB w W0 mk a50 n50 c50 V50) := by unfold Hid; rw [hn50, hc50]; exact jz
  rw [show Value.slice a50 5 5 = Value.slice a50 n50 c50 by rw [hn50, hc50]]
  clear jz hn50 hc50 hW0 HHD
  have x0 : V50.cell? ⟨w.heap.size, 0, none⟩ = some (.slice a1 n1 k1) := by rw [HG.out V50 HJ50.out.2.2.1, HA.out.1]
  have hmk : mk.length = 5 := rfl
  go_wp2_with fail
  refine Calls.mono (HP1.out (mk) (n1 : Int) a50 n50 c50 V50 HJ50.out (by omega)) ?_
  rintro r V101 ⟨a101, n101, c101, rfl, jz, tz⟩
  have HJ101 : Hid (IB w W0 (mk ++ by1 (n1 : Int)) a101 n101 c101 V101) := jz
  clear jz tz
  have x0 : V101.cell? ⟨w.heap.size, 0, none⟩ = some (.slice a1 n1 k1) := by rw [HG.out V101 HJ101.out.2.2.1, HA.out.1]
  clear HJ50 hmk
  go_wp2_with fail
  have HB1 : Hid (∀ i, (mk ++ by1 (n1 : Int) ++ (s.ps.take i).flatMap plyI).length ≤ 100000) := fun i => by
    have := flat_le plyI 9 s.ps i (fun x _ => by simp [plyI, by4, by1])
    rw [← HN.out.1] at this
    simp only [List.length_append, mk, by1, List.length_cons, List.length_nil]
    omega
  go_loopw [3, 4] (fun s3 s4 W => ∃ (i : Nat) (a : Option Addr) (n c : Nat), i ≤ n1 ∧ s4 = .int .i64 i ∧ s3 = .slice a n c ∧ IB w W0 (mk ++ by1 (n1 : Int) ++ (s.ps.take i).flatMap plyI) a n c W) (fun _ s4 _ => n1 - (intOf s4).toNat)
  case atStart => exact ⟨0, a101, n101, c101, Nat.zero_le _, rfl, rfl, by simpa using HJ101.out⟩
  case round =>
    obtain ⟨i, a60, n60, c60, hi, rfl, rfl, h1⟩ := hrel
    clear HJ101 x0
    have HJ60 : Hid (IB w W0 (mk ++ by1 (n1 : Int) ++ (s.ps.take i).flatMap plyI) a60 n60 c60 wr) := h1
    clear h1
    have x0 : wr.cell? ⟨w.heap.size, 0, none⟩ = some (.slice a1 n1 k1) := by rw [HG.out wr HJ60.out.2.2.1, HA.out.1]
    by_cases hlt : i < n1
    · have hlt2 : (i : Int) < (n1 : Int) := by omega
      have ei : IntKind.i64.wrap ((i : Int) + 1) = ((i + 1 : Nat) : Int) := by rw [IntKind.wrap_i64]; omega
      obtain ⟨b, off, rfl, hc⟩ := HC1.out (by omega)
      obtain ⟨y0, y1, y2⟩ := hc wr HJ60.out.2.2.2 i hlt
      have HFM : Hid (mk ++ by1 (n1 : Int) ++ (s.ps.take (i + 1)).flatMap plyI = mk ++ by1 (n1 : Int) ++ (s.ps.take i).flatMap plyI ++ plyI (s.ps.getD i dp)) := by
        unfold Hid
        rw [flat_more plyI s.ps i dp (by rw [← HN.out.1]; exact hlt)]
        simp only [List.append_assoc]
      have hq := HR.out.ps _ (mem_getD dp (show i < s.ps.length by rw [← HN.out.1]; exact hlt))
      have hBl := HB1.out i
      generalize mk ++ by1 (n1 : Int) ++ (s.ps.take i).flatMap plyI = B at *
      generalize s.ps.getD i dp = q at *
      have e1 := w64 hq.1
      have e2 := w64 hq.2
      clear hc hq
      obtain ⟨V, hV⟩ : ∃ V, wr.alloc (.cells #[.int .i32 q.life, .int .i32 q.energy, .bool q.out] 44) = V := ⟨_, rfl⟩
      have hq2 : V.heap[wr.heap.size]? = some (.cells #[.int .i32 q.life, .int .i32 q.energy, .bool q.out] 44 (0, 0)) := by rw [← hV]; exact heap_alloc_new _ _
      have HJ61 : Hid (IB w W0 B a60 n60 c60 V) := by unfold Hid; rw [← hV]; exact HJ60.out.alloc _
      have HQ : Hid (∀ W, Tk w.heap.size V W → W.cell? ⟨wr.heap.size, 0, none⟩ = some (.int .i32 q.life) ∧ W.cell? ⟨wr.heap.size, 1, none⟩ = some (.int .i32 q.energy) ∧ W.cell? ⟨wr.heap.size, 2, none⟩ = some (.bool q.out)) := fun W tk => by
        have := tk.ty _ _ _ _ hq2 (by decide)
        simp only [World.cell?, this]
        exact ⟨rfl, rfl, rfl⟩
      obtain ⟨q0, q1, q2⟩ := HQ.out V (Tk.refl _ _)
      clear hq2 HJ60
      obtain ⟨a61, n61, c61, h61⟩ : ∃ a n c, a = a60 ∧ n = n60 ∧ c = c60 := ⟨_, _, _, rfl, rfl, rfl⟩
      obtain ⟨rfl, rfl, rfl⟩ := h61
      go_wp2_with fail
      first | (refine Calls.mono (HP4.out (B) q.life a61 n61 c61 V HJ61.out (by omega)) ?_) | (refine calls_world hV (Calls.mono (HP4.out (B) q.life a61 n61 c61 V HJ61.out (by omega)) ?_))
      rintro r V102 ⟨a102, n102, c102, rfl, jz, tz⟩
      have HJ102 : Hid (IB w W0 (B ++ by4 q.life) a102 n102 c102 V102) := jz
      have HT102 : Hid (Tk w.heap.size V V102) := (Tk.refl _ V).trans tz
      clear jz tz
      have q1 := (HQ.out V102 HT102.out).2.1
      go_wp2_with fail
      refine Calls.mono (HP4.out (B ++ by4 q.life) q.energy a102 n102 c102 V102 HJ102.out (by simp only [List.length_append, by4, List.length_cons, List.length_nil]; omega)) ?_
      rintro r V103 ⟨a103, n103, c103, rfl, jz, tz⟩
      have HJ103 : Hid (IB w W0 (B ++ by4 q.life ++ by4 q.energy) a103 n103 c103 V103) := jz
      have HT103 : Hid (Tk w.heap.size V V103) := HT102.out.trans tz
      clear jz tz
      have q2 := (HQ.out V103 HT103.out).2.2
      cases hqo : q.out with
      | false =>
        rw [hqo] at q2
        have HV104 : Hid ((V103.alloc (.cells #[Value.int .u8 0] 5)).ownsRow w.heap.size 5 1 (.slice a103 n103 c103) n103 (bvs (B ++ by4 q.life ++ by4 q.energy))) := HJ103.out.2.1.alloc _
        have HM104 : Hid (∀ j u, [Value.int .u8 0][j]? = some u → (V103.alloc (.cells #[Value.int .u8 0] 5)).cell? ((⟨V103.heap.size, 0, none⟩ : Addr).add j) = some u) := World.news_of_block (cs := #[Value.int .u8 0]) (t := 5) (fr := (0, 0)) (heap_alloc_new V103 _)
        have hs104 := HJ103.out.2.2.2.size
        have HS104 : Hid (w.heap.size ≤ (V103.alloc (.cells #[Value.int .u8 0] 5)).heap.size) := by unfold Hid; simp; omega
        have hl104 : n103 ≤ 1000000000 := by rw [HJ103.out.1]; simp only [List.length_append, by4, List.length_cons, List.length_nil]; omega
        have HF104 : Hid (∀ v' V, V.ownsRow w.heap.size 5 1 v' (n103 + 1) (bvs (B ++ by4 q.life ++ by4 q.energy) ++ [Value.int .u8 0]) → (V103.alloc (.cells #[Value.int .u8 0] 5)).grownBy V (Value.slice a103 n103 c103).ownBlock → V.ownsRow w.heap.size 5 1 v' (n103 + 1) (bvs (B ++ by4 q.life ++ by4 q.energy ++ [0])) ∧ Tk w.heap.size V103 V) := fun v' V h1 h2 => by
          refine ⟨?_, tk_grown HJ103.out.2.1 hs104 h2⟩
          rw [show bvs (B ++ by4 q.life ++ by4 q.energy ++ [0]) = bvs (B ++ by4 q.life ++ by4 q.energy) ++ [Value.int .u8 0] by simp [bvs]]
          exact h1
        go_wp2_with (at_builtin; go_loud (refine wpList_append_own _ (by rfl) (.tmp 41) (.tmp 43) 31 (by rfl) w.heap.size 5 i5 _ 1 1 Tryz.underlying31 hi5 z0 z1 z2 (by rfl) (by decide) (.slice a103 n103 c103) n103 (bvs (B ++ by4 q.life ++ by4 q.energy)) (by rfl) HV104.out ⟨V103.heap.size, 0, none⟩ 1 1 [Value.int .u8 0] (by rfl) (by rfl) HM104.out (by simp [Value.oneCell']) (by unfold maxLen; omega) (by omega) HS104.out ?_; intro v' V104 hin hg1 _; have HG104 : Hid _ := HF104.out v' V104 hin hg1; obtain ⟨a104, c104, hva⟩ : ∃ a c, v' = Value.slice a (n103 + 1) c := row_val hin; subst hva; clear hin hg1))
        go_roundw
        case rel =>
          refine ⟨i + 1, _, _, _, by omega, by go_num, rfl, ?_⟩
          rw [HFM.out]
          have hBq : B ++ plyI q = B ++ by4 q.life ++ by4 q.energy ++ [0] := by simp only [plyI, hqo, by1, oneI, List.append_assoc]; rfl
          refine ⟨?_, ?_, HJ103.out.2.2.1.trans HG104.out.2, HG104.out.2.up w HJ103.out.2.2.2 (Nat.le_refl _)⟩
          · rw [HJ103.out.1, hBq]; simp only [List.length_append, List.length_cons, List.length_nil]
          · rw [hBq]; exact HG104.out.1
        case measure => simp [intOf]; omega
      | true =>
        rw [hqo] at q2
        have HV105 : Hid ((V103.alloc (.cells #[Value.int .u8 1] 5)).ownsRow w.heap.size 5 1 (.slice a103 n103 c103) n103 (bvs (B ++ by4 q.life ++ by4 q.energy))) := HJ103.out.2.1.alloc _
        have HM105 : Hid (∀ j u, [Value.int .u8 1][j]? = some u → (V103.alloc (.cells #[Value.int .u8 1] 5)).cell? ((⟨V103.heap.size, 0, none⟩ : Addr).add j) = some u) := World.news_of_block (cs := #[Value.int .u8 1]) (t := 5) (fr := (0, 0)) (heap_alloc_new V103 _)
        have hs105 := HJ103.out.2.2.2.size
        have HS105 : Hid (w.heap.size ≤ (V103.alloc (.cells #[Value.int .u8 1] 5)).heap.size) := by unfold Hid; simp; omega
        have hl105 : n103 ≤ 1000000000 := by rw [HJ103.out.1]; simp only [List.length_append, by4, List.length_cons, List.length_nil]; omega
        have HF105 : Hid (∀ v' V, V.ownsRow w.heap.size 5 1 v' (n103 + 1) (bvs (B ++ by4 q.life ++ by4 q.energy) ++ [Value.int .u8 1]) → (V103.alloc (.cells #[Value.int .u8 1] 5)).grownBy V (Value.slice a103 n103 c103).ownBlock → V.ownsRow w.heap.size 5 1 v' (n103 + 1) (bvs (B ++ by4 q.life ++ by4 q.energy ++ [1])) ∧ Tk w.heap.size V103 V) := fun v' V h1 h2 => by
          refine ⟨?_, tk_grown HJ103.out.2.1 hs105 h2⟩
          rw [show bvs (B ++ by4 q.life ++ by4 q.energy ++ [1]) = bvs (B ++ by4 q.life ++ by4 q.energy) ++ [Value.int .u8 1] by simp [bvs]]
          exact h1
        go_wp2_with (at_builtin; go_loud (refine wpList_append_own _ (by rfl) (.tmp 41) (.tmp 43) 31 (by rfl) w.heap.size 5 i5 _ 1 1 Tryz.underlying31 hi5 z0 z1 z2 (by rfl) (by decide) (.slice a103 n103 c103) n103 (bvs (B ++ by4 q.life ++ by4 q.energy)) (by rfl) HV105.out ⟨V103.heap.size, 0, none⟩ 1 1 [Value.int .u8 1] (by rfl) (by rfl) HM105.out (by simp [Value.oneCell']) (by unfold maxLen; omega) (by omega) HS105.out ?_; intro v' V105 hin hg1 _; have HG105 : Hid _ := HF105.out v' V105 hin hg1; obtain ⟨a105, c105, hva⟩ : ∃ a c, v' = Value.slice a (n103 + 1) c := row_val hin; subst hva; clear hin hg1))
        go_roundw
        case rel =>
          refine ⟨i + 1, _, _, _, by omega, by go_num, rfl, ?_⟩
          rw [HFM.out]
          have hBq : B ++ plyI q = B ++ by4 q.life ++ by4 q.energy ++ [1] := by simp only [plyI, hqo, by1, oneI, List.append_assoc]; rfl
          refine ⟨?_, ?_, HJ103.out.2.2.1.trans HG105.out.2, HG105.out.2.up w HJ103.out.2.2.2 (Nat.le_refl _)⟩
          · rw [HJ103.out.1, hBq]; simp only [List.length_append, List.length_cons, List.length_nil]
          · rw [hBq]; exact HG105.out.1
        case measure => simp [intOf]; omega
    · have hlt2 : ¬ (i : Int) < (n1 : Int) := by omega
      obtain rfl : i = n1 := by omega
      have HJ70 : Hid (IB w W0 (mk ++ by1 (i : Int) ++ s.ps.flatMap plyI) a60 n60 c60 wr) := by
        have h9 := HJ60.out
        rw [HN.out.1, List.take_length, ← HN.out.1] at h9
        exact h9
      have hBl : (mk ++ by1 (i : Int) ++ s.ps.flatMap plyI).length ≤ 100000 := by
        have h9 := HB1.out i
        rw [HN.out.1, List.take_length, ← HN.out.1] at h9
        exact h9
      have HI2 : Hid (img s = (mk ++ by1 (i : Int) ++ s.ps.flatMap plyI) ++ (by2 (n2 : Int) ++ (s.cs.flatMap crdI ++ (s.zs.flatMap zonI ++ (by4 turn ++ (by1 whose ++ (by1 fin ++ by1 winner))))))) := by
        unfold Hid
        rw [HI.out]
        simp only [List.append_assoc]
      generalize mk ++ by1 (i : Int) ++ s.ps.flatMap plyI = B at *
      have x1 : wr.cell? ⟨w.heap.size, 1, none⟩ = some (.slice a2 n2 k2) := by rw [HG.out wr HJ70.out.2.2.1, HA.out.2.1]
      clear HJ60 HB1 HI hlt
      obtain ⟨a70, n70, c70, h61⟩ : ∃ a n c, a = a60 ∧ n = n60 ∧ c = c60 := ⟨_, _, _, rfl, rfl, rfl⟩
      obtain ⟨rfl, rfl, rfl⟩ := h61
      go_wp2_with fail
      refine Calls.mono (HP2.out (B) (n2 : Int) a70 n70 c70 wr HJ70.out (by omega)) ?_
      rintro r V106 ⟨a106, n106, c106, rfl, jz, tz⟩
      have HJ106 : Hid (IB w W0 (B ++ by2 (n2 : Int)) a106 n106 c106 V106) := jz
      clear jz tz
      have x1 : V106.cell? ⟨w.heap.size, 1, none⟩ = some (.slice a2 n2 k2) := by rw [HG.out V106 HJ106.out.2.2.1, HA.out.2.1]
      clear HJ70 x0
      go_wp2_with fail
      have HB2 : Hid (∀ j, (B ++ by2 (n2 : Int) ++ (s.cs.take j).flatMap crdI).length ≤ 2000000) := fun j => by
        have := flat_le crdI 19 s.cs j (fun x _ => by simp [crdI, by4, by2, by1])
        rw [← HN.out.2.1] at this
        simp only [List.length_append, by2, List.length_cons, List.length_nil]
        omega
      go_loopw [3, 7] (fun s3 s7 W => ∃ (j : Nat) (a : Option Addr) (n c : Nat), j ≤ n2 ∧ s7 = .int .i64 j ∧ s3 = .slice a n c ∧ IB w W0 (B ++ by2 (n2 : Int) ++ (s.cs.take j).flatMap crdI) a n c W) (fun _ s7 _ => n2 - (intOf s7).toNat)
      case atStart => exact ⟨0, a106, n106, c106, Nat.zero_le _, rfl, rfl, by simpa using HJ106.out⟩
      case round =>
        obtain ⟨j, a71, n71, c71, hj, rfl, rfl, h1⟩ := hrel
        clear HJ106 x1
        have HJ71 : Hid (IB w W0 (B ++ by2 (n2 : Int) ++ (s.cs.take j).flatMap crdI) a71 n71 c71 wr) := h1
        clear h1
        have x1 : wr.cell? ⟨w.heap.size, 1, none⟩ = some (.slice a2 n2 k2) := by rw [HG.out wr HJ71.out.2.2.1, HA.out.2.1]
        by_cases hlt : j < n2
        · have hlt2 : (j : Int) < (n2 : Int) := by omega
          have ei : IntKind.i64.wrap ((j : Int) + 1) = ((j + 1 : Nat) : Int) := by rw [IntKind.wrap_i64]; omega
          obtain ⟨b, off, rfl, hc⟩ := HC2.out (by omega)
          obtain ⟨y0, y1, y2, y3, y4, y5⟩ := hc wr HJ71.out.2.2.2 j hlt
          have HFM : Hid (B ++ by2 (n2 : Int) ++ (s.cs.take (j + 1)).flatMap crdI = B ++ by2 (n2 : Int) ++ (s.cs.take j).flatMap crdI ++ crdI (s.cs.getD j dc)) := by
            unfold Hid
            rw [flat_more crdI s.cs j dc (by rw [← HN.out.2.1]; exact hlt)]
            simp only [List.append_assoc]
          have hq := HR.out.cs _ (mem_getD dc (show j < s.cs.length by rw [← HN.out.2.1]; exact hlt))
          have hBl2 := HB2.out j
          generalize B ++ by2 (n2 : Int) ++ (s.cs.take j).flatMap crdI = C at *
          generalize s.cs.getD j dc = q at *
          have e1 := w64 hq.2.2.1
          have e2 := w64 hq.2.2.2.1
          have e3 := w64 hq.2.2.2.2.1
          have e5 := w64 hq.2.2.2.2.2
          clear hc hq
          obtain ⟨V, hV⟩ : ∃ V, wr.alloc (.cells #[.int .i64 q.kind, .int .i64 q.owner, .int .i32 q.power, .int .i32 q.health, .int .i32 q.damage, .int .i32 q.marks] 42) = V := ⟨_, rfl⟩
          have hq2 : V.heap[wr.heap.size]? = some (.cells #[.int .i64 q.kind, .int .i64 q.owner, .int .i32 q.power, .int .i32 q.health, .int .i32 q.damage, .int .i32 q.marks] 42 (0, 0)) := by rw [← hV]; exact heap_alloc_new _ _
          have HJ72 : Hid (IB w W0 C a71 n71 c71 V) := by unfold Hid; rw [← hV]; exact HJ71.out.alloc _
          have HQ : Hid (∀ W, Tk w.heap.size V W → W.cell? ⟨wr.heap.size, 0, none⟩ = some (.int .i64 q.kind) ∧ W.cell? ⟨wr.heap.size, 1, none⟩ = some (.int .i64 q.owner) ∧ W.cell? ⟨wr.heap.size, 2, none⟩ = some (.int .i32 q.power) ∧ W.cell? ⟨wr.heap.size, 3, none⟩ = some (.int .i32 q.health) ∧ W.cell? ⟨wr.heap.size, 4, none⟩ = some (.int .i32 q.damage) ∧ W.cell? ⟨wr.heap.size, 5, none⟩ = some (.int .i32 q.marks)) := fun W tk => by
            have := tk.ty _ _ _ _ hq2 (by decide)
            simp only [World.cell?, this]
            exact ⟨rfl, rfl, rfl, rfl, rfl, rfl⟩
          have q0 := (HQ.out V (Tk.refl _ _)).1
          clear hq2 HJ71
          obtain ⟨a72, n72, c72, h61⟩ : ∃ a n c, a = a71 ∧ n = n71 ∧ c = c71 := ⟨_, _, _, rfl, rfl, rfl⟩
          obtain ⟨rfl, rfl, rfl⟩ := h61
          go_wp2_with fail
          first | (refine Calls.mono (HP2.out (C) q.kind a72 n72 c72 V HJ72.out (by omega)) ?_) | (refine calls_world hV (Calls.mono (HP2.out (C) q.kind a72 n72 c72 V HJ72.out (by omega)) ?_))
          rintro r V107 ⟨a107, n107, c107, rfl, jz, tz⟩
          have HJ107 : Hid (IB w W0 (C ++ by2 q.kind) a107 n107 c107 V107) := jz
          have HT107 : Hid (Tk w.heap.size V V107) := (Tk.refl _ V).trans tz
          clear jz tz
          have q1 := (HQ.out V107 HT107.out).2.1
          go_wp2_with fail
          refine Calls.mono (HP1.out (C ++ by2 q.kind) q.owner a107 n107 c107 V107 HJ107.out (by simp only [List.length_append, by2, List.length_cons, List.length_nil]; omega)) ?_
          rintro r V108 ⟨a108, n108, c108, rfl, jz, tz⟩
          have HJ108 : Hid (IB w W0 (C ++ by2 q.kind ++ by1 q.owner) a108 n108 c108 V108) := jz
          have HT108 : Hid (Tk w.heap.size V V108) := HT107.out.trans tz
          clear jz tz
          have q2 := (HQ.out V108 HT108.out).2.2.1
          go_wp2_with fail
          refine Calls.mono (HP4.out (C ++ by2 q.kind ++ by1 q.owner) q.power a108 n108 c108 V108 HJ108.out (by simp only [List.length_append, by2, by1, List.length_cons, List.length_nil]; omega)) ?_
          rintro r V109 ⟨a109, n109, c109, rfl, jz, tz⟩
          have HJ109 : Hid (IB w W0 (C ++ by2 q.kind ++ by1 q.owner ++ by4 q.power) a109 n109 c109 V109) := jz
          have HT109 : Hid (Tk w.heap.size V V109) := HT108.out.trans tz
          clear jz tz
          have q3 := (HQ.out V109 HT109.out).2.2.2.1
          go_wp2_with fail
          refine Calls.mono (HP4.out (C ++ by2 q.kind ++ by1 q.owner ++ by4 q.power) q.health a109 n109 c109 V109 HJ109.out (by simp only [List.length_append, by4, by2, by1, List.length_cons, List.length_nil]; omega)) ?_
          rintro r V110 ⟨a110, n110, c110, rfl, jz, tz⟩
          have HJ110 : Hid (IB w W0 (C ++ by2 q.kind ++ by1 q.owner ++ by4 q.power ++ by4 q.health) a110 n110 c110 V110) := jz
          have HT110 : Hid (Tk w.heap.size V V110) := HT109.out.trans tz
          clear jz tz
          have q4 := (HQ.out V110 HT110.out).2.2.2.2.1
          go_wp2_with fail
          refine Calls.mono (HP4.out (C ++ by2 q.kind ++ by1 q.owner ++ by4 q.power ++ by4 q.health) q.damage a110 n110 c110 V110 HJ110.out (by simp only [List.length_append, by4, by2, by1, List.length_cons, List.length_nil]; omega)) ?_
          rintro r V111 ⟨a111, n111, c111, rfl, jz, tz⟩
          have HJ111 : Hid (IB w W0 (C ++ by2 q.kind ++ by1 q.owner ++ by4 q.power ++ by4 q.health ++ by4 q.damage) a111 n111 c111 V111) := jz
          have HT111 : Hid (Tk w.heap.size V V111) := HT110.out.trans tz
          clear jz tz
          have q5 := (HQ.out V111 HT111.out).2.2.2.2.2
          go_wp2_with fail
          refine Calls.mono (HP4.out (C ++ by2 q.kind ++ by1 q.owner ++ by4 q.power ++ by4 q.health ++ by4 q.damage) q.marks a111 n111 c111 V111 HJ111.out (by simp only [List.length_append, by4, by2, by1, List.length_cons, List.length_nil]; omega)) ?_
          rintro r V112 ⟨a112, n112, c112, rfl, jz, tz⟩
          have HJ112 : Hid (IB w W0 (C ++ by2 q.kind ++ by1 q.owner ++ by4 q.power ++ by4 q.health ++ by4 q.damage ++ by4 q.marks) a112 n112 c112 V112) := jz
          have HT112 : Hid (Tk w.heap.size V V112) := HT111.out.trans tz
          clear jz tz
          go_wp2_with fail
          go_roundw
          case rel =>
            refine ⟨j + 1, _, _, _, by omega, by go_num, rfl, ?_⟩
            rw [HFM.out]
            have := HJ112.out
            simpa only [crdI, List.append_assoc] using this
          case measure => simp [intOf]; omega
        · have hlt2 : ¬ (j : Int) < (n2 : Int) := by omega
          obtain rfl : j = n2 := by omega
          have HJ80 : Hid (IB w W0 (B ++ by2 (j : Int) ++ s.cs.flatMap crdI) a71 n71 c71 wr) := by
            have h9 := HJ71.out
            rw [HN.out.2.1, List.take_length, ← HN.out.2.1] at h9
            exact h9
          have hBl2 : (B ++ by2 (j : Int) ++ s.cs.flatMap crdI).length ≤ 2000000 := by
            have h9 := HB2.out j
            rw [HN.out.2.1, List.take_length, ← HN.out.2.1] at h9
            exact h9
          have HI3 : Hid (img s = (B ++ by2 (j : Int) ++ s.cs.flatMap crdI) ++ (s.zs.flatMap zonI ++ (by4 turn ++ (by1 whose ++ (by1 fin ++ by1 winner))))) := by
            unfold Hid
            rw [HI2.out]
            simp only [List.append_assoc]
          generalize B ++ by2 (j : Int) ++ s.cs.flatMap crdI = D at *
          have x2 : wr.cell? ⟨w.heap.size, 2, none⟩ = some (.slice a3 n3 k3) := by rw [HG.out wr HJ80.out.2.2.1, HA.out.2.2.1]
          clear HJ71 HB2 HI2 hlt hBl
          go_wp2_with fail
          clear x1
          have HB3 : Hid (∀ r, (D ++ (s.zs.take r).flatMap zonI).length ≤ 200000000) := fun r => by
            have := flat_le zonI 131074 s.zs r (fun x hx => by
              have h1 := (HR.out.zs x hx).1
              have h2 := flat_le by2 2 x x.length (fun _ _ => by simp [by2])
              rw [List.take_length] at h2
              simp only [zonI, List.length_append, by2, List.length_cons, List.length_nil] at h2 ⊢
              omega)
            rw [← HN.out.2.2] at this
            simp only [List.length_append]
            omega
          go_loopw [3, 9] (fun s3 s9 W => ∃ (r : Nat) (a : Option Addr) (n c : Nat), r ≤ n3 ∧ s9 = .int .i64 r ∧ s3 = .slice a n c ∧ IB w W0 (D ++ (s.zs.take r).flatMap zonI) a n c W) (fun _ s9 _ => n3 - (intOf s9).toNat)
          case atStart => exact ⟨0, _, _, _, Nat.zero_le _, rfl, rfl, by simpa using HJ80.out⟩
          case round =>
            obtain ⟨k, a81, n81, c81, hk, rfl, rfl, h1⟩ := hrel
            clear HJ80 x2
            have HJ81 : Hid (IB w W0 (D ++ (s.zs.take k).flatMap zonI) a81 n81 c81 wr) := h1
            clear h1
            have x2 : wr.cell? ⟨w.heap.size, 2, none⟩ = some (.slice a3 n3 k3) := by rw [HG.out wr HJ81.out.2.2.1, HA.out.2.2.1]
            by_cases hlt : k < n3
            · have hlt2 : (k : Int) < (n3 : Int) := by omega
              have ei : IntKind.i64.wrap ((k : Int) + 1) = ((k + 1 : Nat) : Int) := by rw [IntKind.wrap_i64]; omega
              obtain ⟨b, off, rfl, hc⟩ := HC3.out (by omega)
              obtain ⟨ra, rc, hrc, hil⟩ := hc k hlt
              have y0 := hrc wr HJ81.out.2.2.2
              have HFM : Hid (D ++ (s.zs.take (k + 1)).flatMap zonI = D ++ (s.zs.take k).flatMap zonI ++ zonI (s.zs.getD k [])) := by
                unfold Hid
                rw [flat_more zonI s.zs k [] (by rw [← HN.out.2.2]; exact hlt)]
                simp only [List.append_assoc]
              have hq := (HR.out.zs _ (mem_getD [] (show k < s.zs.length by rw [← HN.out.2.2]; exact hlt))).1
              have hBl3 := HB3.out k
              generalize D ++ (s.zs.take k).flatMap zonI = E at *
              generalize s.zs.getD k [] = z at *
              obtain ⟨ra', rc', hsl, -, hcell⟩ := il_at hil
              obtain ⟨rfl, -, rfl⟩ : ra = ra' ∧ z.length = z.length ∧ rc = rc' := by simpa using hsl
              have HCE : Hid _ := hcell
              obtain ⟨m, hm⟩ : ∃ m, m = z.length := ⟨_, rfl⟩
              have HM : Hid (m = z.length) := hm
              have HRC : Hid (∀ W', Up w W' → W'.cell? ⟨b, off + k, none⟩ = some (.slice ra m rc)) := fun W' u => by rw [hm]; exact hrc W' u
              rw [← hm] at y0 hq HCE
              clear hc hrc hil hsl hcell hm
              go_wp2_with fail
              refine Calls.mono (HP2.out (E) (m : Int) a81 n81 c81 wr HJ81.out (by omega)) ?_
              rintro r V113 ⟨a113, n113, c113, rfl, jz, tz⟩
              have HJ113 : Hid (IB w W0 (E ++ by2 (m : Int)) a113 n113 c113 V113) := jz
              clear jz tz
              have x2 : V113.cell? ⟨w.heap.size, 2, none⟩ = some (.slice (some ⟨b, off, none⟩) n3 k3) := by rw [HG.out V113 HJ113.out.2.2.1, HA.out.2.2.1]
              have y0 := HRC.out V113 HJ113.out.2.2.2
              go_wp2_with fail
              have HB4 : Hid (∀ x, (E ++ by2 (m : Int) ++ (z.take x).flatMap by2).length ≤ 300000000) := fun x => by
                have := flat_le by2 2 z x (fun _ _ => by simp [by2])
                rw [← HM.out] at this
                simp only [List.length_append, by2, List.length_cons, List.length_nil] at this ⊢
                omega
              clear HJ81
              go_loopw [3, 10] (fun s3 s10 W => ∃ (x : Nat) (a : Option Addr) (n c : Nat), x ≤ m ∧ s10 = .int .i64 x ∧ s3 = .slice a n c ∧ IB w W0 (E ++ by2 (m : Int) ++ (z.take x).flatMap by2) a n c W) (fun _ s10 _ => m - (intOf s10).toNat)
              case atStart => exact ⟨0, a113, n113, c113, Nat.zero_le _, rfl, rfl, by simpa using HJ113.out⟩
              case round =>
                obtain ⟨x, a82, n82, c82, hx, rfl, rfl, h1⟩ := hrel
                clear HJ113 y0 x2
                have HJ82 : Hid (IB w W0 (E ++ by2 (m : Int) ++ (z.take x).flatMap by2) a82 n82 c82 wr) := h1
                clear h1
                have x2 : wr.cell? ⟨w.heap.size, 2, none⟩ = some (.slice (some ⟨b, off, none⟩) n3 k3) := by rw [HG.out wr HJ82.out.2.2.1, HA.out.2.2.1]
                have y0 := HRC.out wr HJ82.out.2.2.2
                by_cases hlt3 : x < m
                · have hlt4 : (x : Int) < (m : Int) := by omega
                  have ej : IntKind.i64.wrap ((x : Int) + 1) = ((x + 1 : Nat) : Int) := by rw [IntKind.wrap_i64]; omega
                  obtain ⟨b4, o4, rfl, hc4⟩ := HCE.out (by omega)
                  have y9 := hc4 wr HJ82.out.2.2.2 x hlt3
                  have HF4 : Hid (E ++ by2 (m : Int) ++ (z.take (x + 1)).flatMap by2 = E ++ by2 (m : Int) ++ (z.take x).flatMap by2 ++ by2 (z.getD x 0)) := by
                    unfold Hid
                    rw [flat_more by2 z x 0 (by rw [← HM.out]; exact hlt3)]
                    simp only [List.append_assoc]
                  have hBl4 := HB4.out x
                  generalize E ++ by2 (m : Int) ++ (z.take x).flatMap by2 = F at *
                  generalize z.getD x 0 = y at *
                  clear hc4
                  go_wp2_with fail
                  refine Calls.mono (HP2.out (F) y a82 n82 c82 wr HJ82.out (by omega)) ?_
                  rintro r V114 ⟨a114, n114, c114, rfl, jz, tz⟩
                  have HJ114 : Hid (IB w W0 (F ++ by2 y) a114 n114 c114 V114) := jz
                  clear jz tz
                  go_wp2_with fail
                  go_roundw
                  case rel => exact ⟨x + 1, _, _, _, by omega, by go_num, rfl, by rw [HF4.out]; exact HJ114.out⟩
                  case measure => simp [intOf]; omega
                · have hlt4 : ¬ (x : Int) < (m : Int) := by omega
                  obtain rfl : x = m := by omega
                  have HJ83 : Hid (IB w W0 (E ++ zonI z) a82 n82 c82 wr) := by
                    have h9 := HJ82.out
                    rw [HM.out, List.take_length, List.append_assoc] at h9
                    exact h9
                  clear HJ82
                  go_wp2_with fail
                  go_roundw
                  case rel => exact ⟨k + 1, _, _, _, by omega, by go_num, rfl, by rw [HFM.out]; exact HJ83.out⟩
                  case measure => simp [intOf]; omega
            · have hlt2 : ¬ (k : Int) < (n3 : Int) := by omega
              obtain rfl : k = n3 := by omega
              have HJ90 : Hid (IB w W0 (D ++ s.zs.flatMap zonI) a81 n81 c81 wr) := by
                have h9 := HJ81.out
                rw [HN.out.2.2, List.take_length] at h9
                exact h9
              have hBl3 : (D ++ s.zs.flatMap zonI).length ≤ 200000000 := by
                have h9 := HB3.out k
                rw [HN.out.2.2, List.take_length] at h9
                exact h9
              have HI4 : Hid (img s = (D ++ s.zs.flatMap zonI) ++ (by4 turn ++ (by1 whose ++ (by1 fin ++ by1 winner)))) := by
                unfold Hid
                rw [HI3.out]
                simp only [List.append_assoc]
              generalize D ++ s.zs.flatMap zonI = E at *
              have x3 : wr.cell? ⟨w.heap.size, 3, none⟩ = some (.int .i32 turn) := by rw [HG.out wr HJ90.out.2.2.1, HA.out.2.2.2.1]
              clear HJ81 HB3 HI3 hlt hBl2
              obtain ⟨a90, n90, c90, h61⟩ : ∃ a n c, a = a81 ∧ n = n81 ∧ c = c81 := ⟨_, _, _, rfl, rfl, rfl⟩
              obtain ⟨rfl, rfl, rfl⟩ := h61
              go_wp2_with fail
              refine Calls.mono (HP4.out (E) turn a90 n90 c90 wr HJ90.out (by omega)) ?_
              rintro r V115 ⟨a115, n115, c115, rfl, jz, tz⟩
              have HJ115 : Hid (IB w W0 (E ++ by4 turn) a115 n115 c115 V115) := jz
              clear jz tz
              have x4 : V115.cell? ⟨w.heap.size, 4, none⟩ = some (.int .i64 whose) := by rw [HG.out V115 HJ115.out.2.2.1, HA.out.2.2.2.2.1]
              have x5 : V115.cell? ⟨w.heap.size, 5, none⟩ = some (.int .i8 fin) := by rw [HG.out V115 HJ115.out.2.2.1, HA.out.2.2.2.2.2.1]
              have x6 : V115.cell? ⟨w.heap.size, 6, none⟩ = some (.int .i64 winner) := by rw [HG.out V115 HJ115.out.2.2.1, HA.out.2.2.2.2.2.2]
              have HV116 : Hid ((V115.alloc (.cells #[Value.int .u8 (whose % 256), Value.int .u8 (fin % 256), Value.int .u8 (winner % 256)] 5)).ownsRow w.heap.size 5 1 (.slice a115 n115 c115) n115 (bvs (E ++ by4 turn))) := HJ115.out.2.1.alloc _
              have HM116 : Hid (∀ j u, [Value.int .u8 (whose % 256), Value.int .u8 (fin % 256), Value.int .u8 (winner % 256)][j]? = some u → (V115.alloc (.cells #[Value.int .u8 (whose % 256), Value.int .u8 (fin % 256), Value.int .u8 (winner % 256)] 5)).cell? ((⟨V115.heap.size, 0, none⟩ : Addr).add j) = some u) := World.news_of_block (cs := #[Value.int .u8 (whose % 256), Value.int .u8 (fin % 256), Value.int .u8 (winner % 256)]) (t := 5) (fr := (0, 0)) (heap_alloc_new V115 _)
              have hs116 := HJ115.out.2.2.2.size
              have HS116 : Hid (w.heap.size ≤ (V115.alloc (.cells #[Value.int .u8 (whose % 256), Value.int .u8 (fin % 256), Value.int .u8 (winner % 256)] 5)).heap.size) := by unfold Hid; simp; omega
              have hl116 : n115 ≤ 1000000000 := by rw [HJ115.out.1]; simp only [List.length_append, by4, List.length_cons, List.length_nil]; omega
              have HF116 : Hid (∀ v' V, V.ownsRow w.heap.size 5 1 v' (n115 + 3) (bvs (E ++ by4 turn) ++ [Value.int .u8 (whose % 256), Value.int .u8 (fin % 256), Value.int .u8 (winner % 256)]) → (V115.alloc (.cells #[Value.int .u8 (whose % 256), Value.int .u8 (fin % 256), Value.int .u8 (winner % 256)] 5)).grownBy V (Value.slice a115 n115 c115).ownBlock → V.ownsRow w.heap.size 5 1 v' (n115 + 3) (bvs (E ++ by4 turn ++ [(whose % 256), (fin % 256), (winner % 256)])) ∧ Tk w.heap.size V115 V) := fun v' V h1 h2 => by
                refine ⟨?_, tk_grown HJ115.out.2.1 hs116 h2⟩
                rw [show bvs (E ++ by4 turn ++ [(whose % 256), (fin % 256), (winner % 256)]) = bvs (E ++ by4 turn) ++ [Value.int .u8 (whose % 256), Value.int .u8 (fin % 256), Value.int .u8 (winner % 256)] by simp [bvs]]
                exact h1
              go_wp2_with (at_builtin; go_loud (refine wpList_append_own _ (by rfl) (.tmp 130) (.tmp 140) 31 (by rfl) w.heap.size 5 i5 _ 1 1 Tryz.underlying31 hi5 z0 z1 z2 (by rfl) (by decide) (.slice a115 n115 c115) n115 (bvs (E ++ by4 turn)) (by rfl) HV116.out ⟨V115.heap.size, 0, none⟩ 3 3 [Value.int .u8 (whose % 256), Value.int .u8 (fin % 256), Value.int .u8 (winner % 256)] (by rfl) (by rfl) HM116.out (by simp [Value.oneCell']) (by unfold maxLen; omega) (by omega) HS116.out ?_; intro v' V116 hin hg1 _; have HG116 : Hid _ := HF116.out v' V116 hin hg1; obtain ⟨a116, c116, hva⟩ : ∃ a c, v' = Value.slice a (n115 + 3) c := row_val hin; subst hva; clear hin hg1))
              rw [HP.out]
              refine ⟨_, rfl, ?_, HG116.out.2.up w HJ115.out.2.2.2 (Nat.le_refl _)⟩
              have hBq : img s = E ++ by4 turn ++ [whose % 256, fin % 256, winner % 256] := by rw [HI4.out]; simp only [by1, List.append_assoc, List.cons_append, List.nil_append]
              rw [hBq, List.length_append, ← HJ115.out.1]
              exact HG116.out.1
end IM
end Go.Proofs.YtpmdlpjedapbbaaGreatDoor
