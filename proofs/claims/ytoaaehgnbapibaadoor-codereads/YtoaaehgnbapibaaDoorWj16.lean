
/-
  An instruction is written.
-/
import Derived.Test.YtoaaehgnbapibaaDoorWi16
import Derived.Laws.AppendOwn
namespace Go.Proofs.YtoaaehgnbapibaaDoor
open Go.RowKit
attribute [local go_sem ↓] Go.wp_at_zero Go.wp_at_succ
namespace CD
theorem infoB : (Tryd.prog.info? 5).map (fun i => (i.zero, i.size, i.bytes)) = some (some (.int .u8 0), 1, 1) := by kernel_rfl
/- an operand's bytes -/
def enc (w x : Int) : List Int := if w = 0 then [] else if w = 1 then [x] else [x / 256, x % 256]
def encI (x : Ins) : List Int := x.op :: (enc (w0 (kop x)) x.a ++ (enc (w1 (kop x)) x.b ++ enc (w2 (kop x)) x.c))
theorem bvs_app (a b : List Int) : bvs (a ++ b) = bvs a ++ bvs b := List.map_append
theorem bvs_len (a : List Int) : (bvs a).length = a.length := List.length_map ..
theorem enc_len (w x : Int) : (enc w x).length ≤ 2 := by
  unfold enc
  split
  · exact Nat.zero_le _
  · split
    · show 1 ≤ 2; omega
    · exact Nat.le_refl _
theorem okn_is {w x : Int} (hw : Wd w) (h : okn w x = true) : 0 ≤ x ∧ x < 65536 ∧ (w = 1 → x < 256) := by
  unfold okn at h
  simp only [Bool.and_eq_true, decide_eq_true_eq] at h
  unfold mst at h
  rcases hw with rfl | rfl | rfl
  · simp at h; omega
  · simp at h; omega
  · simp at h; omega
/- the bytes so far, behind those that there were -/
structure WR (W0 V : World) (v : Value) (m : Nat) (xs : List Int) : Prop where
  row : V.ownsRow W0.heap.size 5 1 v m (bvs xs)
  len : xs.length = m
  up : Up W0 V
theorem WR.upd {W0 V X : World} {v : Value} {m : Nat} {xs : List Int} (h : WR W0 V v m xs) (u : Up V X) : WR W0 X v m xs := ⟨row_up h.row u, h.len, h.up.trans u⟩
theorem WR.push {W0 V X : World} {v v' : Value} {m : Nat} {xs : List Int} {c : Int} (h : WR W0 V v m xs) (hr : X.ownsRow W0.heap.size 5 1 v' (m + 1) (bvs xs ++ [.int .u8 c])) (hg : V.grownBy X v.ownBlock) : WR W0 X v' (m + 1) (xs ++ [c]) :=
  ⟨by rw [bvs_app]; exact hr, by rw [List.length_append, h.len]; rfl, Below.grown h.up hg h.up.size (fun k9 hk => (World.ownsRow.lt h.row k9 hk).1)⟩
/- what does not lie in the row stays -/
theorem heap_grown {W V : World} {g base n : Nat} {v : Value} {xs : List Value} {C : Array Value} {t : TypeId} {fr : Nat × Nat} (h : W.heap[g]? = some (.cells C t fr)) (ht : t ≠ 5) (hr : W.ownsRow base 5 1 v n xs) (hg : W.grownBy V v.ownBlock) : V.heap[g]? = some (.cells C t fr) := by
  have hl : g < W.heap.size := (Array.getElem?_eq_some_iff.1 h).1
  rw [hg.block g hl ?_]
  · exact h
  · rcases hr.2 with ⟨rfl, -⟩ | ⟨g1, c1, cur1, rfl, -, h3, -⟩
    · simp [Value.ownBlock]
    · intro e
      have e : g = g1 := by simpa [Value.ownBlock] using e
      subst e
      rw [h3] at h
      injection h with h4
      injection h4 with _ h6
      exact ht h6.symm
set_option maxRecDepth 100000 in
set_option maxHeartbeats 16000000 in
theorem fldO (s : ByteArray) (a b c : Int) (f : Value) : ∀ w, (Instr.field 78 (.agg #[.string s, .int .i64 a, .int .i64 b, .int .i64 c, f]) 1).run Tryd.prog w = .ok (.agg #[.int .i64 a, .int .i64 b, .int .i64 c]) w := fun w => by kernel_rfl
set_option maxRecDepth 100000 in
set_option maxHeartbeats 8000000 in
theorem write_ (W0 W : World) (g : Nat) (i1 A B C : Int) (d m : Nat) (sa : Option Addr) (sc : Nat) (xs : List Int) (hT : TBat W g) (hd : d < 256) (hm : m ≤ 1000000) (hw : WR W0 W (.slice sa m sc) m xs) (hA : okn (w0 (knd d)) A = true) (hB : okn (w1 (knd d)) B = true) (hC : okn (w2 (knd d)) C = true) : Calls Tryd.prog 61 #[.pointer (some ⟨g, 0, none⟩), .slice sa m sc, .agg #[.int .i64 i1, .int .u8 (d : Int), .int .i64 A, .int .i64 B, .int .i64 C]] W fun e w' => ∃ v, e = .returned v ∧ WR W0 w' v (m + (encI ⟨i1, (d : Int), A, B, C⟩).length) (xs ++ encI ⟨i1, (d : Int), A, B, C⟩) := by
  obtain ⟨Post, hPost⟩ : ∃ P : Ending → World → Prop, P = fun e w' => ∃ v, e = .returned v ∧ WR W0 w' v (m + (encI ⟨i1, (d : Int), A, B, C⟩).length) (xs ++ encI ⟨i1, (d : Int), A, B, C⟩) := ⟨_, rfl⟩
  rw [← hPost]
  have HPo : Hid (Post = fun e w' => ∃ v, e = .returned v ∧ WR W0 w' v (m + (encI ⟨i1, (d : Int), A, B, C⟩).length) (xs ++ encI ⟨i1, (d : Int), A, B, C⟩)) := hPost
  clear hPost
  obtain ⟨hzn, -⟩ := zero_of_info (P := Tryd.prog) infoNum
  obtain ⟨iB, hiB, y0, y1, y2⟩ := info_parts infoB
  obtain ⟨hk1, hk2, hk3⟩ := rwo_nam d
  have hwd := wd0 hk2
  obtain ⟨r5, hr5⟩ : ∃ g, g = W.heap.size := ⟨_, rfl⟩
  obtain ⟨W1, hW1⟩ : ∃ X, W.alloc (.cells #[.int .i64 i1, .int .u8 (d : Int), .int .i64 A, .int .i64 B, .int .i64 C] 28) = X := ⟨_, rfl⟩
  have g5 : W1.heap[r5]? = some (.cells #[.int .i64 i1, .int .u8 (d : Int), .int .i64 A, .int .i64 B, .int .i64 C] 28 (0, 0)) := by rw [← hW1, hr5]; exact heap_alloc_new _ _
  have HU1 : Hid (Up W W1) := by unfold Hid; rw [← hW1]; exact (Up.refl _).alloc _
  have HW1 : Hid (WR W0 W1 (.slice sa m sc) m xs) := hw.upd HU1.out
  have HT1 : Hid (TBat W1 g) := hT.up HU1.out
  have hv : rwv (rwo d) = #[.string (strOfNums (nam d)), .int .i64 (w0 (knd d)), .int .i64 (w1 (knd d)), .int .i64 (w2 (knd d)), fnv (knd d)] := rfl
  have HEN : Hid (encI ⟨i1, (d : Int), A, B, C⟩ = (d : Int) :: (enc (w0 (knd d)) A ++ (enc (w1 (knd d)) B ++ enc (w2 (knd d)) C))) := by
    unfold Hid encI kop
    simp only [Int.toNat_natCast]
  have HAX : Hid (0 ≤ A ∧ A < 65536 ∧ (w0 (knd d) = 1 → A < 256)) := okn_is hwd.1 hA
  have HBX : Hid (0 ≤ B ∧ B < 65536 ∧ (w1 (knd d) = 1 → B < 256)) := okn_is hwd.2.1 hB
  have HCX : Hid (0 ≤ C ∧ C < 65536 ∧ (w2 (knd d) = 1 → C < 256)) := okn_is hwd.2.2 hC
  have HWA : Hid (Wd (w0 (knd d)) ∧ Wd (w1 (knd d)) ∧ Wd (w2 (knd d))) := hwd
  have HRW0 : Hid (∀ V, TBat V g → Calls Tryd.prog 33 #[.pointer (some ⟨g, 0, none⟩), .int .u8 (d : Int)] V fun e w' => e = .returned (.agg #[.string (strOfNums (nam d)), .int .i64 (w0 (knd d)), .int .i64 (w1 (knd d)), .int .i64 (w2 (knd d)), fnv (knd d)]) ∧ Up V w') := fun V h => row_ V g d h hd
  generalize strOfNums (nam d) = s at HRW0
  generalize w0 (knd d) = a at HRW0 HEN HAX HWA
  generalize w1 (knd d) = b at HRW0 HEN HBX HWA
  generalize w2 (knd d) = c at HRW0 HEN HCX HWA
  generalize fnv (knd d) = f at HRW0
  clear hT hw hA hB hC hk1 hk2 hk3 hwd hv
  go_enter Tryd.func61, Tryd.ntmps61
  go_upto_region 1 with fail
  try rw [hW1]
  try rw [← hr5]
  clear hW1 hr5
  have x1 : W1.cell? ⟨r5, 1, none⟩ = some (.int .u8 (d : Int)) := by simp only [World.cell?, g5]; rfl
  have HMW : Hid (∀ q u, [.int .u8 (d : Int)][q]? = some u → (W1.alloc (.cells #[.int .u8 (d : Int)] 5)).cell? ((⟨W1.heap.size, 0, none⟩ : Addr).add q) = some u) := World.news_of_block (cs := #[.int .u8 (d : Int)]) (t := 5) (fr := (0, 0)) (heap_alloc_new W1 _)
  have HWV : Hid (WR W0 (W1.alloc (.cells #[.int .u8 (d : Int)] 5)) (.slice sa m sc) m xs) := HW1.out.upd ((Up.refl _).alloc _)
  have g5v : (W1.alloc (.cells #[.int .u8 (d : Int)] 5)).heap[r5]? = some (.cells #[.int .i64 i1, .int .u8 (d : Int), .int .i64 A, .int .i64 B, .int .i64 C] 28 (0, 0)) := ((Up.refl W1).alloc _).heap g5
  have gtv : (W1.alloc (.cells #[.int .u8 (d : Int)] 5)).heap[g]? = some (.cells TBL 80 (0, 0)) := ((Up.refl W1).alloc _).heap HT1.out
  go_upto_region 2 with (at_builtin; go_loud (refine wpList_append_own _ (by rfl) (.tmp 10) (.tmp 13) 25 (by rfl) W0.heap.size 5 iB _ 1 1 Tryd.underlying25 hiB y0 y1 y2 (by rfl) (by decide) (.slice sa (m) sc) (m) (bvs (xs)) (by rfl) HWV.out.row ⟨W1.heap.size, 0, none⟩ 1 1 [.int .u8 (d : Int)] (by rfl) (by rfl) HMW.out (by simp [Value.oneCell']) (by unfold maxLen; omega) (by omega) HWV.out.up.size ?_; intro v' V2 hin hg1 _; have g52 : V2.heap[r5]? = some (.cells #[.int .i64 i1, .int .u8 (d : Int), .int .i64 A, .int .i64 B, .int .i64 C] 28 (0, 0)) := heap_grown g5v (by decide) HWV.out.row hg1; have HT2 : Hid (TBat V2 g) := heap_grown gtv (by decide) HWV.out.row hg1; have HW2 : Hid (WR W0 V2 v' (m + 1) (xs ++ [(d : Int)])) := HWV.out.push hin hg1; obtain ⟨sa2, sc2, hva⟩ : ∃ a c, v' = Value.slice a (m + 1) c := row_val hin; subst hva; clear hin hg1 HMW))
  clear x1 g5 g5v gtv HWV HW1 HT1 HU1
  have x2 : V2.cell? ⟨r5, 2, none⟩ = some (.int .i64 A) := by simp only [World.cell?, g52]; rfl
  have x3 : V2.cell? ⟨r5, 3, none⟩ = some (.int .i64 B) := by simp only [World.cell?, g52]; rfl
  have x4 : V2.cell? ⟨r5, 4, none⟩ = some (.int .i64 C) := by simp only [World.cell?, g52]; rfl
  obtain ⟨r7, hr7⟩ : ∃ g, g = V2.heap.size := ⟨_, rfl⟩
  obtain ⟨W3, hW3⟩ : ∃ X, V2.alloc (.cells #[.int .i64 0, .int .i64 0, .int .i64 0] 95) = X := ⟨_, rfl⟩
  have g7 : W3.heap[r7]? = some (.cells #[.int .i64 0, .int .i64 0, .int .i64 0] 95 (0, 0)) := by rw [← hW3, hr7]; exact heap_alloc_new _ _
  obtain ⟨W4, hW4⟩ : ∃ X, W3.setRow r7 #[.int .i64 A, .int .i64 B, .int .i64 C] = X := ⟨_, rfl⟩
  have g74 : W4.heap[r7]? = some (.cells #[.int .i64 A, .int .i64 B, .int .i64 C] 95 (0, 0)) := by rw [← hW4]; exact setRow_heap _ _ _ _ _ _ g7
  have HU24 : Hid (Up V2 W4) := by
    unfold Hid
    rw [← hW4]
    exact up_setRow (by rw [← hW3]; exact (Up.refl _).alloc _) (by rw [hr7]; exact Nat.le_refl _) _
  go_upto_region 3 with (first | (refine wpList_store_row rfl 95 (.tmp 7) (.tmp 21) (by first | rfl | (rw [hr7]; rfl)) r7 #[.int .i64 A, .int .i64 B, .int .i64 C] (by first | rfl | (rw [hr7]; rfl)) (by rfl) 95 #[.int .i64 0, .int .i64 0, .int .i64 0] (by first | exact g7 | (rw [hW3]; exact g7)) sizeNum rfl (by simp [Value.oneCell']) ?_; refine wpList_world (by first | exact hW4 | (rw [hW3]; exact hW4)) ?_))
  try rw [← hr7]
  try simp only [Act.put]
  have HW4 : Hid (WR W0 W4 (.slice sa2 (m + 1) sc2) (m + 1) (xs ++ [(d : Int)])) := HW2.out.upd HU24.out
  have HT4 : Hid (TBat W4 g) := HT2.out.up HU24.out
  have g54 : W4.heap[r5]? = some (.cells #[.int .i64 i1, .int .u8 (d : Int), .int .i64 A, .int .i64 B, .int .i64 C] 28 (0, 0)) := HU24.out.heap g52
  clear hr7 hW3 hW4 g7 x2 x3 x4 g52 HU24 HW2 HT2
  have x1 : W4.cell? ⟨r5, 1, none⟩ = some (.int .u8 (d : Int)) := by simp only [World.cell?, g54]; rfl
  have HRW : Hid _ := HRW0.out W4 HT4.out
  have i0 := ix0 a b c
  have i1x := ix1 a b c
  have i2 := ix2 a b c
  have hfo := fldO s a b c f
  clear HRW0 HT4
  go_wp2_with fail
  refine Calls.mono HRW.out ?_
  rintro e1 W5 ⟨rfl, u5⟩
  have HW5 : Hid (WR W0 W5 (.slice sa2 (m + 1) sc2) (m + 1) (xs ++ [(d : Int)])) := HW4.out.upd u5
  have g75 : W5.heap[r7]? = some (.cells #[.int .i64 A, .int .i64 B, .int .i64 C] 95 (0, 0)) := u5.heap g74
  clear HW4 u5 HRW x1 g54 g74
  go_wp2_with fail
  have HXS : Hid (xs.length = m) := by unfold Hid; have h9 := HW5.out.len; rw [List.length_append] at h9; have h8 : xs.length + 1 = m + 1 := h9; omega
  go_loopw [1, 27] (fun s1 s27 V => ∃ (i k : Nat) (L : List Int) (sb : Option Addr) (sd : Nat), i ≤ 3 ∧ k ≤ m + 1 + 2 * i ∧ s27 = .int .i64 (i : Int) ∧ s1 = .slice sb k sd ∧ WR W0 V (.slice sb k sd) k L ∧ L = xs ++ [(d : Int)] ++ ((if 1 ≤ i then enc a A else []) ++ ((if 2 ≤ i then enc b B else []) ++ (if 3 ≤ i then enc c C else []))) ∧ V.heap[r7]? = some (.cells #[.int .i64 A, .int .i64 B, .int .i64 C] 95 (0, 0))) (fun _ s27 _ => 3 - (intOf s27).toNat)
  case atStart => exact ⟨0, m + 1, xs ++ [(d : Int)], sa2, sc2, by omega, by omega, rfl, rfl, HW5.out, by simp, g75⟩
  case round =>
    obtain ⟨i, k, L, sa, sc, hi, hkm, rfl, rfl, hwr, hL, hg7⟩ := hrel
    have HWR : Hid (WR W0 wr (.slice sa k sc) k L) := hwr
    have HG7 : Hid (wr.heap[r7]? = some (.cells #[.int .i64 A, .int .i64 B, .int .i64 C] 95 (0, 0))) := hg7
    have HL : Hid (L = xs ++ [(d : Int)] ++ ((if 1 ≤ i then enc a A else []) ++ ((if 2 ≤ i then enc b B else []) ++ (if 3 ≤ i then enc c C else [])))) := hL
    have hkk : k ≤ 2000000 := by omega
    clear hwr hL hg7 g75 HW5
    have hi4 : i = 0 ∨ i = 1 ∨ i = 2 ∨ i = 3 := by omega
    rcases hi4 with hi4 | hi4 | hi4 | hi4
    · subst hi4
      have lt : ((0 : Nat) : Int) < 3 := by omega
      have cn : wr.cell? ⟨r7, 0, none⟩ = some (.int .i64 A) := by
        have h9 := HG7.out
        simp only [World.cell?, h9]
        rfl
      obtain ⟨hx0, hx1, hx2⟩ := HAX.out
      rcases HWA.out.1 with hw | hw | hw
      · subst hw
        have HLN : Hid (L ++ [] = xs ++ [(d : Int)] ++ ((if 1 ≤ 1 then enc 0 A else []) ++ ((if 2 ≤ 1 then enc b B else []) ++ (if 3 ≤ 1 then enc c C else [])))) := by
          unfold Hid
          have he : enc 0 A = [] := by first | rfl | (unfold enc; rw [if_neg (by omega), if_neg (by omega)]; done) | (unfold enc; rw [if_neg (by omega), if_pos (by omega)]; done) | (rw [if_neg (by omega), if_neg (by omega)]; done) | (rw [if_neg (by omega), if_pos (by omega)]; done) | (rw [if_pos (by omega)]; done)
          rw [HL.out]
          simp [he]
        go_wp2_with fail
        go_roundw
        case rel => exact ⟨1, k, L, sa, sc, by omega, by omega, by first | rfl | go_num, rfl, HWR.out, by rw [← HLN.out, List.append_nil], HG7.out⟩
        case measure => simp [intOf]
      · subst hw
        have hx3 := hx2 rfl
        have HLN : Hid (L ++ [A] = xs ++ [(d : Int)] ++ ((if 1 ≤ 1 then enc 1 A else []) ++ ((if 2 ≤ 1 then enc b B else []) ++ (if 3 ≤ 1 then enc c C else [])))) := by
          unfold Hid
          have he : enc 1 A = [A] := by first | rfl | (unfold enc; rw [if_neg (by omega), if_neg (by omega)]; done) | (unfold enc; rw [if_neg (by omega), if_pos (by omega)]; done) | (rw [if_neg (by omega), if_neg (by omega)]; done) | (rw [if_neg (by omega), if_pos (by omega)]; done) | (rw [if_pos (by omega)]; done)
          rw [HL.out]
          simp [he]
        have ew : IntKind.u8.wrap A = A := by rw [IntKind.wrap_u8]; omega
        clear hx2
        have HMW : Hid (∀ q u, [.int .u8 (A)][q]? = some u → ((wr).alloc (.cells #[.int .u8 (A)] 5)).cell? ((⟨(wr).heap.size, 0, none⟩ : Addr).add q) = some u) := World.news_of_block (cs := #[.int .u8 (A)]) (t := 5) (fr := (0, 0)) (heap_alloc_new (wr) _)
        have HWV : Hid (WR W0 ((wr).alloc (.cells #[.int .u8 (A)] 5)) (.slice sa (k) sc) (k) (L)) := HWR.out.upd ((Up.refl _).alloc _)
        have gv : ((wr).alloc (.cells #[.int .u8 (A)] 5)).heap[r7]? = some (.cells #[.int .i64 A, .int .i64 B, .int .i64 C] 95 (0, 0)) := ((Up.refl _).alloc _).heap HG7.out
        go_upto_region 10 with (at_builtin; go_loud (refine wpList_append_own _ (by rfl) (.tmp 43) (.tmp 48) 25 (by rfl) W0.heap.size 5 iB _ 1 1 Tryd.underlying25 hiB y0 y1 y2 (by rfl) (by decide) (.slice sa (k) sc) (k) (bvs (L)) (by rfl) HWV.out.row ⟨wr.heap.size, 0, none⟩ 1 1 [.int .u8 (A)] (by rfl) (by rfl) HMW.out (by simp [Value.oneCell']) (by unfold maxLen; omega) (by omega) HWV.out.up.size ?_; intro v' V2 hin hg1 _; have g8 : V2.heap[r7]? = some (.cells #[.int .i64 A, .int .i64 B, .int .i64 C] 95 (0, 0)) := heap_grown gv (by decide) HWV.out.row hg1; have HW6 : Hid (WR W0 V2 v' (k + 1) (L ++ [(A)])) := HWV.out.push hin hg1; obtain ⟨sa2, sc2, hva⟩ : ∃ a c, v' = Value.slice a (k + 1) c := row_val hin; subst hva; clear hin hg1 HMW))
        clear cn
        go_wp2_with fail
        go_roundw
        case rel => exact ⟨1, k + 1, L ++ [(A)], _, _, by omega, by omega, by first | rfl | go_num, rfl, HW6.out, HLN.out, g8⟩
        case measure => simp [intOf]
      · subst hw
        have HLN : Hid (L ++ [A / 256, A % 256] = xs ++ [(d : Int)] ++ ((if 1 ≤ 1 then enc 2 A else []) ++ ((if 2 ≤ 1 then enc b B else []) ++ (if 3 ≤ 1 then enc c C else [])))) := by
          unfold Hid
          have he : enc 2 A = [A / 256, A % 256] := by first | rfl | (unfold enc; rw [if_neg (by omega), if_neg (by omega)]; done) | (unfold enc; rw [if_neg (by omega), if_pos (by omega)]; done) | (rw [if_neg (by omega), if_neg (by omega)]; done) | (rw [if_neg (by omega), if_pos (by omega)]; done) | (rw [if_pos (by omega)]; done)
          rw [HL.out]
          simp [he]
        have ew : IntKind.u8.wrap (A / 256) = A / 256 := by rw [IntKind.wrap_u8]; omega
        have ew2 : IntKind.u8.wrap A = A % 256 := by rw [IntKind.wrap_u8]
        clear hx2
        have HMW : Hid (∀ q u, [.int .u8 (A / 256)][q]? = some u → ((wr).alloc (.cells #[.int .u8 (A / 256)] 5)).cell? ((⟨(wr).heap.size, 0, none⟩ : Addr).add q) = some u) := World.news_of_block (cs := #[.int .u8 (A / 256)]) (t := 5) (fr := (0, 0)) (heap_alloc_new (wr) _)
        have HWV : Hid (WR W0 ((wr).alloc (.cells #[.int .u8 (A / 256)] 5)) (.slice sa (k) sc) (k) (L)) := HWR.out.upd ((Up.refl _).alloc _)
        have gv : ((wr).alloc (.cells #[.int .u8 (A / 256)] 5)).heap[r7]? = some (.cells #[.int .i64 A, .int .i64 B, .int .i64 C] 95 (0, 0)) := ((Up.refl _).alloc _).heap HG7.out
        go_upto_region 8 with (at_builtin; go_loud (refine wpList_append_own _ (by rfl) (.tmp 33) (.tmp 39) 25 (by rfl) W0.heap.size 5 iB _ 1 1 Tryd.underlying25 hiB y0 y1 y2 (by rfl) (by decide) (.slice sa (k) sc) (k) (bvs (L)) (by rfl) HWV.out.row ⟨wr.heap.size, 0, none⟩ 1 1 [.int .u8 (A / 256)] (by rfl) (by rfl) HMW.out (by simp [Value.oneCell']) (by unfold maxLen; omega) (by omega) HWV.out.up.size ?_; intro v' V2 hin hg1 _; have g8 : V2.heap[r7]? = some (.cells #[.int .i64 A, .int .i64 B, .int .i64 C] 95 (0, 0)) := heap_grown gv (by decide) HWV.out.row hg1; have HW6 : Hid (WR W0 V2 v' (k + 1) (L ++ [(A / 256)])) := HWV.out.push hin hg1; obtain ⟨sa2, sc2, hva⟩ : ∃ a c, v' = Value.slice a (k + 1) c := row_val hin; subst hva; clear hin hg1 HMW))
        have cn2 : V2.cell? ⟨r7, 0, none⟩ = some (.int .i64 A) := by simp only [World.cell?, g8]; rfl
        clear cn gv HWV
        have HMW : Hid (∀ q u, [.int .u8 (A % 256)][q]? = some u → ((V2).alloc (.cells #[.int .u8 (A % 256)] 5)).cell? ((⟨(V2).heap.size, 0, none⟩ : Addr).add q) = some u) := World.news_of_block (cs := #[.int .u8 (A % 256)]) (t := 5) (fr := (0, 0)) (heap_alloc_new (V2) _)
        have HWV : Hid (WR W0 ((V2).alloc (.cells #[.int .u8 (A % 256)] 5)) (.slice sa2 (k + 1) sc2) (k + 1) (L ++ [(A / 256)])) := HW6.out.upd ((Up.refl _).alloc _)
        have gv : ((V2).alloc (.cells #[.int .u8 (A % 256)] 5)).heap[r7]? = some (.cells #[.int .i64 A, .int .i64 B, .int .i64 C] 95 (0, 0)) := ((Up.refl _).alloc _).heap g8
        go_upto_region 10 with (at_builtin; go_loud (refine wpList_append_own _ (by rfl) (.tmp 43) (.tmp 48) 25 (by rfl) W0.heap.size 5 iB _ 1 1 Tryd.underlying25 hiB y0 y1 y2 (by rfl) (by decide) (.slice sa2 (k + 1) sc2) (k + 1) (bvs (L ++ [(A / 256)])) (by rfl) HWV.out.row ⟨V2.heap.size, 0, none⟩ 1 1 [.int .u8 (A % 256)] (by rfl) (by rfl) HMW.out (by simp [Value.oneCell']) (by unfold maxLen; omega) (by omega) HWV.out.up.size ?_; intro v' V3 hin hg1 _; have g9 : V3.heap[r7]? = some (.cells #[.int .i64 A, .int .i64 B, .int .i64 C] 95 (0, 0)) := heap_grown gv (by decide) HWV.out.row hg1; have HW7 : Hid (WR W0 V3 v' (k + 1 + 1) (L ++ [(A / 256)] ++ [(A % 256)])) := HWV.out.push hin hg1; obtain ⟨sa3, sc3, hva⟩ : ∃ a c, v' = Value.slice a (k + 1 + 1) c := row_val hin; subst hva; clear hin hg1 HMW))
        have HLN : Hid (L ++ [(A / 256)] ++ [(A % 256)] = xs ++ [(d : Int)] ++ ((if 1 ≤ 1 then enc 2 A else []) ++ ((if 2 ≤ 1 then enc b B else []) ++ (if 3 ≤ 1 then enc c C else [])))) := by unfold Hid; rw [List.append_assoc]; exact HLN.out
        clear cn2
        go_wp2_with fail
        go_roundw
        case rel => exact ⟨1, k + 1 + 1, L ++ [(A / 256)] ++ [(A % 256)], _, _, by omega, by omega, by first | rfl | go_num, rfl, HW7.out, HLN.out, g9⟩
        case measure => simp [intOf]
    · subst hi4
      have lt : ((1 : Nat) : Int) < 3 := by omega
      have cn : wr.cell? ⟨r7, 1, none⟩ = some (.int .i64 B) := by
        have h9 := HG7.out
        simp only [World.cell?, h9]
        rfl
      obtain ⟨hx0, hx1, hx2⟩ := HBX.out
      rcases HWA.out.2.1 with hw | hw | hw
      · subst hw
        have HLN : Hid (L ++ [] = xs ++ [(d : Int)] ++ ((if 1 ≤ 2 then enc a A else []) ++ ((if 2 ≤ 2 then enc 0 B else []) ++ (if 3 ≤ 2 then enc c C else [])))) := by
          unfold Hid
          have he : enc 0 B = [] := by first | rfl | (unfold enc; rw [if_neg (by omega), if_neg (by omega)]; done) | (unfold enc; rw [if_neg (by omega), if_pos (by omega)]; done) | (rw [if_neg (by omega), if_neg (by omega)]; done) | (rw [if_neg (by omega), if_pos (by omega)]; done) | (rw [if_pos (by omega)]; done)
          rw [HL.out]
          simp [he]
        go_wp2_with fail
        go_roundw
        case rel => exact ⟨2, k, L, sa, sc, by omega, by omega, by first | rfl | go_num, rfl, HWR.out, by rw [← HLN.out, List.append_nil], HG7.out⟩
        case measure => simp [intOf]
      · subst hw
        have hx3 := hx2 rfl
        have HLN : Hid (L ++ [B] = xs ++ [(d : Int)] ++ ((if 1 ≤ 2 then enc a A else []) ++ ((if 2 ≤ 2 then enc 1 B else []) ++ (if 3 ≤ 2 then enc c C else [])))) := by
          unfold Hid
          have he : enc 1 B = [B] := by first | rfl | (unfold enc; rw [if_neg (by omega), if_neg (by omega)]; done) | (unfold enc; rw [if_neg (by omega), if_pos (by omega)]; done) | (rw [if_neg (by omega), if_neg (by omega)]; done) | (rw [if_neg (by omega), if_pos (by omega)]; done) | (rw [if_pos (by omega)]; done)
          rw [HL.out]
          simp [he]
        have ew : IntKind.u8.wrap B = B := by rw [IntKind.wrap_u8]; omega
        clear hx2
        have HMW : Hid (∀ q u, [.int .u8 (B)][q]? = some u → ((wr).alloc (.cells #[.int .u8 (B)] 5)).cell? ((⟨(wr).heap.size, 0, none⟩ : Addr).add q) = some u) := World.news_of_block (cs := #[.int .u8 (B)]) (t := 5) (fr := (0, 0)) (heap_alloc_new (wr) _)
        have HWV : Hid (WR W0 ((wr).alloc (.cells #[.int .u8 (B)] 5)) (.slice sa (k) sc) (k) (L)) := HWR.out.upd ((Up.refl _).alloc _)
        have gv : ((wr).alloc (.cells #[.int .u8 (B)] 5)).heap[r7]? = some (.cells #[.int .i64 A, .int .i64 B, .int .i64 C] 95 (0, 0)) := ((Up.refl _).alloc _).heap HG7.out
        go_upto_region 10 with (at_builtin; go_loud (refine wpList_append_own _ (by rfl) (.tmp 43) (.tmp 48) 25 (by rfl) W0.heap.size 5 iB _ 1 1 Tryd.underlying25 hiB y0 y1 y2 (by rfl) (by decide) (.slice sa (k) sc) (k) (bvs (L)) (by rfl) HWV.out.row ⟨wr.heap.size, 0, none⟩ 1 1 [.int .u8 (B)] (by rfl) (by rfl) HMW.out (by simp [Value.oneCell']) (by unfold maxLen; omega) (by omega) HWV.out.up.size ?_; intro v' V2 hin hg1 _; have g8 : V2.heap[r7]? = some (.cells #[.int .i64 A, .int .i64 B, .int .i64 C] 95 (0, 0)) := heap_grown gv (by decide) HWV.out.row hg1; have HW6 : Hid (WR W0 V2 v' (k + 1) (L ++ [(B)])) := HWV.out.push hin hg1; obtain ⟨sa2, sc2, hva⟩ : ∃ a c, v' = Value.slice a (k + 1) c := row_val hin; subst hva; clear hin hg1 HMW))
        clear cn
        go_wp2_with fail
        go_roundw
        case rel => exact ⟨2, k + 1, L ++ [(B)], _, _, by omega, by omega, by first | rfl | go_num, rfl, HW6.out, HLN.out, g8⟩
        case measure => simp [intOf]
      · subst hw
        have HLN : Hid (L ++ [B / 256, B % 256] = xs ++ [(d : Int)] ++ ((if 1 ≤ 2 then enc a A else []) ++ ((if 2 ≤ 2 then enc 2 B else []) ++ (if 3 ≤ 2 then enc c C else [])))) := by
          unfold Hid
          have he : enc 2 B = [B / 256, B % 256] := by first | rfl | (unfold enc; rw [if_neg (by omega), if_neg (by omega)]; done) | (unfold enc; rw [if_neg (by omega), if_pos (by omega)]; done) | (rw [if_neg (by omega), if_neg (by omega)]; done) | (rw [if_neg (by omega), if_pos (by omega)]; done) | (rw [if_pos (by omega)]; done)
          rw [HL.out]
          simp [he]
        have ew : IntKind.u8.wrap (B / 256) = B / 256 := by rw [IntKind.wrap_u8]; omega
        have ew2 : IntKind.u8.wrap B = B % 256 := by rw [IntKind.wrap_u8]
        clear hx2
        have HMW : Hid (∀ q u, [.int .u8 (B / 256)][q]? = some u → ((wr).alloc (.cells #[.int .u8 (B / 256)] 5)).cell? ((⟨(wr).heap.size, 0, none⟩ : Addr).add q) = some u) := World.news_of_block (cs := #[.int .u8 (B / 256)]) (t := 5) (fr := (0, 0)) (heap_alloc_new (wr) _)
        have HWV : Hid (WR W0 ((wr).alloc (.cells #[.int .u8 (B / 256)] 5)) (.slice sa (k) sc) (k) (L)) := HWR.out.upd ((Up.refl _).alloc _)
        have gv : ((wr).alloc (.cells #[.int .u8 (B / 256)] 5)).heap[r7]? = some (.cells #[.int .i64 A, .int .i64 B, .int .i64 C] 95 (0, 0)) := ((Up.refl _).alloc _).heap HG7.out
        go_upto_region 8 with (at_builtin; go_loud (refine wpList_append_own _ (by rfl) (.tmp 33) (.tmp 39) 25 (by rfl) W0.heap.size 5 iB _ 1 1 Tryd.underlying25 hiB y0 y1 y2 (by rfl) (by decide) (.slice sa (k) sc) (k) (bvs (L)) (by rfl) HWV.out.row ⟨wr.heap.size, 0, none⟩ 1 1 [.int .u8 (B / 256)] (by rfl) (by rfl) HMW.out (by simp [Value.oneCell']) (by unfold maxLen; omega) (by omega) HWV.out.up.size ?_; intro v' V2 hin hg1 _; have g8 : V2.heap[r7]? = some (.cells #[.int .i64 A, .int .i64 B, .int .i64 C] 95 (0, 0)) := heap_grown gv (by decide) HWV.out.row hg1; have HW6 : Hid (WR W0 V2 v' (k + 1) (L ++ [(B / 256)])) := HWV.out.push hin hg1; obtain ⟨sa2, sc2, hva⟩ : ∃ a c, v' = Value.slice a (k + 1) c := row_val hin; subst hva; clear hin hg1 HMW))
        have cn2 : V2.cell? ⟨r7, 1, none⟩ = some (.int .i64 B) := by simp only [World.cell?, g8]; rfl
        clear cn gv HWV
        have HMW : Hid (∀ q u, [.int .u8 (B % 256)][q]? = some u → ((V2).alloc (.cells #[.int .u8 (B % 256)] 5)).cell? ((⟨(V2).heap.size, 0, none⟩ : Addr).add q) = some u) := World.news_of_block (cs := #[.int .u8 (B % 256)]) (t := 5) (fr := (0, 0)) (heap_alloc_new (V2) _)
        have HWV : Hid (WR W0 ((V2).alloc (.cells #[.int .u8 (B % 256)] 5)) (.slice sa2 (k + 1) sc2) (k + 1) (L ++ [(B / 256)])) := HW6.out.upd ((Up.refl _).alloc _)
        have gv : ((V2).alloc (.cells #[.int .u8 (B % 256)] 5)).heap[r7]? = some (.cells #[.int .i64 A, .int .i64 B, .int .i64 C] 95 (0, 0)) := ((Up.refl _).alloc _).heap g8
        go_upto_region 10 with (at_builtin; go_loud (refine wpList_append_own _ (by rfl) (.tmp 43) (.tmp 48) 25 (by rfl) W0.heap.size 5 iB _ 1 1 Tryd.underlying25 hiB y0 y1 y2 (by rfl) (by decide) (.slice sa2 (k + 1) sc2) (k + 1) (bvs (L ++ [(B / 256)])) (by rfl) HWV.out.row ⟨V2.heap.size, 0, none⟩ 1 1 [.int .u8 (B % 256)] (by rfl) (by rfl) HMW.out (by simp [Value.oneCell']) (by unfold maxLen; omega) (by omega) HWV.out.up.size ?_; intro v' V3 hin hg1 _; have g9 : V3.heap[r7]? = some (.cells #[.int .i64 A, .int .i64 B, .int .i64 C] 95 (0, 0)) := heap_grown gv (by decide) HWV.out.row hg1; have HW7 : Hid (WR W0 V3 v' (k + 1 + 1) (L ++ [(B / 256)] ++ [(B % 256)])) := HWV.out.push hin hg1; obtain ⟨sa3, sc3, hva⟩ : ∃ a c, v' = Value.slice a (k + 1 + 1) c := row_val hin; subst hva; clear hin hg1 HMW))
        have HLN : Hid (L ++ [(B / 256)] ++ [(B % 256)] = xs ++ [(d : Int)] ++ ((if 1 ≤ 2 then enc a A else []) ++ ((if 2 ≤ 2 then enc 2 B else []) ++ (if 3 ≤ 2 then enc c C else [])))) := by unfold Hid; rw [List.append_assoc]; exact HLN.out
        clear cn2
        go_wp2_with fail
        go_roundw
        case rel => exact ⟨2, k + 1 + 1, L ++ [(B / 256)] ++ [(B % 256)], _, _, by omega, by omega, by first | rfl | go_num, rfl, HW7.out, HLN.out, g9⟩
        case measure => simp [intOf]
    · subst hi4
      have lt : ((2 : Nat) : Int) < 3 := by omega
      have cn : wr.cell? ⟨r7, 2, none⟩ = some (.int .i64 C) := by
        have h9 := HG7.out
        simp only [World.cell?, h9]
        rfl
      obtain ⟨hx0, hx1, hx2⟩ := HCX.out
      rcases HWA.out.2.2 with hw | hw | hw
      · subst hw
        have HLN : Hid (L ++ [] = xs ++ [(d : Int)] ++ ((if 1 ≤ 3 then enc a A else []) ++ ((if 2 ≤ 3 then enc b B else []) ++ (if 3 ≤ 3 then enc 0 C else [])))) := by
          unfold Hid
          have he : enc 0 C = [] := by first | rfl | (unfold enc; rw [if_neg (by omega), if_neg (by omega)]; done) | (unfold enc; rw [if_neg (by omega), if_pos (by omega)]; done) | (rw [if_neg (by omega), if_neg (by omega)]; done) | (rw [if_neg (by omega), if_pos (by omega)]; done) | (rw [if_pos (by omega)]; done)
          rw [HL.out]
          simp [he]
        go_wp2_with fail
        go_roundw
        case rel => exact ⟨3, k, L, sa, sc, by omega, by omega, by first | rfl | go_num, rfl, HWR.out, by rw [← HLN.out, List.append_nil], HG7.out⟩
        case measure => simp [intOf]
      · subst hw
        have hx3 := hx2 rfl
        have HLN : Hid (L ++ [C] = xs ++ [(d : Int)] ++ ((if 1 ≤ 3 then enc a A else []) ++ ((if 2 ≤ 3 then enc b B else []) ++ (if 3 ≤ 3 then enc 1 C else [])))) := by
          unfold Hid
          have he : enc 1 C = [C] := by first | rfl | (unfold enc; rw [if_neg (by omega), if_neg (by omega)]; done) | (unfold enc; rw [if_neg (by omega), if_pos (by omega)]; done) | (rw [if_neg (by omega), if_neg (by omega)]; done) | (rw [if_neg (by omega), if_pos (by omega)]; done) | (rw [if_pos (by omega)]; done)
          rw [HL.out]
          simp [he]
        have ew : IntKind.u8.wrap C = C := by rw [IntKind.wrap_u8]; omega
        clear hx2
        have HMW : Hid (∀ q u, [.int .u8 (C)][q]? = some u → ((wr).alloc (.cells #[.int .u8 (C)] 5)).cell? ((⟨(wr).heap.size, 0, none⟩ : Addr).add q) = some u) := World.news_of_block (cs := #[.int .u8 (C)]) (t := 5) (fr := (0, 0)) (heap_alloc_new (wr) _)
        have HWV : Hid (WR W0 ((wr).alloc (.cells #[.int .u8 (C)] 5)) (.slice sa (k) sc) (k) (L)) := HWR.out.upd ((Up.refl _).alloc _)
        have gv : ((wr).alloc (.cells #[.int .u8 (C)] 5)).heap[r7]? = some (.cells #[.int .i64 A, .int .i64 B, .int .i64 C] 95 (0, 0)) := ((Up.refl _).alloc _).heap HG7.out
        go_upto_region 10 with (at_builtin; go_loud (refine wpList_append_own _ (by rfl) (.tmp 43) (.tmp 48) 25 (by rfl) W0.heap.size 5 iB _ 1 1 Tryd.underlying25 hiB y0 y1 y2 (by rfl) (by decide) (.slice sa (k) sc) (k) (bvs (L)) (by rfl) HWV.out.row ⟨wr.heap.size, 0, none⟩ 1 1 [.int .u8 (C)] (by rfl) (by rfl) HMW.out (by simp [Value.oneCell']) (by unfold maxLen; omega) (by omega) HWV.out.up.size ?_; intro v' V2 hin hg1 _; have g8 : V2.heap[r7]? = some (.cells #[.int .i64 A, .int .i64 B, .int .i64 C] 95 (0, 0)) := heap_grown gv (by decide) HWV.out.row hg1; have HW6 : Hid (WR W0 V2 v' (k + 1) (L ++ [(C)])) := HWV.out.push hin hg1; obtain ⟨sa2, sc2, hva⟩ : ∃ a c, v' = Value.slice a (k + 1) c := row_val hin; subst hva; clear hin hg1 HMW))
        clear cn
        go_wp2_with fail
        go_roundw
        case rel => exact ⟨3, k + 1, L ++ [(C)], _, _, by omega, by omega, by first | rfl | go_num, rfl, HW6.out, HLN.out, g8⟩
        case measure => simp [intOf]
      · subst hw
        have HLN : Hid (L ++ [C / 256, C % 256] = xs ++ [(d : Int)] ++ ((if 1 ≤ 3 then enc a A else []) ++ ((if 2 ≤ 3 then enc b B else []) ++ (if 3 ≤ 3 then enc 2 C else [])))) := by
          unfold Hid
          have he : enc 2 C = [C / 256, C % 256] := by first | rfl | (unfold enc; rw [if_neg (by omega), if_neg (by omega)]; done) | (unfold enc; rw [if_neg (by omega), if_pos (by omega)]; done) | (rw [if_neg (by omega), if_neg (by omega)]; done) | (rw [if_neg (by omega), if_pos (by omega)]; done) | (rw [if_pos (by omega)]; done)
          rw [HL.out]
          simp [he]
        have ew : IntKind.u8.wrap (C / 256) = C / 256 := by rw [IntKind.wrap_u8]; omega
        have ew2 : IntKind.u8.wrap C = C % 256 := by rw [IntKind.wrap_u8]
        clear hx2
        have HMW : Hid (∀ q u, [.int .u8 (C / 256)][q]? = some u → ((wr).alloc (.cells #[.int .u8 (C / 256)] 5)).cell? ((⟨(wr).heap.size, 0, none⟩ : Addr).add q) = some u) := World.news_of_block (cs := #[.int .u8 (C / 256)]) (t := 5) (fr := (0, 0)) (heap_alloc_new (wr) _)
        have HWV : Hid (WR W0 ((wr).alloc (.cells #[.int .u8 (C / 256)] 5)) (.slice sa (k) sc) (k) (L)) := HWR.out.upd ((Up.refl _).alloc _)
        have gv : ((wr).alloc (.cells #[.int .u8 (C / 256)] 5)).heap[r7]? = some (.cells #[.int .i64 A, .int .i64 B, .int .i64 C] 95 (0, 0)) := ((Up.refl _).alloc _).heap HG7.out
        go_upto_region 8 with (at_builtin; go_loud (refine wpList_append_own _ (by rfl) (.tmp 33) (.tmp 39) 25 (by rfl) W0.heap.size 5 iB _ 1 1 Tryd.underlying25 hiB y0 y1 y2 (by rfl) (by decide) (.slice sa (k) sc) (k) (bvs (L)) (by rfl) HWV.out.row ⟨wr.heap.size, 0, none⟩ 1 1 [.int .u8 (C / 256)] (by rfl) (by rfl) HMW.out (by simp [Value.oneCell']) (by unfold maxLen; omega) (by omega) HWV.out.up.size ?_; intro v' V2 hin hg1 _; have g8 : V2.heap[r7]? = some (.cells #[.int .i64 A, .int .i64 B, .int .i64 C] 95 (0, 0)) := heap_grown gv (by decide) HWV.out.row hg1; have HW6 : Hid (WR W0 V2 v' (k + 1) (L ++ [(C / 256)])) := HWV.out.push hin hg1; obtain ⟨sa2, sc2, hva⟩ : ∃ a c, v' = Value.slice a (k + 1) c := row_val hin; subst hva; clear hin hg1 HMW))
        have cn2 : V2.cell? ⟨r7, 2, none⟩ = some (.int .i64 C) := by simp only [World.cell?, g8]; rfl
        clear cn gv HWV
        have HMW : Hid (∀ q u, [.int .u8 (C % 256)][q]? = some u → ((V2).alloc (.cells #[.int .u8 (C % 256)] 5)).cell? ((⟨(V2).heap.size, 0, none⟩ : Addr).add q) = some u) := World.news_of_block (cs := #[.int .u8 (C % 256)]) (t := 5) (fr := (0, 0)) (heap_alloc_new (V2) _)
        have HWV : Hid (WR W0 ((V2).alloc (.cells #[.int .u8 (C % 256)] 5)) (.slice sa2 (k + 1) sc2) (k + 1) (L ++ [(C / 256)])) := HW6.out.upd ((Up.refl _).alloc _)
        have gv : ((V2).alloc (.cells #[.int .u8 (C % 256)] 5)).heap[r7]? = some (.cells #[.int .i64 A, .int .i64 B, .int .i64 C] 95 (0, 0)) := ((Up.refl _).alloc _).heap g8
        go_upto_region 10 with (at_builtin; go_loud (refine wpList_append_own _ (by rfl) (.tmp 43) (.tmp 48) 25 (by rfl) W0.heap.size 5 iB _ 1 1 Tryd.underlying25 hiB y0 y1 y2 (by rfl) (by decide) (.slice sa2 (k + 1) sc2) (k + 1) (bvs (L ++ [(C / 256)])) (by rfl) HWV.out.row ⟨V2.heap.size, 0, none⟩ 1 1 [.int .u8 (C % 256)] (by rfl) (by rfl) HMW.out (by simp [Value.oneCell']) (by unfold maxLen; omega) (by omega) HWV.out.up.size ?_; intro v' V3 hin hg1 _; have g9 : V3.heap[r7]? = some (.cells #[.int .i64 A, .int .i64 B, .int .i64 C] 95 (0, 0)) := heap_grown gv (by decide) HWV.out.row hg1; have HW7 : Hid (WR W0 V3 v' (k + 1 + 1) (L ++ [(C / 256)] ++ [(C % 256)])) := HWV.out.push hin hg1; obtain ⟨sa3, sc3, hva⟩ : ∃ a c, v' = Value.slice a (k + 1 + 1) c := row_val hin; subst hva; clear hin hg1 HMW))
        have HLN : Hid (L ++ [(C / 256)] ++ [(C % 256)] = xs ++ [(d : Int)] ++ ((if 1 ≤ 3 then enc a A else []) ++ ((if 2 ≤ 3 then enc b B else []) ++ (if 3 ≤ 3 then enc 2 C else [])))) := by unfold Hid; rw [List.append_assoc]; exact HLN.out
        clear cn2
        go_wp2_with fail
        go_roundw
        case rel => exact ⟨3, k + 1 + 1, L ++ [(C / 256)] ++ [(C % 256)], _, _, by omega, by omega, by first | rfl | go_num, rfl, HW7.out, HLN.out, g9⟩
        case measure => simp [intOf]
    · subst hi4
      go_wp2_with fail
      rw [HPo.out]
      refine ⟨.slice sa k sc, rfl, ?_⟩
      have h1 : L = xs ++ encI ⟨i1, (d : Int), A, B, C⟩ := by
        rw [HL.out, HEN.out]
        simp
      have h2 : k = m + (encI ⟨i1, (d : Int), A, B, C⟩).length := by
        have h3 := HWR.out.len
        rw [h1, List.length_append, HXS.out] at h3
        omega
      rw [← h2, ← h1]
      exact HWR.out
end CD
end Go.Proofs.YtoaaehgnbapibaaDoor
