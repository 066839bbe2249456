
/-
  Text.
-/
import Derived.Test.YtoaaehgnbapibaaDoorWm16
namespace Go.Proofs.YtoaaehgnbapibaaDoor
open Go.RowKit
attribute [local go_sem ↓] Go.wp_at_zero Go.wp_at_succ
namespace CD
theorem itoa_len {n : Int} (h0 : 0 ≤ n) (h1 : n ≤ 65536) : (Lib.itoa n).length ≤ 21 := Lib.itoa_length_le n (by omega) (by omega)
/- the builder, and what lies beside it -/
structure TW (w0 V : World) (bb : Nat) (L : List UInt8) : Prop where
  isb : IsB bb bb (Lib.byteCells L) V
  up : Below bb w0 V
  sz : bb ≤ V.heap.size
theorem TW.upd {w0 V X : World} {bb : Nat} {L : List UInt8} (h : TW w0 V bb L) (u : Up V X) : TW w0 X bb L := ⟨isb_up h.isb u, Below.trans h.up (Below.mono u h.sz), Nat.le_trans h.sz u.size⟩
theorem TW.write {w0 V X : World} {bb : Nat} {L s : List UInt8} (h : TW w0 V bb L) (h1 : IsB bb bb (Lib.byteCells (L ++ s)) X) (h2 : Below bb V X) : TW w0 X bb (L ++ s) := ⟨h1, Below.trans h.up h2, Nat.le_trans h.sz h2.size⟩
theorem TW.lt {w0 V : World} {bb : Nat} {L : List UInt8} (h : TW w0 V bb L) : bb < V.heap.size := by
  rcases h.isb with h1 | h1
  · obtain ⟨-, v, h2, -⟩ := h1
    exact (Array.getElem?_eq_some_iff.1 h2).1
  · obtain ⟨-, v, h2, -⟩ := h1
    exact (Array.getElem?_eq_some_iff.1 h2).1
theorem putall (l : List Ins) (h : (putR l).2.1 = 0) (i : Nat) (hi : i < l.length) : ∃ m, flt (l.getD i dI) m = 0 := put_all l 0 [] h _ (by
  rw [List.getD_eq_getElem?_getD, List.getElem?_eq_getElem hi]
  exact List.getElem_mem _)
theorem take_next (l : List Ins) {i : Nat} (hi : i < l.length) : (l.take (i + 1)).flatMap txI = (l.take i).flatMap txI ++ txI (l.getD i dI) := by
  rw [List.take_add_one, List.getElem?_eq_getElem hi, List.flatMap_append, List.getD_eq_getElem?_getD, List.getElem?_eq_getElem hi]
  simp
theorem arg_len {x : Ins} (h : ∀ j, 0 ≤ (nums x).getD j 0 ∧ (nums x).getD j 0 < 65536) : ∀ j, j ≤ 3 → (argT x j).length ≤ 22 * j
  | 0, _ => Nat.zero_le _
  | j + 1, hj => by
    have ih := arg_len h j (by omega)
    rw [argT_next x (by omega), List.length_append, List.length_cons]
    have h9 := itoa_len (h j).1 (by have := (h j).2; omega)
    omega
theorem head_len {x : Ins} (h0 : 0 ≤ x.at_) (h1 : x.at_ ≤ 65535) : (headT x).length ≤ 40 := by
  unfold headT nmb
  rw [List.length_append, List.length_append, List.length_map]
  have h9 := itoa_len h0 (by omega)
  have h8 := nam_len x.op.toNat
  show _ + 1 + _ ≤ 40
  omega
set_option maxRecDepth 100000 in
set_option maxHeartbeats 16000000 in
theorem Text_ (v : Value) (l : List Ins) (W : World) (hv : ILs W v l) (hok : ∀ x ∈ l, InsOk x) (hn : l.length ≤ 100000000) (hTP : TabP W) : Calls Tryd.prog 26 #[v] W fun e w' => e = .returned (.string ⟨(txt l).toArray⟩) ∧ Up W w' := by
  obtain ⟨Post, hPost⟩ : ∃ P : Ending → World → Prop, P = fun e w' => e = .returned (.string ⟨(txt l).toArray⟩) ∧ Up W w' := ⟨_, rfl⟩
  rw [← hPost]
  have HPo : Hid (Post = fun e w' => e = .returned (.string ⟨(txt l).toArray⟩) ∧ Up W w') := hPost
  clear hPost
  have HPT : Hid _ := Put_ v l W hv hok (by omega)
  obtain ⟨hz, -⟩ := zero_of_info (P := Tryd.prog) infoTbl
  obtain ⟨hzi, -⟩ := zero_of_info (P := Tryd.prog) infoIns
  obtain ⟨hzr, -⟩ := zero_of_info (P := Tryd.prog) infoRow
  obtain ⟨hzn, -⟩ := zero_of_info (P := Tryd.prog) infoNum
  obtain ⟨ad, c, rfl, hnc, hce⟩ := ils_at hv
  obtain ⟨n, hN⟩ : ∃ n, n = l.length := ⟨_, rfl⟩
  have HN : Hid (n = l.length) := hN
  have HTP : Hid (TabP W) := hTP
  rw [← hN] at hn hnc hce HPT ⊢
  have HOK : Hid (∀ i, i < n → InsOk (l.getD i dI)) := fun i hi => hok _ (by
    rw [List.getD_eq_getElem?_getD, List.getElem?_eq_getElem (by omega)]
    exact List.getElem_mem _)
  have HCE : Hid _ := hce
  clear hv hok hN hce hTP
  go_enter Tryd.func26, Tryd.ntmps26
  go_wp2_with fail
  refine Calls.mono HPT.out ?_
  rintro e0 Wp ⟨vp, rfl, -, up⟩
  have HUP : Hid (Up W Wp) := up
  have HTX : Hid (txt l = if (putR l).2.1 ≠ 0 then [] else l.flatMap txI) := rfl
  have HAL : Hid ((putR l).2.1 = 0 → ∀ i, i < l.length → ∃ m, flt (l.getD i dI) m = 0) := putall l
  generalize (putR l).2.1 = pe at HTX HAL ⊢
  generalize (putR l).2.2 = pa
  generalize txt l = tx at HPo HTX
  clear HPT up
  by_cases hpe : pe = 0
  · subst hpe
    have HAX : Hid (∀ i, i < n → ∃ m, flt (l.getD i dI) m = 0) := fun i hi => HAL.out rfl i (by rw [← HN.out]; exact hi)
    have HTX2 : Hid (tx = l.flatMap txI) := by unfold Hid; rw [HTX.out]; exact if_neg (by decide)
    clear HAL HTX
    go_upto_region 4 with fail
    have HOP : Hid _ := opcodes_ Wp
    go_wp2_with fail
    refine Calls.mono HOP.out ?_
    rintro e0 W1 ⟨rfl, u1⟩
    obtain ⟨g, hg⟩ : ∃ g, g = W1.heap.size := ⟨_, rfl⟩
    have HGS : Hid (Wp.heap.size ≤ g) := by unfold Hid; rw [hg]; exact u1.size
    obtain ⟨W2, hW2⟩ : ∃ X, W1.alloc (.cells TBZ 80) = X := ⟨_, rfl⟩
    have g2 : W2.heap[g]? = some (.cells TBZ 80 (0, 0)) := by rw [← hW2, hg]; exact heap_alloc_new _ _
    obtain ⟨W3, hW3⟩ : ∃ X, W2.setRow g TBL = X := ⟨_, rfl⟩
    have HT : Hid (TBat W3 g) := by unfold Hid TBat; rw [← hW3]; exact setRow_heap _ _ _ _ _ _ g2
    have HUM : Hid (Up Wp W3) := by
      unfold Hid
      rw [← hW3]
      exact up_setRow (by rw [← hW2]; exact u1.alloc _) HGS.out _
    go_upto_region 5 with (first | (refine wpList_store_row rfl 80 (.tmp 6) (.tmp 22) (by first | rfl | (rw [hg]; rfl)) g TBL (by first | rfl | (rw [hg]; rfl)) (by rfl) 80 TBZ (by first | exact g2 | (rw [hW2]; exact g2)) (by rw [tbl_size]; exact sizeTbl) (by rw [tbl_size, tbz_size]) tbl_one ?_; refine wpList_world (by first | exact hW3 | (rw [hW2]; exact hW3)) ?_))
    try rw [← hg]
    try simp only [Act.put]
    clear hg hW2 g2 hW3 u1 HOP HGS
    clear hz
    have HUM2 : Hid (Up W W3) := HUP.out.trans HUM.out
    obtain ⟨bb, hbb⟩ : ∃ b, b = W3.heap.size := ⟨_, rfl⟩
    obtain ⟨W5, hW5⟩ : ∃ X, W3.alloc (.cells #[.pointer none, .slice none 0 0] 93) = X := ⟨_, rfl⟩
    have g5 : W5.heap[bb]? = some (.cells #[.pointer none, .slice none 0 0] 93 (0, 0)) := by rw [← hW5, hbb]; exact heap_alloc_new _ _
    have HTW : Hid (TW W3 W5 bb []) := by
      refine ⟨.inl ⟨Nat.le_refl _, .slice none 0 0, g5, ⟨rfl, .inl ⟨rfl, rfl⟩⟩, fun h => by cases h⟩, ?_, ?_⟩
      · rw [hbb, ← hW5]; exact (Up.refl _).alloc _
      · rw [hbb, ← hW5]; exact ((Up.refl W3).alloc _).size
    have HBB : Hid (bb = W3.heap.size) := hbb
    go_upto_region 6 with fail
    try rw [hW5]
    try rw [← hbb]
    try simp only [Act.put]
    clear hW5 hbb g5
    go_wp2_with fail
    go_loopw [25] (fun s25 V => ∃ (i : Nat) (L : List UInt8), i ≤ n ∧ L.length ≤ 200 * i ∧ s25 = .int .i64 (i : Int) ∧ L = (l.take i).flatMap txI ∧ TW W3 V bb L) (fun s25 _ => n - (intOf s25).toNat)
    case atStart => exact ⟨0, [], by omega, Nat.zero_le _, rfl, rfl, HTW.out⟩
    case round =>
      obtain ⟨i, L, hi, hL, rfl, hLt, htw⟩ := hrel
      have HLT : Hid (L = (l.take i).flatMap txI) := hLt
      have HTW : Hid (TW W3 wr bb L) := htw
      have HUV : Hid (Up W3 wr) := by have h9 := htw.up; rw [HBB.out] at h9; exact h9
      clear hLt htw
      by_cases hlt : i < n
      · have hlt2 : (i : Int) < (n : Int) := by omega
        obtain ⟨b9, off, rfl, hce⟩ := HCE.out (by omega)
        obtain ⟨x0, x1, x2, x3, x4⟩ := hce wr (HUM2.out.trans HUV.out) i hlt
        have HIO : Hid (InsOk (l.getD i dI)) := HOK.out i hlt
        obtain ⟨m9, hm9⟩ := HAX.out i hlt
        have HFN : Hid _ := flt_nums hm9
        have HNX : Hid ((l.take (i + 1)).flatMap txI = L ++ txI (l.getD i dI)) := by unfold Hid; rw [take_next l (by rw [← HN.out]; exact hlt), HLT.out]
        clear hce hm9
        generalize l.getD i dI = x at x0 x1 x2 x3 x4 HIO HFN HNX
        obtain ⟨i1, i2, A, B, C⟩ := x
        obtain ⟨d, rfl⟩ : ∃ d : Nat, i2 = (d : Int) := ⟨i2.toNat, by have h9 : 0 ≤ i2 := HIO.out.1; omega⟩
        have hd : d < 256 := by have h9 : (d : Int) < 256 := HIO.out.2; omega
        simp only at x0 x1 x2 x3 x4
        obtain ⟨r9, hr9⟩ : ∃ r, r = wr.heap.size := ⟨_, rfl⟩
        obtain ⟨WA, hWA⟩ : ∃ X, wr.alloc (.cells (insv zi) 28) = X := ⟨_, rfl⟩
        have gz : WA.heap[r9]? = some (.cells (insv zi) 28 (0, 0)) := by rw [← hWA, hr9]; exact heap_alloc_new _ _
        obtain ⟨WB, hWB⟩ : ∃ X, WA.setRow r9 #[.int .i64 i1, .int .u8 (d : Int), .int .i64 A, .int .i64 B, .int .i64 C] = X := ⟨_, rfl⟩
        have gr9 : WB.heap[r9]? = some (.cells #[.int .i64 i1, .int .u8 (d : Int), .int .i64 A, .int .i64 B, .int .i64 C] 28 (0, 0)) := by rw [← hWB]; exact setRow_heap _ _ _ _ _ _ gz
        have HUWB : Hid (Up wr WB) := by
          unfold Hid
          rw [← hWB]
          exact up_setRow (by rw [← hWA]; exact (Up.refl _).alloc _) (by rw [hr9]; exact Nat.le_refl _) _
        have HBr9 : Hid (r9 = wr.heap.size) := hr9
        go_upto_region 9 with (first | (refine wpList_store_row rfl 28 (.tmp 9) (.tmp 28) (by first | rfl | (rw [hr9]; rfl)) r9 #[.int .i64 i1, .int .u8 (d : Int), .int .i64 A, .int .i64 B, .int .i64 C] (by first | rfl | (rw [hr9]; rfl)) (by rfl) 28 ((insv zi)) (by first | exact gz | (rw [hWA]; exact gz)) sizeIns rfl (by simp [Value.oneCell']) ?_; refine wpList_world (by first | exact hWB | (rw [hWA]; exact hWB)) ?_))
        try rw [← hr9]
        try simp only [Act.put]
        clear hr9 hWA gz hWB
        have HTWB : Hid (TW W3 WB bb L) := HTW.out.upd HUWB.out
        have HTW0 : Hid (TW W3 wr bb L) := HTW.out
        have HTT : Hid (TBat WB g) := HT.out.up (HUV.out.trans HUWB.out)
        have HRW : Hid _ := row_ WB g d HTT.out hd
        obtain ⟨hk1, hk2, hk3⟩ := rwo_nam d
        have hkop : kop ⟨i1, (d : Int), A, B, C⟩ = knd d := by unfold kop; rw [Int.toNat_natCast]
        have hk0 : knd d ≠ 0 := by have h9 := HFN.out.1; rw [hkop] at h9; exact h9
        have HCT : Hid _ := count_ d hk0
        have HCL : Hid (cnt (knd d) ≤ 3) := by
          unfold Hid cnt
          repeat' split
          all_goals omega
        have HON : Hid ((#[.string (strOfNums (nam d)), .int .i64 (w0 (knd d)), .int .i64 (w1 (knd d)), .int .i64 (w2 (knd d)), fnv (knd d)] : Array Value).all (·.oneCell') = true) := by
          unfold Hid
          have h9 := fnv_one (knd d)
          simp [Value.oneCell'] at h9 ⊢
          exact h9
        have hv : rwv (rwo d) = #[.string (strOfNums (nam d)), .int .i64 (w0 (knd d)), .int .i64 (w1 (knd d)), .int .i64 (w2 (knd d)), fnv (knd d)] := rfl
        rw [hv] at HRW
        have HHD : Hid (headT ⟨i1, (d : Int), A, B, C⟩ = Lib.itoa i1 ++ [32] ++ nmb (nam d)) := by unfold Hid headT; rw [Int.toNat_natCast]
        have HTI : Hid (txI ⟨i1, (d : Int), A, B, C⟩ = headT ⟨i1, (d : Int), A, B, C⟩ ++ argT ⟨i1, (d : Int), A, B, C⟩ (cnt (knd d)) ++ [10]) := by unfold Hid txI; rw [hkop]
        have HHL : Hid ((headT ⟨i1, (d : Int), A, B, C⟩).length ≤ 40) := head_len HFN.out.2.1.1 HFN.out.2.1.2
        have HAG : Hid (∀ j, j ≤ 3 → (argT ⟨i1, (d : Int), A, B, C⟩ j).length ≤ 22 * j) := arg_len HFN.out.2.2
        have HAN : Hid (∀ j, j < 3 → argT ⟨i1, (d : Int), A, B, C⟩ (j + 1) = argT ⟨i1, (d : Int), A, B, C⟩ j ++ (32 :: Lib.itoa ((nums ⟨i1, (d : Int), A, B, C⟩).getD j 0))) := fun j hj => argT_next _ hj
        have HNU : Hid (∀ j, 0 ≤ (nums ⟨i1, (d : Int), A, B, C⟩).getD j 0 ∧ (nums ⟨i1, (d : Int), A, B, C⟩).getD j 0 < 65536) := HFN.out.2.2
        have HAT : Hid (0 ≤ i1 ∧ i1 ≤ 65535) := HFN.out.2.1
        have hsn := str_nmb (nam d)
        have hnl := nam_len d
        have hnl2 : (nmb (nam d)).length ≤ 6 := by unfold nmb; rw [List.length_map]; exact hnl
        rw [hsn] at HRW HCT HON
        generalize nmb (nam d) = nl at HRW HCT HON HHD hnl2
        obtain ⟨sN, hsN⟩ : ∃ x : ByteArray, x = ⟨nl.toArray⟩ := ⟨_, rfl⟩
        have HSN : Hid (sN = ⟨nl.toArray⟩) := hsN
        rw [← hsN] at HRW HCT HON
        clear hsN
        generalize w0 (knd d) = a at HRW HCT HON
        generalize w1 (knd d) = b at HRW HCT HON
        generalize w2 (knd d) = c3 at HRW HCT HON
        generalize fnv (knd d) = f at HRW HCT HON
        generalize cnt (knd d) = ct at HCT HCL HTI
        have HA0 : Hid (argT ⟨i1, (d : Int), A, B, C⟩ 0 = []) := rfl
        generalize argT ⟨i1, (d : Int), A, B, C⟩ = ar at HTI HAG HAN HA0
        generalize txI ⟨i1, (d : Int), A, B, C⟩ = ti at HTI HNX
        generalize headT ⟨i1, (d : Int), A, B, C⟩ = hd9 at HHD HTI HHL
        clear hk1 hk2 hk3 hkop hk0 hv hsn hnl HIO HFN HTW HTT x0 x1 x2 x3 x4 hzi
        have x1 : WB.cell? ⟨r9, 1, none⟩ = some (.int .u8 (d : Int)) := by simp only [World.cell?, gr9]; rfl
        go_wp2_with fail
        refine Calls.mono HRW.out ?_
        rintro e1 WC ⟨rfl, uc⟩
        have HTWC : Hid (TW W3 WC bb L) := HTWB.out.upd uc
        have g9 : WC.heap[r9]? = some (.cells #[.int .i64 i1, .int .u8 (d : Int), .int .i64 A, .int .i64 B, .int .i64 C] 28 (0, 0)) := uc.heap gr9
        have h9b : Hid (bb < r9) := by unfold Hid; rw [HBr9.out]; exact HTW0.out.lt
        clear x1 gr9 uc HRW HTWB
        obtain ⟨r10, hr10⟩ : ∃ r, r = WC.heap.size := ⟨_, rfl⟩
        obtain ⟨WD, hWD⟩ : ∃ X, WC.alloc (.cells (rwv ([], 0)) 78) = X := ⟨_, rfl⟩
        have gz : WD.heap[r10]? = some (.cells (rwv ([], 0)) 78 (0, 0)) := by rw [← hWD, hr10]; exact heap_alloc_new _ _
        obtain ⟨WE, hWE⟩ : ∃ X, WD.setRow r10 #[.string sN, .int .i64 a, .int .i64 b, .int .i64 c3, f] = X := ⟨_, rfl⟩
        have gr10 : WE.heap[r10]? = some (.cells #[.string sN, .int .i64 a, .int .i64 b, .int .i64 c3, f] 78 (0, 0)) := by rw [← hWE]; exact setRow_heap _ _ _ _ _ _ gz
        have HUWE : Hid (Up WC WE) := by
          unfold Hid
          rw [← hWE]
          exact up_setRow (by rw [← hWD]; exact (Up.refl _).alloc _) (by rw [hr10]; exact Nat.le_refl _) _
        have HBr10 : Hid (r10 = WC.heap.size) := hr10
        go_upto_region 10 with (first | (refine wpList_store_row rfl 78 (.tmp 10) (.tmp 31) (by first | rfl | (rw [hr10]; rfl)) r10 #[.string sN, .int .i64 a, .int .i64 b, .int .i64 c3, f] (by first | rfl | (rw [hr10]; rfl)) (by rfl) 78 ((rwv ([], 0))) (by first | exact gz | (rw [hWD]; exact gz)) sizeRow rfl (HON.out) ?_; refine wpList_world (by first | exact hWE | (rw [hWD]; exact hWE)) ?_))
        try rw [← hr10]
        try simp only [Act.put]
        clear hr10 hWD gz hWE
        have g9E : WE.heap[r9]? = some (.cells #[.int .i64 i1, .int .u8 (d : Int), .int .i64 A, .int .i64 B, .int .i64 C] 28 (0, 0)) := HUWE.out.heap g9
        have HTWE : Hid (TW W3 WE bb L) := HTWC.out.upd HUWE.out
        have hb10 : Hid (bb < r10) := by unfold Hid; rw [HBr10.out]; exact HTWC.out.lt
        have x2 : WE.cell? ⟨r9, 2, none⟩ = some (.int .i64 A) := by simp only [World.cell?, g9E]; rfl
        have x3 : WE.cell? ⟨r9, 3, none⟩ = some (.int .i64 B) := by simp only [World.cell?, g9E]; rfl
        have x4 : WE.cell? ⟨r9, 4, none⟩ = some (.int .i64 C) := by simp only [World.cell?, g9E]; rfl
        clear g9 HTWC
        obtain ⟨r11, hr11⟩ : ∃ r, r = WE.heap.size := ⟨_, rfl⟩
        obtain ⟨WF, hWF⟩ : ∃ X, WE.alloc (.cells #[.int .i64 0, .int .i64 0, .int .i64 0] 95) = X := ⟨_, rfl⟩
        have gz : WF.heap[r11]? = some (.cells #[.int .i64 0, .int .i64 0, .int .i64 0] 95 (0, 0)) := by rw [← hWF, hr11]; exact heap_alloc_new _ _
        obtain ⟨WG, hWG⟩ : ∃ X, WF.setRow r11 #[.int .i64 A, .int .i64 B, .int .i64 C] = X := ⟨_, rfl⟩
        have gr11 : WG.heap[r11]? = some (.cells #[.int .i64 A, .int .i64 B, .int .i64 C] 95 (0, 0)) := by rw [← hWG]; exact setRow_heap _ _ _ _ _ _ gz
        have HUWG : Hid (Up WE WG) := by
          unfold Hid
          rw [← hWG]
          exact up_setRow (by rw [← hWF]; exact (Up.refl _).alloc _) (by rw [hr11]; exact Nat.le_refl _) _
        have HBr11 : Hid (r11 = WE.heap.size) := hr11
        go_upto_region 11 with (first | (refine wpList_store_row rfl 95 (.tmp 11) (.tmp 38) (by first | rfl | (rw [hr11]; rfl)) r11 #[.int .i64 A, .int .i64 B, .int .i64 C] (by first | rfl | (rw [hr11]; rfl)) (by rfl) 95 (#[.int .i64 0, .int .i64 0, .int .i64 0]) (by first | exact gz | (rw [hWF]; exact gz)) sizeNum rfl (by simp [Value.oneCell']) ?_; refine wpList_world (by first | exact hWG | (rw [hWF]; exact hWG)) ?_))
        try rw [← hr11]
        try simp only [Act.put]
        clear hr11 hWF gz hWG
        have g9G : WG.heap[r9]? = some (.cells #[.int .i64 i1, .int .u8 (d : Int), .int .i64 A, .int .i64 B, .int .i64 C] 28 (0, 0)) := HUWG.out.heap g9E
        have g10G : WG.heap[r10]? = some (.cells #[.string sN, .int .i64 a, .int .i64 b, .int .i64 c3, f] 78 (0, 0)) := HUWG.out.heap gr10
        have HTWG : Hid (TW W3 WG bb L) := HTWE.out.upd HUWG.out
        have hb11 : Hid (bb < r11) := by unfold Hid; rw [HBr11.out]; exact HTWE.out.lt
        have HUG : Hid (Up W WG) := by
          have h9 := HTWG.out.up
          rw [HBB.out] at h9
          exact HUM2.out.trans h9
        clear x2 x3 x4 g9E gr10 HTWE
        obtain ⟨lI, hlI⟩ : ∃ x, x = Lib.itoa i1 := ⟨_, rfl⟩
        have hlI21 : lI.length ≤ 21 := by rw [hlI]; exact itoa_len HAT.out.1 (by have := HAT.out.2; omega)
        obtain ⟨sI, hsI⟩ : ∃ x : ByteArray, x = ⟨lI.toArray⟩ := ⟨_, rfl⟩
        obtain ⟨s2, hs2⟩ : ∃ x : ByteArray, x = ⟨(lI ++ [32]).toArray⟩ := ⟨_, rfl⟩
        obtain ⟨s3, hs3⟩ : ∃ x : ByteArray, x = ⟨hd9.toArray⟩ := ⟨_, rfl⟩
        have zI : sI.size = lI.length := by rw [hsI, arr_size]
        have z2 : s2.size = lI.length + 1 := by rw [hs2, arr_size, List.length_append]; rfl
        have zN : sN.size = nl.length := by rw [HSN.out, arr_size]
        have a1 : ¬ 9223372036854775807 < sI.size + 1 := by omega
        have f1 : sI ++ ⟨#[32]⟩ = s2 := by rw [hsI, hs2]; exact arr_app lI [32]
        have a2 : ¬ 9223372036854775807 < s2.size + sN.size := by omega
        have f2 : s2 ++ sN = s3 := by rw [hs2, HSN.out, hs3, HHD.out, ← hlI]; exact arr_app _ _
        have HIT : Hid (∀ U : UW WG, Calls Tryd.prog 63 #[.int .i64 i1] U.W fun e w' => e = .returned (.string sI) ∧ ∃ V : UW WG, w' = V.W) := fun U => (itoa_ i1 ⟨by have := HAT.out.1; omega, by have := HAT.out.2; omega⟩ U.W (HTP.out.up (HUG.out.trans U.up))).mono fun e w' h => ⟨by rw [h.1, hsI, hlI], ⟨_, U.up.trans h.2⟩, rfl⟩
        have k0 : ∀ U : UW WG, U.W.cell? ⟨r9, 0, none⟩ = some (.int .i64 i1) := fun U => by
          have h9 := U.up.heap g9G
          simp only [World.cell?, h9]
          rfl
        have k1 : ∀ U : UW WG, U.W.cell? ⟨r10, 0, none⟩ = some (.string sN) := fun U => by
          have h9 := U.up.heap g10G
          simp only [World.cell?, h9]
          rfl
        have kn : Nonempty (UW WG) := ⟨⟨_, Up.refl _⟩⟩
        have HS3 : Hid (s3 = ⟨hd9.toArray⟩) := hs3
        have HWS : Hid (∀ U : UW WG, Calls Tryd.prog 62 #[.pointer (some ⟨bb, 0, none⟩), .string s3] U.W fun e w' => e = .returned (.tuple #[.int .i64 (hd9.length : Nat), .nilIface]) ∧ IsB bb bb (Lib.byteCells (L ++ hd9)) w' ∧ Below bb U.W w' ∧ Kp bb U.W w') := fun U => by
          rw [HS3.out]
          exact wstr_ bb bb L hd9 U.W (HTWG.out.upd U.up).isb (by have := HHL.out; omega) (HTWG.out.upd U.up).sz
        clear hlI hsI hs2 hs3 zI z2 zN hlI21 hnl2 HHD
        refine TailR.wp_region_seqC 7 (fun w' => ∃ U : UW WG, w' = U.W) ⟨⟨_, (Up.refl _).drewN 1⟩, rfl⟩ (by kernel_rfl) (by kernel_rfl) ?_
        simp only [List.take_succ_cons, List.take_zero, List.drop_succ_cons, List.drop_zero]
        repeat (go_big_quiet_step (first | with_reducible exact HIT.out _))
        refine wpQuiet_nil ?_
        intro _ hw'
        obtain ⟨U, hw''⟩ := hw'
        subst hw''
        clear HIT k0 k1 kn a1 f1 a2 f2
        go_wp2_with fail
        refine Calls.mono (HWS.out U) ?_
        rintro e1 WH ⟨rfl, hib, hbl, hkp⟩
        have HTWH : Hid (TW W3 WH bb (L ++ hd9)) := (HTWG.out.upd U.up).write hib hbl
        have g10H : WH.heap[r10]? = some (.cells #[.string sN, .int .i64 a, .int .i64 b, .int .i64 c3, f] 78 (0, 0)) := hkp _ _ _ _ (U.up.heap g10G) (by decide) (by have := hb10.out; omega)
        have g11H : WH.heap[r11]? = some (.cells #[.int .i64 A, .int .i64 B, .int .i64 C] 95 (0, 0)) := hkp _ _ _ _ (U.up.heap gr11) (by decide) (by have := hb11.out; omega)
        clear hib hbl hkp HWS g10G g9G gr11 HTWG HUG
        go_wp2_with (first | (refine wpList_load_rowG (by rfl) 78 (.tmp 10) (by rfl) r10 (by rfl) 78 #[.string sN, .int .i64 a, .int .i64 b, .int .i64 c3, f] (0, 0) _ g10H Tryd.underlying78 (by rfl) sizeRow ?_))
        refine Calls.mono (HCT.out WH) ?_
        rintro e1 WI ⟨rfl, ui⟩
        have HTWI : Hid (TW W3 WI bb (L ++ hd9)) := HTWH.out.upd ui
        have g11I : WI.heap[r11]? = some (.cells #[.int .i64 A, .int .i64 B, .int .i64 C] 95 (0, 0)) := ui.heap g11H
        clear g10H g11H ui HTWH HCT
        have hct3 : ct ≤ 3 := HCL.out
        have hct3b : (ct : Int) ≤ 3 := by omega
        go_wp2_with fail
        clear HON
        go_loopw [51] (fun s51 V => ∃ j : Nat, j ≤ ct ∧ s51 = .int .i64 (j : Int) ∧ TW W3 V bb (L ++ hd9 ++ ar j) ∧ V.heap[r11]? = some (.cells #[.int .i64 A, .int .i64 B, .int .i64 C] 95 (0, 0))) (fun s51 _ => ct - (intOf s51).toNat)
        case atStart => exact ⟨0, Nat.zero_le _, rfl, by rw [HA0.out, List.append_nil]; exact HTWI.out, g11I⟩
        case round =>
          obtain ⟨j, hj, rfl, htw, hg11⟩ := hrel
          have HTWJ : Hid (TW W3 wr bb (L ++ hd9 ++ ar j)) := htw
          have HUJ : Hid (Up W wr) := by
            have h9 := htw.up
            rw [HBB.out] at h9
            exact HUM2.out.trans h9
          have harj : (ar j).length ≤ 66 := by have := HAG.out j (by omega); omega
          clear htw
          by_cases hjl : j < ct
          · have hjl2 : (j : Int) < (ct : Int) := by omega
            obtain ⟨zj, hzj⟩ : ∃ z, z = (nums ⟨i1, (d : Int), A, B, C⟩).getD j 0 := ⟨_, rfl⟩
            have hcell : wr.cell? ⟨r11, j, none⟩ = some (.int .i64 zj) := by
              rw [hzj]
              rcases (by omega : j = 0 ∨ j = 1 ∨ j = 2) with rfl | rfl | rfl <;> (simp only [World.cell?, hg11]; rfl)
            obtain ⟨lz, hlz⟩ : ∃ x, x = Lib.itoa zj := ⟨_, rfl⟩
            have hnz := HNU.out j
            rw [← hzj] at hnz
            have hlz21 : lz.length ≤ 21 := by rw [hlz]; exact itoa_len hnz.1 (by omega)
            have HARN : Hid (ar (j + 1) = ar j ++ (32 :: lz)) := by unfold Hid; rw [HAN.out j (by omega), ← hzj, hlz]
            obtain ⟨sI, hsI⟩ : ∃ x : ByteArray, x = ⟨lz.toArray⟩ := ⟨_, rfl⟩
            obtain ⟨s2, hs2⟩ : ∃ x : ByteArray, x = ⟨(32 :: lz).toArray⟩ := ⟨_, rfl⟩
            have zI : sI.size = lz.length := by rw [hsI, arr_size]
            have a1 : ¬ 9223372036854775807 < 1 + sI.size := by omega
            have f1 : (⟨#[32]⟩ : ByteArray) ++ sI = s2 := by rw [hsI, hs2]; exact arr_app [32] lz
            have HIT : Hid (Calls Tryd.prog 63 #[.int .i64 zj] wr fun e w' => e = .returned (.string sI) ∧ Up wr w') := (itoa_ zj ⟨by omega, by omega⟩ wr (HTP.out.up HUJ.out)).mono fun e w' h => ⟨by rw [h.1, hsI, hlz], h.2⟩
            have HS2 : Hid (s2 = ⟨(32 :: lz).toArray⟩) := hs2
            have hslz : (32 :: lz).length ≤ 22 := by rw [List.length_cons]; omega
            clear hzj hlz hsI hs2 zI hlz21 hnz
            go_wp2_with fail
            refine Calls.mono HIT.out ?_
            rintro e1 WJ ⟨rfl, uj⟩
            have HTWK : Hid (TW W3 WJ bb (L ++ hd9 ++ ar j)) := HTWJ.out.upd uj
            have g11J : WJ.heap[r11]? = some (.cells #[.int .i64 A, .int .i64 B, .int .i64 C] 95 (0, 0)) := uj.heap hg11
            have HWS : Hid (Calls Tryd.prog 62 #[.pointer (some ⟨bb, 0, none⟩), .string s2] WJ fun e w' => e = .returned (.tuple #[.int .i64 ((32 :: lz).length : Nat), .nilIface]) ∧ IsB bb bb (Lib.byteCells (L ++ hd9 ++ ar j ++ (32 :: lz))) w' ∧ Below bb WJ w' ∧ Kp bb WJ w') := by
              unfold Hid
              rw [HS2.out]
              exact wstr_ bb bb _ (32 :: lz) WJ HTWK.out.isb (by rw [List.length_append, List.length_append]; have := HHL.out; omega) HTWK.out.sz
            clear hcell HIT uj HTWJ hg11
            go_wp2_with fail
            refine Calls.mono HWS.out ?_
            rintro e1 WK ⟨rfl, hib, hbl, hkp⟩
            have HTWL : Hid (TW W3 WK bb (L ++ hd9 ++ ar (j + 1))) := by
              unfold Hid
              rw [HARN.out, ← List.append_assoc]
              exact HTWK.out.write hib hbl
            have g11K : WK.heap[r11]? = some (.cells #[.int .i64 A, .int .i64 B, .int .i64 C] 95 (0, 0)) := hkp _ _ _ _ g11J (by decide) (by have := hb11.out; omega)
            clear hib hbl hkp HWS g11J HTWK a1 f1
            go_wp2_with fail
            go_roundw
            case rel => exact ⟨j + 1, by omega, by first | rfl | go_num, HTWL.out, g11K⟩
            case measure => simp [intOf]; omega
          · have hjl2 : ¬ (j : Int) < (ct : Int) := by omega
            obtain rfl : j = ct := by omega
            have HWS : Hid (Calls Tryd.prog 62 #[.pointer (some ⟨bb, 0, none⟩), .string ⟨#[10]⟩] wr fun e w' => e = .returned (.tuple #[.int .i64 (([10] : List UInt8).length : Nat), .nilIface]) ∧ IsB bb bb (Lib.byteCells (L ++ hd9 ++ ar j ++ [10])) w' ∧ Below bb wr w' ∧ Kp bb wr w') := wstr_ bb bb _ [10] wr HTWJ.out.isb (by rw [List.length_append, List.length_append]; have := HHL.out; show _ + 1 ≤ _; omega) HTWJ.out.sz
            have HEQ : Hid (L ++ hd9 ++ ar j ++ [10] = (l.take (i + 1)).flatMap txI) := by
              unfold Hid
              rw [HNX.out, HTI.out]
              simp [List.append_assoc]
            have hlen : (L ++ hd9 ++ ar j ++ [10]).length ≤ 200 * (i + 1) := by
              rw [List.length_append, List.length_append, List.length_append]
              have := HHL.out
              show _ + 1 ≤ _
              omega
            have HLE : Hid ((L ++ hd9 ++ ar j ++ [10]).length ≤ 200 * (i + 1)) := hlen
            clear hlen hg11
            go_wp2_with fail
            refine Calls.mono HWS.out ?_
            rintro e1 WK ⟨rfl, hib, hbl, hkp⟩
            have HTWL : Hid (TW W3 WK bb (L ++ hd9 ++ ar j ++ [10])) := HTWJ.out.write hib hbl
            clear hib hbl hkp HWS
            go_wp2_with fail
            go_roundw
            case rel => exact ⟨i + 1, L ++ hd9 ++ ar j ++ [10], by omega, HLE.out, by first | rfl | go_num, HEQ.out, HTWL.out⟩
            case measure => simp [intOf]; omega
      · have hlt2 : ¬ (i : Int) < (n : Int) := by omega
        obtain rfl : i = n := by omega
        have hs : Hid (bb ≤ wr.heap.size) := HTW.out.sz
        have HST : Hid _ := Tryd.Builder_String_any_k bb bb L wr HTW.out.isb hs.out
        have HRS : Hid (tx = L) := by unfold Hid; rw [HTX2.out, HLT.out, HN.out, List.take_length]
        go_wp2_with fail
        refine Calls.mono HST.out ?_
        rintro e1 W9 ⟨rfl, -, hb9, -⟩
        go_wp2_with fail
        rw [HPo.out]
        refine ⟨by rw [HRS.out]; try rfl, HUM2.out.trans ?_⟩
        have h9 := Below.trans HTW.out.up hb9
        rw [HBB.out] at h9
        exact h9
  · have hpb : (pe == 0) = false := by simpa using hpe
    have HRS : Hid (tx = []) := by unfold Hid; rw [HTX.out, if_pos hpe]
    go_wp2_with fail
    rw [HPo.out]
    exact ⟨by rw [HRS.out]; try rfl, HUP.out⟩
end CD
end Go.Proofs.YtoaaehgnbapibaaDoor
