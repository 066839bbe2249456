/-
  The program's parser: a row of operands.
-/
import Derived.Test.YtkldllnnocdhbaaGreatDoorBg10
namespace Go.Proofs.YtkldllnnocdhbaaGreatDoor
open Go.RowKit
attribute [local go_sem ↓] Go.wp_at_zero Go.wp_at_succ
namespace TP
open TR (Nd Byt nums_inj)
open TK (Tok)
/- the function is entered where it is called -/
def Ent (f : FuncId) : Prop := ∀ (args : Array Value) (w : World), (callFunc f args).run Tryz.prog w = .ok (.enter f args) w
/- what is answered, made of what was read -/
def QA (b bt off n c ml ms d lo : Nat) (R : Rs) (K : Fo → Fo) (W : World) (e : Ending) (W' : World) : Prop := Only b W W' ∧ match R with
  | .ok f j => ∃ g, e = .returned (ptr g) ∧ PF W' (Sn lo W') (K f) [ptr g] ∧ QS W' b bt off n c ml ms j d
  | .bad er pp => e = pnc er pp
set_option maxRecDepth 100000 in
set_option maxHeartbeats 16000000 in
theorem above_ (w0 W : World) (b bt off n c ml ms i d : Nat) (l : List Tok) (hE : Ev w0 b bt off n c l) (ho : Only b w0 W) (hi : i < n) (hP : QS W b bt off n c ml ms i d) (hd : d ≤ 64) (hk : (tk l i).kind ≠ 0) (N : Nat) (f : FuncId) (hen : Ent f) (g0 : G) (hF : Prt w0 b bt off n c ml ms l N f g0) (R2 : Rs) (hR : P l N g0 (i + 1) d = some R2) (lo gl : Nat) (x : Fo) (hx : PF W (fun z => lo ≤ z ∧ z < W.heap.size) x [ptr gl]) (hb : b < lo) (hlo : lo ≤ W.heap.size) : Calls Tryz.prog 112 #[.pointer (some ⟨b, 0, none⟩), ptr gl, .func (.func f) #[.pointer (some ⟨b, 0, none⟩)] #[]] W (QA b bt off n c ml ms d lo R2 (fun y => nod (bwn (tk l i)) 0 [] (tk l i).pos (x.app y)) W) := by
  obtain ⟨Post, hPost⟩ : ∃ P : Ending → World → Prop, P = QA b bt off n c ml ms d lo R2 (fun y => nod (bwn (tk l i)) 0 [] (tk l i).pos (x.app y)) W := ⟨_, rfl⟩
  rw [← hPost]
  have HPo : Hid (Post = QA b bt off n c ml ms d lo R2 (fun y => nod (bwn (tk l i)) 0 [] (tk l i).pos (x.app y)) W) := hPost
  clear hPost
  have hent : ∀ (args : Array Value) (w : World), (callFunc f args).run Tryz.prog w = .ok (.enter f args) w := hen
  have hi1 : i + 1 < n := hE.next hi hk
  have HB : Hid (Calls Tryz.prog 152 #[.pointer (some ⟨b, 0, none⟩)] W fun r w' => r = .returned (.int .i8 (bwn (tk l i))) ∧ Up W w') := between_ w0 W b bt off n c ml ms i d l hE ho hi hP
  have HBG : Hid (∀ W2, Up W W2 → Calls Tryz.prog 135 #[.pointer (some ⟨b, 0, none⟩), .int .i8 (bwn (tk l i))] W2 (fun r w' => Only b W2 w' ∧ QS w' b bt off n c ml ms (i + 1) d ∧ ∃ g, r = .returned (ptr g) ∧ W2.heap.size ≤ g ∧ w'.heap[g]? = some (.cells (pcell (⟨bwn (tk l i), 0, 0, 0, [], (tk l i).pos, 0⟩ : Nd) (.slice none 0 0)) 170 (0, 0)))) := fun W2 hu => begin_ w0 W2 b bt off n c ml ms i d l hE (ho.trans (Only.up hu)) hi (hP.up hu) _
  have HFC : Hid (∀ W2, Only b W W2 → QS W2 b bt off n c ml ms (i + 1) d → Calls Tryz.prog f #[.pointer (some ⟨b, 0, none⟩)] W2 (QG b bt off n c ml ms d R2 W2)) := fun W2 o2 p2 => hF (i + 1) d R2 W2 (ho.trans o2) p2 hi1 hd hR
  have HX : Hid (PF W (fun z => lo ≤ z ∧ z < W.heap.size) x [ptr gl]) := hx
  have HLO : Hid (lo ≤ W.heap.size) := hlo
  have hbl := hP.cells.2.2.2.2.2.2
  clear hE ho hP hF hR hk hi1 hx hd hen
  generalize bwn (tk l i) = op at *
  generalize (tk l i).pos = q at *
  go_enter Tryz.func112, Tryz.ntmps112
  go_wp2_with fail
  refine Calls.mono HB.out ?_
  rintro r w1 ⟨rfl, u1⟩
  have HC := HBG.out w1 u1
  have HU1 : Hid (Up W w1) := u1
  clear u1 HB HBG
  go_wp2_with fail
  refine Calls.mono HC ?_
  rintro r w2 ⟨o2, p2, g, rfl, hg, hc⟩
  have HO2 : Hid (Only b W w2) := (Only.up HU1.out).trans o2
  have hgW : W.heap.size ≤ g := Nat.le_trans HU1.out.size hg
  have HN2 : Hid (w2.heap[g]? = some (.cells (pcell (⟨op, 0, 0, 0, [], q, 0⟩ : Nd) (.slice none 0 0)) 170 (0, 0))) := hc
  have HC2 := HFC.out w2 HO2.out p2
  clear o2 p2 hc HC HFC hg
  go_wp2_with fail
  refine Calls.mono HC2 ?_
  intro r w3 h
  obtain ⟨o3, h⟩ := h
  have HO3 : Hid (Only b W w3) := HO2.out.trans o3
  have HOO : Hid (Only b w2 w3) := o3
  clear o3 HC2
  cases R2 with
  | bad er pp =>
    obtain rfl : r = pnc er pp := h
    unfold pnc at *
    go_wp2_with fail
    rw [HPo.out]
    exact ⟨rfl, HO3.out, rfl⟩
  | ok y j =>
    obtain ⟨gr, rfl, hy, p3⟩ := h
    have HP3 : Hid (QS w3 b bt off n c ml ms j d) := p3
    have HAD : Hid (Calls Tryz.prog 77 #[ptr g, .slice (some ⟨w3.heap.size, 0, none⟩) 2 2] (w3.alloc (.cells #[ptr gl, ptr gr] 91)) (fun r w' => r = .returned (.tuple #[]) ∧ Exc (Tg g (.slice none 0 0)) (w3.alloc (.cells #[ptr gl, ptr gr] 91)) w' ∧ ∃ sv', NB w' lo g (⟨op, 0, 0, 0, [], q, 0⟩ : Nd) sv' ([] ++ [ptr gl, ptr gr]) (Fo.nil.app (x.app y)))) := by
      have hlo := HLO.out
      have hgl2 : g < w2.heap.size := (Array.getElem?_eq_some_iff.1 HN2.out).1
      have s1 := HO2.out.2.1
      have s2 := HOO.out.2.1
      have hsz : (w3.alloc (.cells #[ptr gl, ptr gr] 91)).heap.size = w3.heap.size + 1 := by simp
      have hc3 : w3.heap[g]? = some (.cells (pcell (⟨op, 0, 0, 0, [], q, 0⟩ : Nd) (.slice none 0 0)) 170 (0, 0)) := HOO.out.heap HN2.out (by omega)
      have u4 : Up w3 (w3.alloc (.cells #[ptr gl, ptr gr] 91)) := (Up.refl _).alloc _
      have hx4 : PF (w3.alloc (.cells #[ptr gl, ptr gr] 91)) (fun z => (lo ≤ z ∧ z < W.heap.size) ∨ (w2.heap.size ≤ z ∧ z < w3.heap.size)) x [ptr gl] := PF.mono (fun z hz => .inl hz) x _ (PF.keep (fun _ _ _ e => u4.heap e) x _ (PF.only HX.out HO3.out hb))
      have hy4 : PF (w3.alloc (.cells #[ptr gl, ptr gr] 91)) (fun z => (lo ≤ z ∧ z < W.heap.size) ∨ (w2.heap.size ≤ z ∧ z < w3.heap.size)) y [ptr gr] := PF.mono (fun z hz => .inr hz) y _ (PF.keep (fun _ _ _ e => u4.heap e) y _ hy)
      exact add_ _ lo g _ (.slice none 0 0) [] .nil (NB.made (u4.heap hc3) (by omega)) (by omega) [ptr gl, ptr gr] (x.app y) (fun z => (lo ≤ z ∧ z < W.heap.size) ∨ (w2.heap.size ≤ z ∧ z < w3.heap.size)) (PF.app x y _ _ hx4 hy4) (by omega) (fun k1 e => by cases e) (fun z hz => by unfold Sn; omega) ⟨w3.heap.size, 0, none⟩ 2 (Nat.succ_pos _) (World.news_of_block (cs := #[ptr gl, ptr gr]) (heap_alloc_new w3 _)) (by intro u hu; simp only [List.mem_cons, List.not_mem_nil, or_false] at hu; rcases hu with rfl | rfl <;> rfl) (by simp)
    clear hy p3
    go_wp2_with fail
    refine Calls.mono HAD.out ?_
    rintro r w5 ⟨rfl, e5, sv', n5⟩
    have HE5 : Hid _ := e5
    have HN5 : Hid _ := n5
    clear e5 n5 HAD
    go_wp2_with fail
    rw [HPo.out]
    refine ⟨only_exc (HO3.out.trans (Only.up ((Up.refl _).alloc _))) HE5.out (fun k hk => ?_), g, rfl, (HN5.out.kids (cntF (x.app y) : Int)).done, (HP3.out.up ((Up.refl _).alloc _)).exc HE5.out (fun hk => ?_)⟩
    · rcases hk with rfl | hk
      · exact hgW
      · cases hk
    · rcases hk with rfl | hk
      · omega
      · cases hk
set_option maxRecDepth 100000 in
set_option maxHeartbeats 16000000 in
theorem ahead_ (w0 W : World) (b bt off n c ml ms i d : Nat) (l : List Tok) (hE : Ev w0 b bt off n c l) (ho : Only b w0 W) (hi : i < n) (hP : QS W b bt off n c ml ms i d) (hd : d ≤ 64) (hk : (tk l i).kind ≠ 0) (op : Int) (N : Nat) (f : FuncId) (hen : Ent f) (g0 : G) (hF : Prt w0 b bt off n c ml ms l N f g0) (R : Rs) (hR : (if d = 64 then deep (tk l i) else bd (P l N g0 (i + 1) (d + 1)) (fun x j => okr (nod op 0 [] (tk l i).pos x) j)) = some R) : Calls Tryz.prog 153 #[.pointer (some ⟨b, 0, none⟩), .int .i8 op, .func (.func f) #[.pointer (some ⟨b, 0, none⟩)] #[]] W (QG b bt off n c ml ms d R W) := by
  obtain ⟨Post, hPost⟩ : ∃ P : Ending → World → Prop, P = QG b bt off n c ml ms d R W := ⟨_, rfl⟩
  rw [← hPost]
  have HPo : Hid (Post = QG b bt off n c ml ms d R W) := hPost
  clear hPost
  have hent : ∀ (args : Array Value) (w : World), (callFunc f args).run Tryz.prog w = .ok (.enter f args) w := hen
  have hi1 : i + 1 < n := hE.next hi hk
  have HHR : Hid (Calls Tryz.prog 75 #[.pointer (some ⟨b, 0, none⟩), .int .i8 op] W (fun r w' => Up W w' ∧ ∃ g, r = .returned (ptr g) ∧ W.heap.size ≤ g ∧ w'.heap[g]? = some (.cells (pcell (⟨op, 0, 0, 0, [], (tk l i).pos, 0⟩ : Nd) (.slice none 0 0)) 170 (0, 0)))) := here_ w0 W b bt off n c ml ms i d l hE ho hi hP op
  have HOP : Hid (∀ W2, Up W W2 → Calls Tryz.prog 111 #[.pointer (some ⟨b, 0, none⟩)] W2 (fun r w' => Only b W2 w' ∧ ((d ≠ 64 ∧ r = .returned (.tuple #[]) ∧ QS w' b bt off n c ml ms i (d + 1)) ∨ (d = 64 ∧ r = pnc 23 (tk l i).pos)))) := fun W2 hu => popens_ w0 W2 b bt off n c ml ms i d l hE (ho.trans (Only.up hu)) hi (hP.up hu) hd
  have HPS : Hid (∀ W2, Only b W W2 → QS W2 b bt off n c ml ms i (d + 1) → Calls Tryz.prog 139 #[.pointer (some ⟨b, 0, none⟩)] W2 fun r w' => r = .returned (.agg #[.int .i8 (tk l i).kind, .string (strOfNums (tk l i).text), .int .i64 (tk l i).num, .int .i64 (tk l i).pos]) ∧ Only b W2 w' ∧ QS w' b bt off n c ml ms (i + 1) (d + 1)) := fun W2 o2 p2 => pass_ w0 W2 b bt off n c ml ms i (d + 1) l hE (ho.trans o2) hi p2
  have HFC : Hid (∀ W2 R2, Only b W W2 → QS W2 b bt off n c ml ms (i + 1) (d + 1) → d ≠ 64 → P l N g0 (i + 1) (d + 1) = some R2 → Calls Tryz.prog f #[.pointer (some ⟨b, 0, none⟩)] W2 (QG b bt off n c ml ms (d + 1) R2 W2)) := fun W2 R2 o2 p2 h64 h2 => hF (i + 1) (d + 1) R2 W2 (ho.trans o2) p2 hi1 (by omega) h2
  have HR1 : Hid (d = 64 → R = .bad 23 (tk l i).pos) := fun h => by rw [if_pos h] at hR; exact (Option.some.inj hR).symm
  have HR2 : Hid (d ≠ 64 → ∃ R2, P l N g0 (i + 1) (d + 1) = some R2 ∧ bd (some R2) (fun x j => okr (nod op 0 [] (tk l i).pos x) j) = some R) := fun h => by
    rw [if_neg h] at hR
    cases h9 : P l N g0 (i + 1) (d + 1) with
    | none => rw [h9] at hR; cases hR
    | some R2 => rw [h9] at hR; exact ⟨R2, rfl, hR⟩
  have hbl := hP.cells.2.2.2.2.2.2
  have eD : IntKind.i64.wrap (((d + 1 : Nat) : Int) - 1) = (d : Int) := by rw [IntKind.wrap_i64]; omega
  clear hE ho hP hF hR hk hi1 hd hen
  obtain ⟨D, hD⟩ : ∃ D, D = d + 1 := ⟨_, rfl⟩
  rw [← hD] at HOP HPS HFC HR2 eD
  clear hD
  generalize tk l i = t at *
  go_enter Tryz.func153, Tryz.ntmps153
  go_wp2_with fail
  refine Calls.mono HHR.out ?_
  rintro r w1 ⟨u1, g, rfl, hg, hc⟩
  have HU1 : Hid (Up W w1) := u1
  have HN1 : Hid _ := hc
  have HC := HOP.out w1 u1
  clear u1 hc HHR HOP
  go_wp2_with fail
  refine Calls.mono HC ?_
  rintro r w2 ⟨ow2, ⟨h64, rfl, p2⟩ | ⟨h64, rfl⟩⟩
  · have HO2 : Hid (Only b W w2) := (Only.up HU1.out).trans ow2
    have HN2 : Hid (w2.heap[g]? = some (.cells (pcell (⟨op, 0, 0, 0, [], t.pos, 0⟩ : Nd) (.slice none 0 0)) 170 (0, 0))) := ow2.heap HN1.out (by omega)
    have HC2 := HPS.out w2 HO2.out p2
    obtain ⟨R2, h2, h3⟩ := HR2.out h64
    have HB2 : Hid (bd (some R2) (fun x j => okr (nod op 0 [] t.pos x) j) = some R) := h3
    have HFD : Hid (∀ W2, Only b W W2 → QS W2 b bt off n c ml ms (i + 1) D → Calls Tryz.prog f #[.pointer (some ⟨b, 0, none⟩)] W2 (QG b bt off n c ml ms D R2 W2)) := fun W2 o9 p9 => HFC.out W2 R2 o9 p9 h64 h2
    clear ow2 p2 HC HPS HN1 h2 h3 HR1 HR2 HFC h64
    go_wp2_with fail
    refine Calls.mono HC2 ?_
    rintro r w3 ⟨rfl, o3, p3⟩
    have HO3 : Hid (Only b W w3) := HO2.out.trans o3
    have HN3 : Hid (w3.heap[g]? = some (.cells (pcell (⟨op, 0, 0, 0, [], t.pos, 0⟩ : Nd) (.slice none 0 0)) 170 (0, 0))) := o3.heap HN2.out (by omega)
    have HC3 := HFD.out w3 HO3.out p3
    clear o3 p3 HC2 HN2 HFD
    go_wp2_with fail
    refine Calls.mono HC3 ?_
    intro r w4 h
    obtain ⟨o4, h⟩ := h
    have HO4 : Hid (Only b W w4) := HO3.out.trans o4
    have HOO : Hid (Only b w3 w4) := o4
    clear o4 HC3
    cases R2 with
    | bad er pp =>
      obtain rfl : r = pnc er pp := h
      obtain rfl : Rs.bad er pp = R := Option.some.inj HB2.out
      unfold pnc at *
      go_wp2_with fail
      rw [HPo.out]
      exact ⟨rfl, HO4.out, rfl⟩
    | ok y j =>
      obtain ⟨gr, rfl, hy, p4⟩ := h
      obtain rfl : Rs.ok (nod op 0 [] t.pos y) j = R := Option.some.inj HB2.out
      have HP4 : Hid (QS w4 b bt off n c ml ms j D) := p4
      have HAD : Hid (Calls Tryz.prog 77 #[ptr g, .slice (some ⟨w4.heap.size, 0, none⟩) 1 1] (w4.alloc (.cells #[ptr gr] 91)) (fun r w' => r = .returned (.tuple #[]) ∧ Exc (Tg g (.slice none 0 0)) (w4.alloc (.cells #[ptr gr] 91)) w' ∧ ∃ sv', NB w' W.heap.size g (⟨op, 0, 0, 0, [], t.pos, 0⟩ : Nd) sv' ([] ++ [ptr gr]) (Fo.nil.app y))) := by
        have hgl2 : g < w3.heap.size := (Array.getElem?_eq_some_iff.1 HN3.out).1
        have s1 := HO3.out.2.1
        have s2 := HOO.out.2.1
        have hsz : (w4.alloc (.cells #[ptr gr] 91)).heap.size = w4.heap.size + 1 := by simp
        have hc4 : w4.heap[g]? = some (.cells (pcell (⟨op, 0, 0, 0, [], t.pos, 0⟩ : Nd) (.slice none 0 0)) 170 (0, 0)) := HOO.out.heap HN3.out (by omega)
        have u5 : Up w4 (w4.alloc (.cells #[ptr gr] 91)) := (Up.refl _).alloc _
        exact add_ _ W.heap.size g _ (.slice none 0 0) [] .nil (NB.made (u5.heap hc4) hg) (by omega) [ptr gr] y (Sn w3.heap.size w4) (PF.keep (fun _ _ _ e => u5.heap e) y _ hy) (by unfold Sn; omega) (fun k1 e => by cases e) (fun z hz => by unfold Sn at hz ⊢; omega) ⟨w4.heap.size, 0, none⟩ 1 (Nat.succ_pos _) (World.news_of_block (cs := #[ptr gr]) (heap_alloc_new w4 _)) (by intro u hu; simp only [List.mem_cons, List.not_mem_nil, or_false] at hu; subst hu; rfl) (by simp)
      clear hy p4
      go_wp2_with fail
      refine Calls.mono HAD.out ?_
      rintro r w5 ⟨rfl, e5, sv', n5⟩
      have HO5 : Hid (Only b W w5) := only_exc (HO4.out.trans (Only.up ((Up.refl _).alloc _))) e5 (fun k hk => by
        rcases hk with rfl | hk
        · exact hg
        · cases hk)
      have HP5 : Hid (QS w5 b bt off n c ml ms j D) := (HP4.out.up ((Up.refl _).alloc _)).exc e5 (fun hk => by
        rcases hk with rfl | hk
        · omega
        · cases hk)
      have HN5 : Hid _ := n5
      clear e5 n5 HAD HP4
      obtain ⟨a0, a1, a2, a3, a4, fz, hbl5⟩ := HP5.out.cells
      go_wp2_with fail
      rw [HPo.out]
      have hn6 := (HN5.out.keep (W' := w5.setCell ⟨b, 2, none⟩ (.int .i64 (d : Int))) (by simp [World.setCell]) (fun x o hx e => by rw [Below.heap_setCell _ _ _ _ (show x ≠ b by omega)]; exact e)).kids (cntF y : Int)
      exact ⟨HO5.out.set 2 _, g, rfl, hn6.done, HP5.out.op d⟩
  · have HO2 : Hid (Only b W w2) := (Only.up HU1.out).trans ow2
    obtain rfl := (HR1.out h64).symm
    clear ow2 HC HPS HR1 HR2 HFC
    unfold pnc at *
    go_wp2_with fail
    rw [HPo.out]
    exact ⟨rfl, HO2.out, rfl⟩
end TP
end Go.Proofs.YtkldllnnocdhbaaGreatDoor
namespace Go.Proofs.YtkldllnnocdhbaaGreatDoor
open Go.RowKit
attribute [local go_sem ↓] Go.wp_at_zero Go.wp_at_succ
namespace TP
open TR (Nd Byt nums_inj)
open TK (Tok)
set_option maxRecDepth 100000 in
set_option maxHeartbeats 16000000 in
theorem prow_ (w0 W : World) (b bt off n c ml ms i d : Nat) (l : List Tok) (hE : Ev w0 b bt off n c l) (ho : Only b w0 W) (hi : i < n) (hP : QS W b bt off n c ml ms i d) (hd : d ≤ 64) (r lo hi' : Int) (hrr : (r = 1 ∧ lo = 36 ∧ hi' = 36) ∨ (r = 2 ∧ lo = 37 ∧ hi' = 37) ∨ (r = 4 ∧ lo = 38 ∧ hi' = 43) ∨ (r = 5 ∧ lo = 44 ∧ hi' = 45) ∨ (r = 6 ∧ lo = 46 ∧ hi' = 48)) (N : Nat) (f : FuncId) (hen : Ent f) (hF : ∀ k, k ≤ N → Prt w0 b bt off n c ml ms l k f (opnd r)) (R : Rs) (hl : (tk l (l.length - 1)).kind = 0) (hR : P l (N + 1) (.row r) i d = some R) : Calls Tryz.prog 73 #[.pointer (some ⟨b, 0, none⟩), .func (.func f) #[.pointer (some ⟨b, 0, none⟩)] #[], .int .i8 lo, .int .i8 hi'] W (QG b bt off n c ml ms d R W) := by
  obtain ⟨Post, hPost⟩ : ∃ P : Ending → World → Prop, P = QG b bt off n c ml ms d R W := ⟨_, rfl⟩
  rw [← hPost]
  have HPo : Hid (Post = QG b bt off n c ml ms d R W) := hPost
  clear hPost
  have hent : ∀ (args : Array Value) (w : World), (callFunc f args).run Tryz.prog w = .ok (.enter f args) w := hen
  have HE : Hid (Ev w0 b bt off n c l) := hE
  have HW : Hid (Only b w0 W) := ho
  have HP : Hid (QS W b bt off n c ml ms i d) := hP
  have HF : Hid (∀ k, k ≤ N → Prt w0 b bt off n c ml ms l k f (opnd r)) := hF
  have HLA : Hid ((tk l (l.length - 1)).kind = 0) := hl
  have HLN : Hid (n = l.length) := hE.len
  have HRR : Hid ((r = 1 ∧ lo = 36 ∧ hi' = 36) ∨ (r = 2 ∧ lo = 37 ∧ hi' = 37) ∨ (r = 4 ∧ lo = 38 ∧ hi' = 43) ∨ (r = 5 ∧ lo = 44 ∧ hi' = 45) ∨ (r = 6 ∧ lo = 46 ∧ hi' = 48)) := hrr
  obtain ⟨a0, a1, a2, a3, a4, fz, hbl⟩ := hP.cells
  have HBL : Hid (b < W.heap.size) := hbl
  have hns := hE.small
  rw [P] at hR
  obtain ⟨R1, hR1, hb1⟩ : ∃ R1, P l N (opnd r) i d = some R1 ∧ bd (some R1) (fun x j => P l N (.rowL r x 0) j d) = some R := by
    cases h9 : P l N (opnd r) i d with
    | none => rw [h9] at hR; cases hR
    | some R1 => rw [h9] at hR; exact ⟨R1, rfl, hR⟩
  have HFC : Hid (Calls Tryz.prog f #[.pointer (some ⟨b, 0, none⟩)] W (QG b bt off n c ml ms d R1 W)) := hF N (Nat.le_refl _) i d R1 W ho hP hi hd hR1
  have HS1 : Hid (∀ x j, R1 = .ok x j → j < n) := fun x j e => by
    subst e
    have h9 := stays hl hR1 (by have := HLN.out; omega)
    have := h9.2.1
    have := HLN.out
    omega
  clear hE ho hP hF hl hrr hR hR1
  go_enter Tryz.func73, Tryz.ntmps73
  go_wp2_with fail
  refine Calls.mono HFC.out ?_
  intro r9 w1 h
  obtain ⟨o1, h⟩ := h
  have HO1 : Hid (Only b W w1) := o1
  clear o1 HFC a0 a1 a2 a3 a4 fz hbl
  cases R1 with
  | bad er pp =>
    obtain rfl : r9 = pnc er pp := h
    obtain rfl : Rs.bad er pp = R := Option.some.inj hb1
    unfold pnc at *
    go_wp2_with fail
    rw [HPo.out]
    exact ⟨rfl, HO1.out, rfl⟩
  | ok x0 j0 =>
    obtain ⟨g1, rfl, hx1, p1⟩ := h
    have hj0 := HS1.out x0 j0 rfl
    have HI0 : Hid (∃ (gl m : Nat) (x : Fo) (j D k : Nat), ptr g1 = ptr gl ∧ Value.int .i64 0 = .int .i64 (m : Int) ∧ PF w1 (Sn W.heap.size w1) x [ptr gl] ∧ QS w1 b bt off n c ml ms j D ∧ j < n ∧ D ≤ 64 ∧ m ≤ j ∧ k ≤ N ∧ P l k (.rowL r x m) j D = some R ∧ Only b W w1) := ⟨g1, 0, x0, j0, d, N, rfl, rfl, hx1, p1, hj0, hd, Nat.zero_le _, Nat.le_refl _, hb1, HO1.out⟩
    clear hx1 p1 hb1 HS1 hj0
    go_wp2_with fail
    go_loopw [10, 11] (fun s10 s11 W3 => ∃ (gl m : Nat) (x : Fo) (j D k : Nat), s10 = ptr gl ∧ s11 = .int .i64 (m : Int) ∧ PF W3 (Sn W.heap.size W3) x [ptr gl] ∧ QS W3 b bt off n c ml ms j D ∧ j < n ∧ D ≤ 64 ∧ m ≤ j ∧ k ≤ N ∧ P l k (.rowL r x m) j D = some R ∧ Only b W W3) (fun _ s11 _ => n + 1 - (intOf s11).toNat)
    case atStart => exact HI0.out
    case round =>
      obtain ⟨gl, m, x, j, D, k, rfl, rfl, hx, hp, hj, hD, hm, hk, hPk, hor⟩ := hrel
      have HOr : Hid (Only b W wr) := hor
      have HPr : Hid (QS wr b bt off n c ml ms j D) := hp
      have HXr : Hid (PF wr (Sn W.heap.size wr) x [ptr gl]) := hx
      have HIB : Hid (Calls Tryz.prog 110 #[.pointer (some ⟨b, 0, none⟩), .int .i8 lo, .int .i8 hi'] wr fun r w' => r = .returned (.bool (decide (lo ≤ bwn (tk l j) ∧ bwn (tk l j) ≤ hi'))) ∧ Up wr w') := isBetween_ w0 wr b bt off n c ml ms j D l HE.out (HW.out.trans hor) hj hp lo hi'
      clear hor hp hx HI0 HO1
      cases k with
      | zero => cases hPk
      | succ k =>
        rw [P] at hPk
        rcases bwn_row (tk l j) r lo hi' HRR.out with ⟨q1, q2, hbop, hbne, hkd⟩ | ⟨q1, hb0⟩
        · have hdec : decide (lo ≤ bwn (tk l j) ∧ bwn (tk l j) ≤ hi') = true := by simp [q1, q2]
          rw [hdec] at HIB
          rw [if_neg hbne] at hPk
          have hmw : IntKind.i64.wrap ((m : Int) + 1) = ((m + 1 : Nat) : Int) := by rw [IntKind.wrap_i64]; omega
          clear q1 q2 hdec
          by_cases hm0 : m = 0
          · have hmi : ¬ (0 : Int) < (m : Int) := by omega
            rw [if_neg (fun h => h.1 hm0)] at hPk
            simp only [if_pos hm0] at hPk
            obtain ⟨D', hDD⟩ : ∃ D', D' = D := ⟨_, rfl⟩
            rw [← hDD] at hPk HPr hD
            have hD' := hD
            clear hDD
            obtain ⟨R2, h2, h3⟩ : ∃ R2, P l k (opnd r) (j + 1) D' = some R2 ∧ bd (some R2) (fun y j2 => P l k (.rowL r (nod (bop (tk l j) r) 0 [] (tk l j).pos (x.app y)) (m + 1)) j2 D') = some R := by
              cases h9 : P l k (opnd r) (j + 1) D' with
              | none => rw [h9] at hPk; cases hPk
              | some R2 => rw [h9] at hPk; exact ⟨R2, rfl, hPk⟩
            clear hPk
            go_wp2_with fail
            refine Calls.mono HIB.out ?_
            rintro r9 w2 ⟨rfl, u2⟩
            have HOw2 : Hid (Only b W w2) := HOr.out.trans (Only.up u2)
            have HPw2 : Hid (QS w2 b bt off n c ml ms j D') := HPr.out.up u2
            have HXw2 : Hid (PF w2 (Sn W.heap.size w2) x [ptr gl]) := PF.mono (fun z hz => ⟨hz.1, Nat.lt_of_lt_of_le hz.2 u2.size⟩) x _ (PF.keep (fun _ _ _ e => u2.heap e) x _ HXr.out)
            clear u2 HIB HOr HPr HXr
            have HAB : Hid (Calls Tryz.prog 112 #[.pointer (some ⟨b, 0, none⟩), ptr gl, .func (.func f) #[.pointer (some ⟨b, 0, none⟩)] #[]] w2 (QA b bt off n c ml ms D' W.heap.size R2 (fun y => nod (bwn (tk l j)) 0 [] (tk l j).pos (x.app y)) w2)) := above_ w0 w2 b bt off n c ml ms j D' l HE.out (HW.out.trans HOw2.out) hj HPw2.out hD' (by rw [hkd]; decide) k f hen (opnd r) (HF.out k (by omega)) R2 h2 W.heap.size gl x (PF.mono (fun z hz => hz) x _ HXw2.out) HBL.out HOw2.out.2.1
            go_wp2_with fail
            refine Calls.mono HAB.out ?_
            intro r9 w4 h
            obtain ⟨o4, h⟩ := h
            have HO4 : Hid (Only b W w4) := HOw2.out.trans o4
            clear o4 HAB HOw2 HPw2 HXw2
            cases R2 with
            | bad er pp =>
              obtain rfl : r9 = pnc er pp := h
              obtain rfl : Rs.bad er pp = R := Option.some.inj h3
              unfold pnc at *
              clear h2 h3
              go_wp2_with fail
              rw [HPo.out]
              exact ⟨rfl, HO4.out, rfl⟩
            | ok y j2 =>
              obtain ⟨g2, rfl, hy, p4⟩ := h
              have hst := stays HLA.out h2 (by have := HE.out.next hj (by rw [hkd]; decide); have := HLN.out; omega)
              have hj2 : j + 1 ≤ j2 ∧ j2 < n := by
                have := HLN.out
                have h9 := hst.1
                have h8 := hst.2.1
                omega
              have h3 : P l k (.rowL r (nod (bop (tk l j) r) 0 [] (tk l j).pos (x.app y)) (m + 1)) j2 D' = some R := h3
              rw [hbop] at h3
              have HNX : Hid (∃ (gl m2 : Nat) (x : Fo) (j D k : Nat), ptr g2 = ptr gl ∧ Value.int .i64 ((m + 1 : Nat) : Int) = .int .i64 (m2 : Int) ∧ PF w4 (Sn W.heap.size w4) x [ptr gl] ∧ QS w4 b bt off n c ml ms j D ∧ j < n ∧ D ≤ 64 ∧ m2 ≤ j ∧ k ≤ N ∧ P l k (.rowL r x m2) j D = some R ∧ Only b W w4) := ⟨g2, m + 1, _, j2, D', k, rfl, rfl, hy, p4, hj2.2, hD', by omega, by omega, h3, HO4.out⟩
              clear h2 h3 hy p4 hst HO4
              go_wp2_with fail
              go_roundw
              case rel => first | exact HNX.out | (have h9 := HNX.out; rw [hm0] at h9; exact h9)
              case measure => simp [intOf]; omega
          · have hmi : (0 : Int) < (m : Int) := by omega
            simp only [if_neg hm0] at hPk
            have HOP : Hid (∀ W2, Up wr W2 → Calls Tryz.prog 111 #[.pointer (some ⟨b, 0, none⟩)] W2 (fun r w' => Only b W2 w' ∧ ((D ≠ 64 ∧ r = .returned (.tuple #[]) ∧ QS w' b bt off n c ml ms j (D + 1)) ∨ (D = 64 ∧ r = pnc 23 (tk l j).pos)))) := fun W2 hu => popens_ w0 W2 b bt off n c ml ms j D l HE.out (HW.out.trans (HOr.out.trans (Only.up hu))) hj (HPr.out.up hu) hD
            go_wp2_with fail
            refine Calls.mono HIB.out ?_
            rintro r9 w2 ⟨rfl, u2⟩
            have HOw2 : Hid (Only b W w2) := HOr.out.trans (Only.up u2)
            have HC := HOP.out w2 u2
            have HXw2 : Hid (PF w2 (Sn W.heap.size w2) x [ptr gl]) := PF.mono (fun z hz => ⟨hz.1, Nat.lt_of_lt_of_le hz.2 u2.size⟩) x _ (PF.keep (fun _ _ _ e => u2.heap e) x _ HXr.out)
            clear u2 HIB HOP HOr HPr HXr
            go_wp2_with fail
            refine Calls.mono HC ?_
            rintro r w3 ⟨ow3, ⟨h64, rfl, p3⟩ | ⟨h64, rfl⟩⟩
            · have HOw3 : Hid (Only b W w3) := HOw2.out.trans ow3
              have hbl9 := HBL.out
              have HXw3 : Hid (PF w3 (Sn W.heap.size w3) x [ptr gl]) := PF.mono (fun z hz => ⟨hz.1, Nat.lt_of_lt_of_le hz.2 ow3.2.1⟩) x _ (PF.keep (fun z o hz e => ow3.heap e (by have := hz.1; omega)) x _ HXw2.out)
              rw [if_neg (fun h => h64 h.2)] at hPk
              obtain ⟨D', hDD⟩ : ∃ D', D' = D + 1 := ⟨_, rfl⟩
              rw [← hDD] at hPk p3
              have hD' : D' ≤ 64 := by omega
              have HPw3 : Hid (QS w3 b bt off n c ml ms j D') := p3
              clear hDD hD h64 ow3 p3 HC HXw2 HOw2
              obtain ⟨R2, h2, h3⟩ : ∃ R2, P l k (opnd r) (j + 1) D' = some R2 ∧ bd (some R2) (fun y j2 => P l k (.rowL r (nod (bop (tk l j) r) 0 [] (tk l j).pos (x.app y)) (m + 1)) j2 D') = some R := by
                cases h9 : P l k (opnd r) (j + 1) D' with
                | none => rw [h9] at hPk; cases hPk
                | some R2 => rw [h9] at hPk; exact ⟨R2, rfl, hPk⟩
              clear hPk
              have HAB : Hid (Calls Tryz.prog 112 #[.pointer (some ⟨b, 0, none⟩), ptr gl, .func (.func f) #[.pointer (some ⟨b, 0, none⟩)] #[]] w3 (QA b bt off n c ml ms D' W.heap.size R2 (fun y => nod (bwn (tk l j)) 0 [] (tk l j).pos (x.app y)) w3)) := above_ w0 w3 b bt off n c ml ms j D' l HE.out (HW.out.trans HOw3.out) hj HPw3.out hD' (by rw [hkd]; decide) k f hen (opnd r) (HF.out k (by omega)) R2 h2 W.heap.size gl x (PF.mono (fun z hz => hz) x _ HXw3.out) HBL.out HOw3.out.2.1
              go_wp2_with fail
              refine Calls.mono HAB.out ?_
              intro r9 w4 h
              obtain ⟨o4, h⟩ := h
              have HO4 : Hid (Only b W w4) := HOw3.out.trans o4
              clear o4 HAB HOw3 HPw3 HXw3
              cases R2 with
              | bad er pp =>
                obtain rfl : r9 = pnc er pp := h
                obtain rfl : Rs.bad er pp = R := Option.some.inj h3
                unfold pnc at *
                clear h2 h3
                go_wp2_with fail
                rw [HPo.out]
                exact ⟨rfl, HO4.out, rfl⟩
              | ok y j2 =>
                obtain ⟨g2, rfl, hy, p4⟩ := h
                have hst := stays HLA.out h2 (by have := HE.out.next hj (by rw [hkd]; decide); have := HLN.out; omega)
                have hj2 : j + 1 ≤ j2 ∧ j2 < n := by
                  have := HLN.out
                  have h9 := hst.1
                  have h8 := hst.2.1
                  omega
                have h3 : P l k (.rowL r (nod (bop (tk l j) r) 0 [] (tk l j).pos (x.app y)) (m + 1)) j2 D' = some R := h3
                rw [hbop] at h3
                have HNX : Hid (∃ (gl m2 : Nat) (x : Fo) (j D k : Nat), ptr g2 = ptr gl ∧ Value.int .i64 ((m + 1 : Nat) : Int) = .int .i64 (m2 : Int) ∧ PF w4 (Sn W.heap.size w4) x [ptr gl] ∧ QS w4 b bt off n c ml ms j D ∧ j < n ∧ D ≤ 64 ∧ m2 ≤ j ∧ k ≤ N ∧ P l k (.rowL r x m2) j D = some R ∧ Only b W w4) := ⟨g2, m + 1, _, j2, D', k, rfl, rfl, hy, p4, hj2.2, hD', by omega, by omega, h3, HO4.out⟩
                clear h2 h3 hy p4 hst HO4
                go_wp2_with fail
                go_roundw
                case rel => first | exact HNX.out | (have h9 := HNX.out; rw [hm0] at h9; exact h9)
                case measure => simp [intOf]; omega
            · have HOw3 : Hid (Only b W w3) := HOw2.out.trans ow3
              rw [if_pos ⟨hm0, h64⟩] at hPk
              obtain rfl : Rs.bad 23 (tk l j).pos = R := Option.some.inj hPk
              clear hPk ow3 HC
              unfold pnc at *
              go_wp2_with fail
              rw [HPo.out]
              exact ⟨rfl, HOw3.out, rfl⟩
        · have hdec : decide (lo ≤ bwn (tk l j) ∧ bwn (tk l j) ≤ hi') = false := by simpa using fun h => Int.not_le.1 (fun h9 => q1 ⟨h, h9⟩)
          rw [hdec] at HIB
          rw [if_pos hb0] at hPk
          obtain rfl : Rs.ok x j = R := Option.some.inj hPk
          clear hPk q1 hdec hb0
          go_wp2_with fail
          refine Calls.mono HIB.out ?_
          rintro r9 w2 ⟨rfl, u2⟩
          have HO2 : Hid (Only b W w2) := HOr.out.trans (Only.up u2)
          have HP2 : Hid (QS w2 b bt off n c ml ms j D) := HPr.out.up u2
          have HX2 : Hid (PF w2 (Sn W.heap.size w2) x [ptr gl]) := PF.mono (fun z hz => ⟨hz.1, Nat.lt_of_lt_of_le hz.2 u2.size⟩) x _ (PF.keep (fun _ _ _ e => u2.heap e) x _ HXr.out)
          clear u2 HIB HOr HPr HXr
          obtain ⟨a0, a1, a2, a3, a4, fz, hbl5⟩ := HP2.out.cells
          have hbl9 := HBL.out
          go_wp2_with fail
          rw [HPo.out]
          refine ⟨HO2.out.set 2 _, gl, rfl, ?_, HP2.out.op d⟩
          refine PF.mono (fun z hz => ⟨hz.1, by simpa [World.setCell] using hz.2⟩) x _ (PF.keep (W := w2) (fun z o hz e => ?_) x _ HX2.out)
          rw [Below.heap_setCell _ _ _ _ (show z ≠ b by have := hz.1; omega)]
          exact e
end TP
end Go.Proofs.YtkldllnnocdhbaaGreatDoor
