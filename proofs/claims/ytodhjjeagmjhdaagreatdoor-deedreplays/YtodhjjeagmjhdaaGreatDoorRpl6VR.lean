/-
  The document's Plain.
-/
import Derived.Test.YtodhjjeagmjhdaaGreatDoorEe6VR
namespace Go.Proofs.YtodhjjeagmjhdaaGreatDoor
open Go.RowKit
attribute [local go_sem ↓] Go.wp_at_zero Go.wp_at_succ
namespace DE
open Go.Proofs.YtodhjjeagmjhdaaGreatDoor.ST
def restD (e : Ev) : Ev := if e.kind = 1 then moveR e else if e.kind = 2 then cardR e else if e.kind = 3 then playerR e else if e.kind = 4 then shuffleR e else if e.kind = 5 then outR e else if e.kind = 6 then turnR e else if e.kind = 7 then endR e else e
def plainD (e : Ev) : Bool := eqE { restD e with kind := 0 } dE
theorem il_nil (W : World) : IL W (.slice none 0 0) [] := ⟨rfl,none,0,rfl,Nat.le_refl _,fun h=>absurd rfl h⟩
theorem plain_ok {e : Ev} (h : kindB e.kind = true) : plainD e = restB e := by
 unfold plainD restD restB
 rcases kinds h with h | h | h | h | h | h | h <;> (simp [h,eqE,dE,nothingB,moveR,cardR,playerR,shuffleR,outR,turnR,endR,Bool.and_assoc])
set_option maxRecDepth 100000 in
set_option maxHeartbeats 4000000 in
theorem rplain_ (e : Ev) (oa : Option Addr) (oc : Nat) (w : World) (ho : IL w (.slice oa e.ord.length oc) e.ord) (hn : e.ord.length <= 4294967296) : Calls Tryz.prog 99 #[evv e (.slice oa e.ord.length oc)] w fun x w'=>x = .returned (.bool (plainD e)) /\ Up w w' := by
 have HC : Hid (∀ W,Up w W -> Calls Tryz.prog 177 #[evv e (.slice oa e.ord.length oc)] W fun x w'=>∃ vn,x = .returned (evv e vn) /\ IRow W.heap.size w' vn e.ord /\ Up W w') := fun W u=>copyEvent_ e _ W (ho.up u) hn
 obtain ⟨b,hb⟩ : ∃ b,b = plainD e := ⟨_,rfl⟩
 rw [<- hb]
 have HB : Hid _ := hb
 clear hb
 unfold plainD restD at HB
 obtain ⟨kind,field,card,player,other,fr,frAt,to_,toAt,was,now,ord⟩ := e
 unfold evv evc at HC ⊢
 dsimp only at *
 have HU0 : Up w (w.alloc (.cells #[.int .i8 kind,.int .i8 field,.int .i64 card,.int .i64 player,.int .i64 other,.int .i64 fr,.int .i64 frAt,.int .i64 to_,.int .i64 toAt,.int .i32 was,.int .i32 now,.slice oa ord.length oc] 30)) := (Up.refl _).alloc _
 have hE : (w.alloc (.cells #[.int .i8 kind,.int .i8 field,.int .i64 card,.int .i64 player,.int .i64 other,.int .i64 fr,.int .i64 frAt,.int .i64 to_,.int .i64 toAt,.int .i32 was,.int .i32 now,.slice oa ord.length oc] 30)).cell? ⟨w.heap.size,0,none⟩ = some (.int .i8 kind) := by simp
 by_cases h1 : kind = 1
 ·subst h1
  go_enter Tryz.func99,Tryz.ntmps99
  go_wp2_with fail
  refine Calls.mono (HC.out _ HU0) ?_
  rintro r W1 ⟨vn,rfl,hvn,u1⟩
  obtain ⟨na,nk,rfl⟩ := row_val hvn
  have HU : Hid (Up w W1) := HU0.trans u1
  have hE := u1.cell hE
  have hlt : w.heap.size < W1.heap.size := World.block_lt_of_cell? _ _ hE
  have HQ : Hid (∀ W,Up W1 W -> Calls Tryz.prog 15 #[evv { moveR (⟨1,field,card,player,other,fr,frAt,to_,toAt,was,now,ord⟩ : Ev) with kind := 0 } (.slice na ord.length nk),evv dE (.slice none 0 0)] W fun x w'=>x = .returned (.bool (eqE { moveR (⟨1,field,card,player,other,fr,frAt,to_,toAt,was,now,ord⟩ : Ev) with kind := 0 } dE)) /\ Up W w') := fun W u=>eqEvent_ _ _ _ _ W ((IRow.il hvn).up u) (il_nil _) (by exact hn)
  have HQ2 : eqE { moveR (⟨1,field,card,player,other,fr,frAt,to_,toAt,was,now,ord⟩ : Ev) with kind := 0 } dE = b := by rw [HB.out]; simp
  rw [HQ2] at HQ
  unfold evv evc dE moveR at HQ
  dsimp only [List.length_nil] at HQ
  clear hvn u1 HC HB HQ2
  go_wp2_with fail
  refine Calls.mono (HQ.out _ ((Up.refl _).alloc _)) ?_
  rintro r W2 ⟨rfl,u2⟩
  have HZ : Hid (Up w W2) := HU.out.trans (((Up.refl _).alloc _).trans u2)
  clear u2
  go_wp2
  go_ret
  exact ⟨rfl,HZ.out⟩
 ·have f1 : (kind == 1) = false := beq_eq_false_iff_ne.2 h1
  by_cases h2 : kind = 2
  ·subst h2
   go_enter Tryz.func99,Tryz.ntmps99
   go_wp2_with fail
   refine Calls.mono (HC.out _ HU0) ?_
   rintro r W1 ⟨vn,rfl,hvn,u1⟩
   obtain ⟨na,nk,rfl⟩ := row_val hvn
   have HU : Hid (Up w W1) := HU0.trans u1
   have hE := u1.cell hE
   have hlt : w.heap.size < W1.heap.size := World.block_lt_of_cell? _ _ hE
   have HQ : Hid (∀ W,Up W1 W -> Calls Tryz.prog 15 #[evv { cardR (⟨2,field,card,player,other,fr,frAt,to_,toAt,was,now,ord⟩ : Ev) with kind := 0 } (.slice na ord.length nk),evv dE (.slice none 0 0)] W fun x w'=>x = .returned (.bool (eqE { cardR (⟨2,field,card,player,other,fr,frAt,to_,toAt,was,now,ord⟩ : Ev) with kind := 0 } dE)) /\ Up W w') := fun W u=>eqEvent_ _ _ _ _ W ((IRow.il hvn).up u) (il_nil _) (by exact hn)
   have HQ2 : eqE { cardR (⟨2,field,card,player,other,fr,frAt,to_,toAt,was,now,ord⟩ : Ev) with kind := 0 } dE = b := by rw [HB.out]; simp
   rw [HQ2] at HQ
   unfold evv evc dE cardR at HQ
   dsimp only [List.length_nil] at HQ
   clear hvn u1 HC HB HQ2
   go_wp2_with fail
   refine Calls.mono (HQ.out _ ((Up.refl _).alloc _)) ?_
   rintro r W2 ⟨rfl,u2⟩
   have HZ : Hid (Up w W2) := HU.out.trans (((Up.refl _).alloc _).trans u2)
   clear u2
   go_wp2
   go_ret
   exact ⟨rfl,HZ.out⟩
  ·have f2 : (kind == 2) = false := beq_eq_false_iff_ne.2 h2
   by_cases h3 : kind = 3
   ·subst h3
    go_enter Tryz.func99,Tryz.ntmps99
    go_wp2_with fail
    refine Calls.mono (HC.out _ HU0) ?_
    rintro r W1 ⟨vn,rfl,hvn,u1⟩
    obtain ⟨na,nk,rfl⟩ := row_val hvn
    have HU : Hid (Up w W1) := HU0.trans u1
    have hE := u1.cell hE
    have hlt : w.heap.size < W1.heap.size := World.block_lt_of_cell? _ _ hE
    have HQ : Hid (∀ W,Up W1 W -> Calls Tryz.prog 15 #[evv { playerR (⟨3,field,card,player,other,fr,frAt,to_,toAt,was,now,ord⟩ : Ev) with kind := 0 } (.slice na ord.length nk),evv dE (.slice none 0 0)] W fun x w'=>x = .returned (.bool (eqE { playerR (⟨3,field,card,player,other,fr,frAt,to_,toAt,was,now,ord⟩ : Ev) with kind := 0 } dE)) /\ Up W w') := fun W u=>eqEvent_ _ _ _ _ W ((IRow.il hvn).up u) (il_nil _) (by exact hn)
    have HQ2 : eqE { playerR (⟨3,field,card,player,other,fr,frAt,to_,toAt,was,now,ord⟩ : Ev) with kind := 0 } dE = b := by rw [HB.out]; simp
    rw [HQ2] at HQ
    unfold evv evc dE playerR at HQ
    dsimp only [List.length_nil] at HQ
    clear hvn u1 HC HB HQ2
    go_wp2_with fail
    refine Calls.mono (HQ.out _ ((Up.refl _).alloc _)) ?_
    rintro r W2 ⟨rfl,u2⟩
    have HZ : Hid (Up w W2) := HU.out.trans (((Up.refl _).alloc _).trans u2)
    clear u2
    go_wp2
    go_ret
    exact ⟨rfl,HZ.out⟩
   ·have f3 : (kind == 3) = false := beq_eq_false_iff_ne.2 h3
    by_cases h4 : kind = 4
    ·subst h4
     go_enter Tryz.func99,Tryz.ntmps99
     go_wp2_with fail
     refine Calls.mono (HC.out _ HU0) ?_
     rintro r W1 ⟨vn,rfl,hvn,u1⟩
     obtain ⟨na,nk,rfl⟩ := row_val hvn
     have HU : Hid (Up w W1) := HU0.trans u1
     have hE := u1.cell hE
     have hlt : w.heap.size < W1.heap.size := World.block_lt_of_cell? _ _ hE
     have HQ : Hid (∀ W,Up W1 W -> Calls Tryz.prog 15 #[evv { shuffleR (⟨4,field,card,player,other,fr,frAt,to_,toAt,was,now,ord⟩ : Ev) with kind := 0 } (.slice none 0 0),evv dE (.slice none 0 0)] W fun x w'=>x = .returned (.bool (eqE { shuffleR (⟨4,field,card,player,other,fr,frAt,to_,toAt,was,now,ord⟩ : Ev) with kind := 0 } dE)) /\ Up W w') := fun W u=>eqEvent_ _ _ _ _ W (il_nil _) (il_nil _) (by simp [shuffleR])
     have HQ2 : eqE { shuffleR (⟨4,field,card,player,other,fr,frAt,to_,toAt,was,now,ord⟩ : Ev) with kind := 0 } dE = b := by rw [HB.out]; simp
     rw [HQ2] at HQ
     unfold evv evc dE shuffleR at HQ
     dsimp only [List.length_nil] at HQ
     clear hvn u1 HC HB HQ2
     go_wp2_with fail
     refine Calls.mono (HQ.out _ ((Up.refl _).alloc _)) ?_
     rintro r W2 ⟨rfl,u2⟩
     have HZ : Hid (Up w W2) := HU.out.trans (((Up.refl _).alloc _).trans u2)
     clear u2
     go_wp2
     go_ret
     exact ⟨rfl,HZ.out⟩
    ·have f4 : (kind == 4) = false := beq_eq_false_iff_ne.2 h4
     by_cases h5 : kind = 5
     ·subst h5
      go_enter Tryz.func99,Tryz.ntmps99
      go_wp2_with fail
      refine Calls.mono (HC.out _ HU0) ?_
      rintro r W1 ⟨vn,rfl,hvn,u1⟩
      obtain ⟨na,nk,rfl⟩ := row_val hvn
      have HU : Hid (Up w W1) := HU0.trans u1
      have hE := u1.cell hE
      have hlt : w.heap.size < W1.heap.size := World.block_lt_of_cell? _ _ hE
      have HQ : Hid (∀ W,Up W1 W -> Calls Tryz.prog 15 #[evv { outR (⟨5,field,card,player,other,fr,frAt,to_,toAt,was,now,ord⟩ : Ev) with kind := 0 } (.slice na ord.length nk),evv dE (.slice none 0 0)] W fun x w'=>x = .returned (.bool (eqE { outR (⟨5,field,card,player,other,fr,frAt,to_,toAt,was,now,ord⟩ : Ev) with kind := 0 } dE)) /\ Up W w') := fun W u=>eqEvent_ _ _ _ _ W ((IRow.il hvn).up u) (il_nil _) (by exact hn)
      have HQ2 : eqE { outR (⟨5,field,card,player,other,fr,frAt,to_,toAt,was,now,ord⟩ : Ev) with kind := 0 } dE = b := by rw [HB.out]; simp
      rw [HQ2] at HQ
      unfold evv evc dE outR at HQ
      dsimp only [List.length_nil] at HQ
      clear hvn u1 HC HB HQ2
      go_wp2_with fail
      refine Calls.mono (HQ.out _ ((Up.refl _).alloc _)) ?_
      rintro r W2 ⟨rfl,u2⟩
      have HZ : Hid (Up w W2) := HU.out.trans (((Up.refl _).alloc _).trans u2)
      clear u2
      go_wp2
      go_ret
      exact ⟨rfl,HZ.out⟩
     ·have f5 : (kind == 5) = false := beq_eq_false_iff_ne.2 h5
      by_cases h6 : kind = 6
      ·subst h6
       go_enter Tryz.func99,Tryz.ntmps99
       go_wp2_with fail
       refine Calls.mono (HC.out _ HU0) ?_
       rintro r W1 ⟨vn,rfl,hvn,u1⟩
       obtain ⟨na,nk,rfl⟩ := row_val hvn
       have HU : Hid (Up w W1) := HU0.trans u1
       have hE := u1.cell hE
       have hlt : w.heap.size < W1.heap.size := World.block_lt_of_cell? _ _ hE
       have HQ : Hid (∀ W,Up W1 W -> Calls Tryz.prog 15 #[evv { turnR (⟨6,field,card,player,other,fr,frAt,to_,toAt,was,now,ord⟩ : Ev) with kind := 0 } (.slice na ord.length nk),evv dE (.slice none 0 0)] W fun x w'=>x = .returned (.bool (eqE { turnR (⟨6,field,card,player,other,fr,frAt,to_,toAt,was,now,ord⟩ : Ev) with kind := 0 } dE)) /\ Up W w') := fun W u=>eqEvent_ _ _ _ _ W ((IRow.il hvn).up u) (il_nil _) (by exact hn)
       have HQ2 : eqE { turnR (⟨6,field,card,player,other,fr,frAt,to_,toAt,was,now,ord⟩ : Ev) with kind := 0 } dE = b := by rw [HB.out]; simp
       rw [HQ2] at HQ
       unfold evv evc dE turnR at HQ
       dsimp only [List.length_nil] at HQ
       clear hvn u1 HC HB HQ2
       go_wp2_with fail
       refine Calls.mono (HQ.out _ ((Up.refl _).alloc _)) ?_
       rintro r W2 ⟨rfl,u2⟩
       have HZ : Hid (Up w W2) := HU.out.trans (((Up.refl _).alloc _).trans u2)
       clear u2
       go_wp2
       go_ret
       exact ⟨rfl,HZ.out⟩
      ·have f6 : (kind == 6) = false := beq_eq_false_iff_ne.2 h6
       by_cases h7 : kind = 7
       ·subst h7
        go_enter Tryz.func99,Tryz.ntmps99
        go_wp2_with fail
        refine Calls.mono (HC.out _ HU0) ?_
        rintro r W1 ⟨vn,rfl,hvn,u1⟩
        obtain ⟨na,nk,rfl⟩ := row_val hvn
        have HU : Hid (Up w W1) := HU0.trans u1
        have hE := u1.cell hE
        have hlt : w.heap.size < W1.heap.size := World.block_lt_of_cell? _ _ hE
        have HQ : Hid (∀ W,Up W1 W -> Calls Tryz.prog 15 #[evv { endR (⟨7,field,card,player,other,fr,frAt,to_,toAt,was,now,ord⟩ : Ev) with kind := 0 } (.slice na ord.length nk),evv dE (.slice none 0 0)] W fun x w'=>x = .returned (.bool (eqE { endR (⟨7,field,card,player,other,fr,frAt,to_,toAt,was,now,ord⟩ : Ev) with kind := 0 } dE)) /\ Up W w') := fun W u=>eqEvent_ _ _ _ _ W ((IRow.il hvn).up u) (il_nil _) (by exact hn)
        have HQ2 : eqE { endR (⟨7,field,card,player,other,fr,frAt,to_,toAt,was,now,ord⟩ : Ev) with kind := 0 } dE = b := by rw [HB.out]; simp
        rw [HQ2] at HQ
        unfold evv evc dE endR at HQ
        dsimp only [List.length_nil] at HQ
        clear hvn u1 HC HB HQ2
        go_wp2_with fail
        refine Calls.mono (HQ.out _ ((Up.refl _).alloc _)) ?_
        rintro r W2 ⟨rfl,u2⟩
        have HZ : Hid (Up w W2) := HU.out.trans (((Up.refl _).alloc _).trans u2)
        clear u2
        go_wp2
        go_ret
        exact ⟨rfl,HZ.out⟩
       ·have f7 : (kind == 7) = false := beq_eq_false_iff_ne.2 h7
        go_enter Tryz.func99,Tryz.ntmps99
        go_wp2_with fail
        refine Calls.mono (HC.out _ HU0) ?_
        rintro r W1 ⟨vn,rfl,hvn,u1⟩
        obtain ⟨na,nk,rfl⟩ := row_val hvn
        have HU : Hid (Up w W1) := HU0.trans u1
        have hE := u1.cell hE
        have hlt : w.heap.size < W1.heap.size := World.block_lt_of_cell? _ _ hE
        have HQ : Hid (∀ W,Up W1 W -> Calls Tryz.prog 15 #[evv { (⟨kind,field,card,player,other,fr,frAt,to_,toAt,was,now,ord⟩ : Ev) with kind := 0 } (.slice na ord.length nk),evv dE (.slice none 0 0)] W fun x w'=>x = .returned (.bool (eqE { (⟨kind,field,card,player,other,fr,frAt,to_,toAt,was,now,ord⟩ : Ev) with kind := 0 } dE)) /\ Up W w') := fun W u=>eqEvent_ _ _ _ _ W ((IRow.il hvn).up u) (il_nil _) (by exact hn)
        have HQ2 : eqE { (⟨kind,field,card,player,other,fr,frAt,to_,toAt,was,now,ord⟩ : Ev) with kind := 0 } dE = b := by rw [HB.out]; rw [if_neg h1,if_neg h2,if_neg h3,if_neg h4,if_neg h5,if_neg h6,if_neg h7]
        rw [HQ2] at HQ
        unfold evv evc dE  at HQ
        dsimp only [List.length_nil] at HQ
        clear hvn u1 HC HB HQ2
        go_wp2_with fail
        refine Calls.mono (HQ.out _ ((Up.refl _).alloc _)) ?_
        rintro r W2 ⟨rfl,u2⟩
        have HZ : Hid (Up w W2) := HU.out.trans (((Up.refl _).alloc _).trans u2)
        clear u2
        go_wp2
        go_ret
        exact ⟨rfl,HZ.out⟩
end DE
end Go.Proofs.YtodhjjeagmjhdaaGreatDoor
