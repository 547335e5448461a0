import Derived.Test.YtcplmkhclckagaaGreatDoorPR15
set_option maxRecDepth 100000
set_option maxHeartbeats 16000000
open Go.Proofs.Tryz
namespace Go.Proofs.YtcplmkhclckagaaGreatDoor
open Go.RowKit Go.Shelf Go.Lib
def RuBox(w:World)(b:Nat)(r:Ru)(v:Value):Prop :=
 w.cell? ⟨b,0,none⟩=some (.string (ba r.out))/\w.cell? ⟨b,1,none⟩=some (.string (ba r.kind))/\w.cell? ⟨b,2,none⟩=some (.string (ba r.word))/\w.cell? ⟨b,3,none⟩=some v
variable {w w':World}{b:Nat}{r:Ru}
theorem RuBox.below{v:Value}(h:RuBox w b r v)(hb:Below w.heap.size w w'):RuBox w' b r v :=
 ⟨Zaa h.1 hb,Zaa h.2.1 hb,Zaa h.2.2.1 hb,Zaa h.2.2.2 hb⟩
theorem RuBox.new(w:World)(r:Ru)(v:Value):RuBox (w.alloc (.cells #[.string (ba r.out),.string (ba r.kind),.string (ba r.word),v] 73)) w.heap.size r v:=⟨by simp,by simp,by simp,by simp⟩
theorem Zju(r:Ru)(hS:r.Small)(v:Value)(hrow:XRow w v r.ins):
  Calls prog 92 #[ruV r v] w fun e w'=>e=.returned (.int .i64 (r.err:Nat))/\Below w.heap.size w w':=by
 have hB0:Below w.heap.size w (w.alloc (.cells #[.string (ba r.out),.string (ba r.kind),.string (ba r.word),v] 73)):=(Below.refl _ w).alloc (Nat.le_refl _) _;have hR0:=RuBox.new w r v;have s1:=hS.out;have s2:=hS.word;have s3:=hS.many;have HP:=hid1 fun W=>Zdw r.out (by omega) W
 have HK:=hid1 fun W=>Zet r.kind r.word r.ins.length (by omega) W
 have HI:=hid1 fun W k (hk:k<r.ins.length)=>Zdw r.ins[k] (Nat.le_trans (hS.ins _ (List.getElem_mem hk)) (by omega)) W
 have HX:=hid1 fun W (hW:Below w.heap.size w W) k (hk:k<r.ins.length)=>Zcl v r.ins r.ins[k] (hrow.below hW).irow (by omega)
 have HEq:Hid (r.err=if pathB r.out=false then 4 else if Af.actE r.kind r.word r.ins.length≠0 then Af.actE r.kind r.word r.ins.length else if r.ins.all pathB=false then 4 else if r.twice=true then 7 else 0):=hid1 rfl
 obtain⟨p,cap,rfl,hcap,hnn,hin⟩:=hrow;have HIN:=hid1 hin;clear hS hin hnn;rw[<- Zso]at HP;cases hp:pathB r.out with
 | false =>
  have HF:Hid (r.err=4):=hid1 (by rw[HEq.out,hp];rfl)
  rw[HF.out];rw[hp]at HP;go_enter func92,ntmps92
  go_wp2_with fail;refine(HP.out _).mono ?_;rintro e w1 ⟨rfl,hb⟩;have g1:=Zac hB0 hb;go_wp2;go_ret;exact⟨rfl,g1⟩
 | true =>
  rw[hp]at HP;cases ha:Af.actE r.kind r.word r.ins.length with
  | succ m =>
   have HF:Hid (r.err=m+1):=hid1 (by rw[HEq.out,hp,ha];rfl)
   rw[HF.out];rw[ha]at HK;have z:(0:Int)<((m+1:Nat):Int):=by omega
   generalize ((m+1:Nat):Int)=mi at *;clear HI HX HIN;generalize r.ins.length=n at *;go_enter func92,ntmps92
   go_wp2_with fail;refine(HP.out _).mono ?_;rintro e w1 ⟨rfl,hb⟩;have g1:=Zac hB0 hb;obtain⟨_,k1,k2,k3⟩:=hR0.below hb;clear hb hR0;go_wp2_with fail;refine(HK.out _).mono ?_;rintro e w2 ⟨rfl,hb⟩;have g2:=Zac g1 hb;go_wp2;go_ret;exact⟨rfl,g2⟩
  | zero =>
   have HF:=hid1 (Ru.err_tail hp ha);rw[ha]at HK;clear ha hp HEq;generalize r.err=re at *;go_enter func92,ntmps92
   go_wp2_with fail;refine(HP.out _).mono ?_;rintro e w1 ⟨rfl,hb⟩;have g1:=Zac hB0 hb;have HR1:=hid1 (hR0.below hb);obtain⟨_,k1,k2,k3⟩:=HR1.out;clear hb hR0;go_wp2_with fail;refine(HK.out _).mono ?_;rintro e w2 ⟨rfl,hb⟩;have g2:=Zac g1 hb;have HR2:=hid1 (HR1.out.below hb);clear hb k1 k2 k3 HK HP HR1;go_wp2
   go_loopw [5] (fun i wr=>∃ k:Nat,k<=r.ins.length/\i=.int .i64 k/\(∀ j (hj:j<r.ins.length),j<k->pathB r.ins[j]=true)/\Below w.heap.size w wr/\Hid (RuBox wr w.heap.size r (.slice p r.ins.length cap))) (fun i _=>r.ins.length - (intOf i).toNat)
   case atStart=>exact⟨0,Nat.zero_le _,rfl,fun j hj h=>by omega,g2,HR2⟩
   case round =>
    obtain⟨k,hk,rfl,hz,hB,HR⟩:=hrel;have HZ:=hid1 hz;clear hz;have c0:(0:Int)<=(k:Int):=by omega
    obtain⟨_,_,_,k3⟩:=HR.out;by_cases hlt:k<r.ins.length
    ·have c1:(k:Int)<(r.ins.length:Int):=by omega
     obtain⟨g',o,rfl,hg,hcur⟩:=HIN.out (by intro e;rw[e]at hlt;simp at hlt)
     have hcell:=(hB.cell (p:=⟨g',o+k,none⟩) hg).trans (hcur k hlt);have HC:=HI.out wr k hlt;rw[<- Zso]at HC;cases hc:pathB r.ins[k] with
     | true =>
      rw[hc]at HC;have HN:Hid (∀ j (hj:j<r.ins.length),j<k+1->pathB r.ins[j]=true):=hid1 fun j hj hjk=>by
       rcases Nat.lt_or_ge j k with h | h
       ·exact HZ.out j hj h
       ·obtain rfl:j=k:=by omega
        exact hc
      clear hc HZ HI HX HIN hcur HF;generalize r.ins[k]=y at *;go_wp2_with fail;refine Calls.mono HC ?_;rintro e w3 ⟨rfl,hb⟩;have HR3:=hid1 (HR.out.below hb);clear HC k3;go_wp2;exact⟨⟨k+1,by omega,by go_num,HN.out,Zac hB hb,HR3⟩,by simp[intOf];omega⟩
     | false =>
      rw[hc]at HC;have HN:Hid (re=4):=hid1 (by
       rw[HF.out,if_pos];rw[List.all_eq_false];exact⟨r.ins[k],List.getElem_mem hlt,by rw[hc];simp⟩)
      clear hc HZ HI HX HIN hcur HF;generalize r.ins[k]=y at *;go_wp2_with fail;refine Calls.mono HC ?_;rintro e w3 ⟨rfl,hb⟩;have g3:=Zac hB hb;clear HC k3;go_wp2;go_ret;exact⟨ret_eq (by rw[HN.out];rfl),g3⟩
    ·have c1:(r.ins.length:Int)<=(k:Int):=by omega
     have HF2:Hid (re=if r.twice=true then 7 else 0):=hid1 (by
      rw[HF.out,if_neg];rw[Bool.not_eq_false,List.all_eq_true];intro x hx
      obtain⟨j,hj,rfl⟩:=List.getElem_of_mem hx;exact HZ.out j hj (by omega))
     clear HF HZ HI g2 g1 HR2;generalize wr=w4 at *;go_wp2;go_loopw [7] (fun i wr=>∃ k:Nat,k<=r.ins.length/\i=.int .i64 k/\(∀ j,j<k->r.twiceAt j=false)/\Below w.heap.size w wr/\Hid (RuBox wr w.heap.size r (.slice p r.ins.length cap))) (fun i _=>r.ins.length - (intOf i).toNat)
     case atStart=>exact⟨0,Nat.zero_le _,rfl,fun j h=>by omega,hB,HR⟩
     case round =>
      clear HR k3 c0 c1 hlt hB;obtain⟨k,hk,rfl,hz,hB,HR⟩:=hrel;have HZ:=hid1 hz;clear hz;have c0:(0:Int)<=(k:Int):=by omega
      obtain⟨k0,_,_,k3⟩:=HR.out;by_cases hlt:k<r.ins.length
      ·have c1:(k:Int)<(r.ins.length:Int):=by omega
       obtain⟨g',o,rfl,hg,hcur⟩:=HIN.out (by intro e;rw[e]at hlt;simp at hlt)
       have hcell:=(hB.cell (p:=⟨g',o+k,none⟩) hg).trans (hcur k hlt);have HT:=hid1 (Ru.twiceAt_eq hlt);have HXk:=hid1 fun W (hW:Below w.heap.size w W)=>HX.out W hW k hlt
       have HL:=hid1 fun(i:Int) h=>Ycm hlt (r:=i) h
       have HY:Hid (r.twiceAt k=true->re=7):=hid1 fun h=>by rw[HF2.out,if_pos (Ru.twice_iff.2 ⟨k,hlt,h⟩)]
       have HN:Hid (r.twiceAt k=false->∀ j,j<k+1->r.twiceAt j=false):=hid1 fun hc j hjk=>by
        rcases Nat.lt_or_ge j k with h | h
        ·exact HZ.out j h
        ·obtain rfl:j=k:=by omega
         exact hc
       clear hcur HIN HX HZ HF2;by_cases he:r.ins[k]=r.out
       ·have hb1:(r.ins[k]==r.out)=true:=by simpa using he
        have HQ:Hid (re=7):=hid1 (HY.out (by rw[HT.out,he];simp))
        clear HT HY HN HXk HL he;generalize r.ins[k]=y at *;generalize r.out=z at *;go_wp2;go_region
        all_goals
         go_wp2;go_ret;exact⟨ret_eq (by rw[HQ.out];rfl),Zad hB _⟩
       ·have hb1:(r.ins[k]==r.out)=false:=by simpa using he
        have HQ:Hid (r.twiceAt k=decide (r.ins[k]∈r.ins.take k)):=hid1 (by rw[HT.out];simp[he])
        clear HT he;generalize decide (r.ins[k]∈r.ins.take k)=d at *;generalize r.ins[k]=y at *;generalize r.out=z at *;go_wp2;go_region_held3 (fun w'=>w'.cell? ⟨w.heap.size,0,none⟩=some (.string (ba z))/\w'.cell? ⟨w.heap.size,3,none⟩=some (.slice (some ⟨g',o,none⟩) r.ins.length cap)/\w'.cell? ⟨g',o+k,none⟩=some (.string (ba y))) (first | go_keep | fail)
         (first | (go_at_call 91;refine(HXk.out _ (by exact hB.drew)).mono ?_;rintro e w5 ⟨i,rfl,rfl,hix⟩;have hdd:=HL.out i hix) | fail)
        all_goals
         cases d with
         | true =>
          clear hdd;go_wp2;go_ret;exact⟨ret_eq (by rw[HY.out HQ.out];rfl),Zad hB _⟩
         | false =>
          clear hdd;go_wp2;exact⟨⟨k+1,by omega,by go_num,HN.out HQ.out,Zad hB _,HR⟩,by simp[intOf];omega⟩
      ·have c1:(r.ins.length:Int)<=(k:Int):=by omega
       have HQ:Hid (re=0):=hid1 (by
        rw[HF2.out,if_neg];intro h
        obtain⟨j,hj,hp⟩:=Ru.twice_iff.1 h;rw[HZ.out j (by omega)]at hp
        cases hp)
       clear HIN HX HZ HF2;go_wp2;go_ret;exact⟨ret_eq (by rw[HQ.out];rfl),hB⟩
theorem Zil(w:World)(c:Int):Calls prog 57 #[.int .i64 c] w fun e w'=>e=.returned (.agg #[.int .i64 c,.int .i64 (-1)])/\Below w.heap.size w w':=by
 go_enter func57,ntmps57
 go_wp2;refine bodyPost_ret (v:=.agg #[.int .i64 c,.int .i64 (-1)]) ?_ rfl ⟨rfl,?_⟩
 ·simp[results,f57,go_sem]
 ·exact(Below.refl _ w).alloc (Nat.le_refl _) _
theorem Zsh(w:World):Calls prog 93 #[] w fun e w'=>e=.returned (.agg #[.int .i64 0,.int .i64 (-1)])/\Below w.heap.size w w':=by
 go_enter func93,ntmps93
 go_wp2;refine bodyPost_ret (v:=.agg #[.int .i64 0,.int .i64 (-1)]) ?_ rfl ⟨rfl,?_⟩
 ·simp[results,f93,go_sem]
 ·exact(Below.refl _ w).alloc (Nat.le_refl _) _
theorem Zbk{W:World}{x0 x1:Value}{t:TypeId}(h:W.heap[b]? =some (.cells #[x0,x1] t (0,0)))(y0 y1:Value):
  ((W.setCell ⟨b,0,none⟩ y0).setCell ⟨b,1,none⟩ y1).cell? ⟨b,0,none⟩=some y0/\((W.setCell ⟨b,0,none⟩ y0).setCell ⟨b,1,none⟩ y1).cell? ⟨b,1,none⟩=some y1:=by
 have e0:W.cell? ⟨b,0,none⟩=some x0:=Zab h rfl;have e1:W.cell? ⟨b,1,none⟩=some x1:=Zab h rfl;have o (V:World) (i j:Nat) (h:i≠j) (y:Value):(V.setCell ⟨b,j,none⟩ y).cell? ⟨b,i,none⟩=V.cell? ⟨b,i,none⟩:=World.cell?_setCell_other _ _ _ _ (fun e=>h (by cases e;rfl))
 have t (V:World) (i:Nat) (x:Value) (h:V.cell? ⟨b,i,none⟩=some x) (y:Value):(V.setCell ⟨b,i,none⟩ y).cell? ⟨b,i,none⟩=some y:=World.cell?_setCell_same' _ _ _ (by rw[h];rfl)
 exact⟨by rw[o _ 0 1 (by decide)];exact t _ 0 x0 e0 _,t _ 1 x1 (by rw[o _ 1 0 (by decide)];exact e1) _⟩
theorem Zdi(v:Value)(l:List Ru)(hrow:RRow w v l)(hl:l.length<=1000)(hS:∀ x∈l,x.Small):
  Calls prog 60 #[v] w fun e w'=>e=.returned (.agg #[.int .i64 ((Ru.fault l).1:Nat),.int .i64 (Ru.fault l).2])/\Below w.heap.size w w':=by
 have HBare:=hid1 fun W c=>Zil W c
 have HFine:=hid1 Zsh;have hB0:Below w.heap.size w (w.alloc (.cells #[.int .i64 0,.int .i64 0] 76)):=(Below.refl _ w).alloc (Nat.le_refl _) _;have hr0:(w.alloc (.cells #[.int .i64 0,.int .i64 0] 76)).heap[w.heap.size]? =some (.cells #[.int .i64 0,.int .i64 0] 76 (0,0)):=by
  show(w.heap.push _)[w.heap.size]? =_
  simp
 have HB0:=hid1 hB0;have HR0:=hid1 hr0;clear hB0 hr0;obtain⟨p,cap,rfl,hcap,hnn,hin⟩:=hrow;have HI:=hid1 hin;have HS:=hid1 hS;clear hin hnn hS;by_cases h40:40<l.length
 ·rw[Ru.fault_many h40];have z1:(40:Int)<(l.length:Int):=by omega
  go_enter func60,ntmps60
  go_wp2_with fail;refine(HBare.out _ 2).mono ?_;rintro e w1 ⟨rfl,hb⟩;have g1:=Zac HB0.out hb;have r1:=Zav HR0.out hb;have k0:=Zab (j:=0) r1 rfl;have k1:=Zab (j:=1) r1 rfl;have f0:w1.frozen? ⟨w.heap.size,0,none⟩=false:=by simp[World.frozen?,r1]
  have f1:w1.frozen? ⟨w.heap.size,1,none⟩=false:=by simp[World.frozen?,r1]
  have q:=hid1 (Zbk r1 (.int .i64 2) (.int .i64 (-1)));clear hb r1;go_wp2;refine bodyPost_ret (v:=.agg #[.int .i64 2,.int .i64 (-1)]) ?_ rfl ⟨rfl,?_⟩
  ·obtain⟨q0,q1⟩:=q.out;simp[results,f60,go_sem,q0,q1]
  ·exact(g1.setCell (p:=⟨w.heap.size,0,none⟩) (Nat.le_refl _) _).setCell (p:=⟨w.heap.size,1,none⟩) (Nat.le_refl _) _
 ·have z1:(l.length:Int)<=(40:Int):=by omega
  have HF0:Hid ((∀ j,j<l.length->Ru.errAt l j=0)->Ru.fault l=(0,-1)):=hid1 fun h=>Ru.fault_none (by omega) h
  have HF1:Hid (∀ m,m<l.length->Ru.errAt l m≠0->(∀ j,j<m->Ru.errAt l j=0)->Ru.fault l=(Ru.errAt l m,(m:Int))):=hid1 fun m h1 h2 h3=>Ru.fault_some (by omega) h1 h2 h3
  generalize Ru.fault l=F at *;go_enter func60,ntmps60
  go_wp2;go_loopw [3] (fun i wr=>∃ k:Nat,k<=l.length/\i=.int .i64 k/\(∀ j,j<k->Ru.errAt l j=0)/\Below w.heap.size w wr/\wr.heap[w.heap.size]? =some (.cells #[.int .i64 0,.int .i64 0] 76 (0,0))) (fun i _=>l.length - (intOf i).toNat)
  case atStart=>exact⟨0,Nat.zero_le _,rfl,fun j h=>by omega,HB0.out,HR0.out⟩
  case round =>
   obtain⟨k,hk,rfl,hz,hB,hr⟩:=hrel;have HZ:=hid1 hz;have HR:=hid1 hr;clear hz hr HB0 HR0;have c0:(0:Int)<=(k:Int):=by omega
   by_cases hlt:k<l.length
   ·have c1:(k:Int)<(l.length:Int):=by omega
    obtain⟨g',o,rfl,hg,hcur⟩:=HI.out (by intro e;rw[e]at hlt;simp at hlt)
    obtain⟨u0,u1,u2,u,u3,ux⟩:=hcur k hlt;have d0:=Zaa u0 hB;have d1:=Zaa u1 hB;have d2:=Zaa u2 hB;have d3:=Zaa u3 hB;have HE:=hid1 (Zju l[k] (HS.out _ (List.getElem_mem hlt)) u (ux.below hB));have HQ:=hid1 (Ru.errAt_eq hlt);have HU:=hid1 ux
    have HGet:Hid (∀ m (hm:m<l.length) W,Below w.heap.size w W->W.cell? ⟨g',o+m*4,none⟩=some (.string (ba l[m].out))):=hid1 fun m hm W hW=>Zaa (hcur m hm).1 hW
    clear hcur HI HS ux u0 u1 u2 u3;generalize hy:l[k]=y at d0 d1 d2 d3 HE HQ HU;have HY:=hid1 hy;clear hy;have HX:Hid (∀ c m,m<=k->c=(if y.err≠0 then y.err else if y.out∈(l.take m).map Ru.out then 7 else 0)->(c≠0\/m=k)->Ru.errAt l k=c):=hid1 fun c m hm hc hor=>by
     rw[HQ.out];by_cases h0:y.err≠0
     ·rw[if_pos h0]at hc ⊢;exact hc.symm
     ·rw[if_neg h0]at hc ⊢;rcases hor with h | h
      ·by_cases hin:y.out∈(l.take m).map Ru.out
       ·rw[if_pos hin]at hc;have:y.out∈(l.take k).map Ru.out:=by
         obtain⟨x,hx,e⟩:=List.mem_map.1 hin;exact List.mem_map.2 ⟨x,(List.take_sublist_take_left hm).subset hx,e⟩
        rw[if_pos this,hc]
       ·rw[if_neg hin]at hc;exact absurd hc h
      ·rw[<- h];exact hc.symm
    have HStep:Hid (∀ m (hm:m<k),(if y.err≠0 then y.err else if y.out∈(l.take m).map Ru.out then 7 else 0)=0->(l[m].out=y.out->(if y.err≠0 then y.err else if y.out∈(l.take (m+1)).map Ru.out then 7 else 0)=7)/\(l[m].out≠y.out->(if y.err≠0 then y.err else if y.out∈(l.take (m+1)).map Ru.out then 7 else 0)=0)):=hid1 fun m hm h=>by
     have h0:¬ y.err≠0:=by
      intro h0
      rw[if_pos h0]at h;exact h0 h
     rw[if_neg h0]at h ⊢;have hni:y.out∉(l.take m).map Ru.out:=by
      intro hi
      rw[if_pos hi]at h;cases h
     rw[List.take_succ_eq_append_getElem (by omega),List.map_append]
     constructor
     ·intro e
      rw[if_pos (by simp[e])]
     ·intro e
      rw[if_neg];simp only[List.mem_append,List.map_cons,List.map_nil,List.mem_singleton,not_or];exact⟨hni,fun e2=>e e2.symm⟩
    obtain⟨p3,cap3,rfl,-⟩:=HU.out;go_wp2_with fail;refine HE.out.mono ?_;rintro e w1 ⟨rfl,hb⟩;have g1:=Zac hB hb;have HR1:=hid1 (Zav HR.out hb);clear hb HE d0 d1 d2 d3 HU HR;go_wp2
    go_loopw [4,5] (fun e kk wx=>∃(c m:Nat),m<=k/\e=.int .i64 c/\kk=.int .i64 m/\c=(if y.err≠0 then y.err else if y.out∈(l.take m).map Ru.out then 7 else 0)/\∃ q,wx=w1.drewN q) (fun _ kk _=>k - (intOf kk).toNat)
    case atStart=>exact⟨y.err,0,Nat.zero_le _,rfl,rfl,by simp,0,rfl⟩
    case round =>
     obtain⟨c,m,hm,rfl,rfl,hc,q,rfl⟩:=hrel;have m0:(0:Int)<=(m:Int):=by omega
     have HCm:=hid1 hc;by_cases hc0:c=0
     ·by_cases hmk:m<k
      ·have z2:(m:Int)<(k:Int):=by omega
       have hcm:=HGet.out m (by omega) w1 g1
       have hck:=HGet.out k hlt w1 g1;rw[HY.out]at hck;have HS2:=hid1 (HStep.out m hmk (hc.symm.trans hc0));clear hc HCm;subst hc0;generalize l[m]=x at *;by_cases he:x.out=y.out
       ·have b1:(x.out==y.out)=true:=by simpa using he
        have HS3:=hid1 (HS2.out.1 he);clear HS2 he;go_wp2;go_region
        all_goals
         go_wp2;exact⟨⟨7,m+1,by omega,rfl,by go_num,HS3.out.symm,q+1,rfl⟩,by simp[intOf];omega⟩
       ·have b1:(x.out==y.out)=false:=by simpa using he
        have HS3:=hid1 (HS2.out.2 he);clear HS2 he;go_wp2;go_region
        all_goals
         go_wp2;exact⟨⟨0,m+1,by omega,rfl,by go_num,HS3.out.symm,q+1,rfl⟩,by simp[intOf];omega⟩
      ·have z2:(k:Int)<=(m:Int):=by omega
       obtain rfl:m=k:=by omega
       have hE0:=HX.out c m (Nat.le_refl _) hc (.inr rfl);have HN:Hid (∀ j,j<m+1->Ru.errAt l j=0):=hid1 fun j hj=>by
        rcases Nat.lt_or_ge j m with h | h
        ·exact HZ.out j h
        ·obtain rfl:j=m:=by omega
         rw[hE0,hc0]
       clear hc HCm hE0;subst hc0;go_wp2;exact⟨⟨m+1,by omega,by go_num,HN.out,Zad g1 q,HR1.out⟩,by simp[intOf];omega⟩
     ·have z3:((c:Int)==0)=false:=by simp;omega
      have z4:(0:Int)<(c:Int):=by omega
      have hE0:=HX.out c m hm hc (.inl hc0);have HFt:=hid1 (HF1.out k hlt (by rw[hE0];exact hc0) HZ.out)
      rw[hE0]at HFt;have r1:(w1.drewN q).heap[w.heap.size]? =_:=HR1.out;have k0:=Zab (j:=0) r1 rfl;have k1:=Zab (j:=1) r1 rfl;have f0:(w1.drewN q).frozen? ⟨w.heap.size,0,none⟩=false:=by simp[World.frozen?,HR1.out]
      have f1:(w1.drewN q).frozen? ⟨w.heap.size,1,none⟩=false:=by simp[World.frozen?,HR1.out]
      have qq:=hid1 (Zbk r1 (.int .i64 c) (.int .i64 k));have g2:=Zad g1 q;clear hc HCm r1 hE0 HX HGet HStep HF0 HF1 HZ hc0 g1 HR1;generalize w1.drewN q=w5 at *;by_cases hmk:m<k
      ·have z2:(m:Int)<(k:Int):=by omega
       go_wp2;refine bodyPost_ret (v:=.agg #[.int .i64 c,.int .i64 k]) ?_ rfl ⟨by cases HFt.out;rfl,?_⟩
       ·obtain⟨q0,q1⟩:=qq.out;simp[results,f60,go_sem,q0,q1]
       ·exact(g2.setCell (p:=⟨w.heap.size,0,none⟩) (Nat.le_refl _) _).setCell (p:=⟨w.heap.size,1,none⟩) (Nat.le_refl _) _
      ·have z2:(k:Int)<=(m:Int):=by omega
       go_wp2;refine bodyPost_ret (v:=.agg #[.int .i64 c,.int .i64 k]) ?_ rfl ⟨by cases HFt.out;rfl,?_⟩
       ·obtain⟨q0,q1⟩:=qq.out;simp[results,f60,go_sem,q0,q1]
       ·exact(g2.setCell (p:=⟨w.heap.size,0,none⟩) (Nat.le_refl _) _).setCell (p:=⟨w.heap.size,1,none⟩) (Nat.le_refl _) _
   ·have c1:(l.length:Int)<=(k:Int):=by omega
    have HN:Hid (F=(0,-1)):=hid1 (HF0.out fun j hj=>HZ.out j (by omega))
    clear HI HZ HF0 HF1 HS;go_wp2_with fail;refine(HFine.out _).mono ?_;rintro e w1 ⟨rfl,hb⟩;have g1:=Zac hB hb;have r1:=Zav HR.out hb;have k0:=Zab (j:=0) r1 rfl;have k1:=Zab (j:=1) r1 rfl;have f0:w1.frozen? ⟨w.heap.size,0,none⟩=false:=by simp[World.frozen?,r1]
    have f1:w1.frozen? ⟨w.heap.size,1,none⟩=false:=by simp[World.frozen?,r1]
    have q:=hid1 (Zbk r1 (.int .i64 0) (.int .i64 (-1)));clear hb r1 HR;go_wp2;refine bodyPost_ret (v:=.agg #[.int .i64 0,.int .i64 (-1)]) ?_ rfl ⟨by cases HN.out;rfl,?_⟩
    ·obtain⟨q0,q1⟩:=q.out;simp[results,f60,go_sem,q0,q1]
    ·exact(g1.setCell (p:=⟨w.heap.size,0,none⟩) (Nat.le_refl _) _).setCell (p:=⟨w.heap.size,1,none⟩) (Nat.le_refl _) _
structure ShS(n:Nat)(dn:List (Ru×Value))(out:Value)(w:World):Prop where
 own:w.ownsRow n 73 4 out dn.length (Zap dn)
 ins:∀ x∈dn,XIn (fun b=>n<=b/\out.ownBlock≠some b) w x.2 x.1.ins
variable {n:Nat}{dn:List (Ru×Value)}{out:Value}
theorem ShS.below{V:World}(h:ShS n dn out w)(hb:Below w.heap.size w V):ShS n dn out V :=
 ⟨h.own.kept (row:=none) ⟨hb.os,hb.tape,hb.output,hb.size,fun k hk _=>hb.block k hk⟩ (by cases out.ownBlock <;> simp),fun x hx=>(h.ins x hx).same hb.size fun j _ hj=>hb.block j hj⟩
theorem ShS.next(h:ShS n dn out w){x:Ru×Value}(hx:XIn (fun b=>n<=b/\out.ownBlock≠some b) w x.2 x.1.ins){g cap:Nat}(hown:w'.ownsRow n 73 4 (.slice (some ⟨g,0,none⟩) (dn.length+1) cap) (dn.length+1) (Zap dn++[.string (ba x.1.out),.string (ba x.1.kind),.string (ba x.1.word),x.2]))(hgrow:w.grownBy w' out.ownBlock)(hlies:out.ownBlock=some g\/g=w.heap.size):ShS n (dn++[x]) (.slice (some ⟨g,0,none⟩) (dn.length+1) cap) w':=by
 refine⟨?_,fun y hy=> ?_⟩
 ·rw[Zov,List.length_append];exact hown
 ·have key:∀ y:Ru×Value,XIn (fun b=>n<=b/\out.ownBlock≠some b) w y.2 y.1.ins->XIn (fun b=>n<=b/\(Value.slice (some ⟨g,0,none⟩) (dn.length+1) cap).ownBlock≠some b) w' y.2 y.1.ins:=fun y h=>by
   have h1:=h.same (V:=w') hgrow.size fun j hj hl=>hgrow.block j hl (fun e=>hj.2 e.symm)
   refine⟨h1.1,fun a m c e hl=> ?_⟩
   have h2:=h.2 a m c e hl;refine⟨h2.1,fun e2=> ?_⟩
   obtain⟨p3,c3,e3,-,-,h3⟩:=h.1;obtain⟨g3,o3,e4,hg3,-⟩:=h3 hl;rw[e3,e4]at e;cases e
   have e5:g=g3:=Option.some.inj e2;rcases hlies with h4 | h4
   ·exact h2.2 (by rw[h4,e5])
   ·have:g3<w.heap.size:=hg3
    omega
  rcases List.mem_append.1 hy with h' | h'
  ·exact key y (h.ins y h')
  ·obtain rfl:=List.mem_singleton.1 h';exact key _ hx
theorem ShS.new(h:ShS n dn out w):RNew n w out (dn.map Prod.fst):=fun V hz hV=>by
 have hlt:∀ k,out.ownBlock=some k->n<=k/\k<w.heap.size:=fun k hk=>by
  refine⟨Zbw h.own k hk,?_⟩;rcases h.own.2 with ⟨e,_⟩ | ⟨g,c,cu,e,_,hb,_⟩
  ·rw[e]at hk;cases hk
  ·rw[e]at hk;cases hk;exact(Array.getElem?_eq_some_iff.1 hb).1
 have h1:V.ownsRow n 73 4 out dn.length (Zap dn):=by
  refine⟨h.own.1,?_⟩;rcases h.own.2 with h2 | ⟨g,c,cu,e,hbg,hb,h3⟩
  ·exact .inl h2
  ·have:=hlt g (by rw[e];rfl)
   exact .inr ⟨g,c,cu,e,hbg,(hV g this.1 this.2).trans hb,h3⟩
 exact RRow.of_owns h1 rfl fun x hx=>((h.ins x hx).same hz fun j hj hl=>hV j hj.1 hl).1
def LineOf(s:List UInt8)(r:Ru):Prop:=∃ a b d wd,RuLine s a b d wd/\r=⟨s.take a,mid s (a+3) b,wd,cutB 32 (s.drop (d+1))⟩
theorem Zuc{s:List UInt8}(h:LineOf s r)(w:World):
  Calls prog 59 #[.string (ba s)] w fun e w'=>∃ iv,e=.returned (.tuple #[.agg #[.string (ba r.out),.string (ba r.kind),.string (ba r.word),iv],.bool true])/\Below w.heap.size w w'/\XIn (fun j=>w.heap.size<=j) w' iv r.ins:=by
 obtain⟨a,b,d,wd,h,rfl⟩:=h;exact Zrm h w
theorem Zoc(s:List UInt8)(ls:List (List UInt8))(l:List Ru)(hs:s.length<=10000)(hcut:cutB 10 s=ls++[[]])(hlen:ls.length=l.length)(hl:l.length<=40)(hln:∀ i (h:i<ls.length) (h':i<l.length),LineOf ls[i] l[i])(hf:Ru.fault l=(0,-1))(hS:∀ x∈l,x.Small)(w:World):
  Calls prog 35 #[.string (ba s)] w fun e w'=>∃ v,e=.returned (.tuple #[v,.agg #[.int .i64 0,.int .i64 (-1)]])/\Below w.heap.size w w'/\RNew w.heap.size w' v l:=by
 obtain⟨i0,hi,hz0,hz1,hz2⟩:=info_parts Tryz.infoRule;have HLn:=hid1 hln;have HS:=hid1 hS;have HF:=hid1 hf;have HCt:=hid1 hcut;obtain⟨w1,h1⟩:∃ w1,w1=w.alloc (.cells #[.int .i64 0,.int .i64 0] 76):=⟨_,rfl⟩
 have g1:Below w.heap.size w w1:=by rw[h1];exact(Below.refl _ w).alloc (Nat.le_refl _) _
 have r1:w1.heap[w.heap.size]? =some (.cells #[.int .i64 0,.int .i64 0] 76):=by rw[h1];exact Zbv _ _
 have HR1:=hid1 r1;have hsz1:w1.heap.size=w.heap.size+1:=by rw[h1];simp
 have HCu:=hid1 (Zbd s (by omega) 10 10 rfl w1)
 obtain⟨bs,eb,T⟩:=txt s;have hsz:bs.size=s.length:=T.size;rw[eb]at HCu ⊢;clear hln hS hf hcut eb T r1;go_enter func35,ntmps35
 go_wp2_with fail;rw[<- h1];clear h1;refine HCu.out.mono ?_;rintro e w2 ⟨v,rfl,hrow,g2⟩;have HX2:=hid1 (XRow.of_owns hrow);obtain⟨pv,cv,ev⟩:=Zgm hrow;have hll:(cutB 10 s).length=ls.length+1:=by rw[HCt.out];simp
 rw[hll]at ev;subst ev;have G2:Below (w.heap.size+1) w1 w2:=g2.mono (by omega)
 clear HCu hrow;have n1:ShS w2.heap.size [] (.slice none 0 0) w2:=⟨World.ownsRow_nil _ _ _ _,fun x hx=>by simp at hx⟩
 have N1:=hid1 n1;clear n1;go_wp2;go_loopw [5,6] (fun out iv wr=>∃ dn:List (Ru×Value),dn.length<=l.length/\dn.map Prod.fst=l.take dn.length/\iv=.int .i64 dn.length/\ShS w2.heap.size dn out wr/\Below w2.heap.size w2 wr) (fun _ iv _=>l.length+1 - (intOf iv).toNat)
 case atStart=>exact⟨[],by simp,by simp,rfl,N1.out,Below.refl _ _⟩
 case round =>
  clear N1;obtain⟨dn,hk,hdn,rfl,hsh,hB⟩:=hrel;have HD:=hid1 hdn;have HSh:=hid1 hsh;clear hdn;have c0:(0:Int)<=(dn.length:Int):=by omega
  obtain⟨p3,cap3,e3,h30,h3n,h31⟩:=HX2.out;rw[hll]at e3;obtain⟨rfl,rfl⟩:pv=p3/\cv=cap3:=by simpa using e3
  clear e3;obtain⟨gl,ol,rfl,hgl,hcl⟩:=h31 (by rw[HCt.out];simp)
  have hdl:dn.length<(cutB 10 s).length:=by rw[hll];omega
  have cl:=Zaa (hcl dn.length hdl) hB;by_cases hlt:dn.length<l.length
  ·have c1:(dn.length:Int)<(ls.length:Int)+1:=by omega
   have hline:(cutB 10 s)[dn.length]=ls[dn.length]'(by omega):=by
    have:(cutB 10 s)[dn.length]? =(ls++[[]])[dn.length]? :=by rw[HCt.out]
    rw[List.getElem?_append_left (by omega),List.getElem?_eq_getElem hdl,List.getElem?_eq_getElem (by omega)]at this
    exact Option.some.inj this
   have HRo:=hid1 fun V=>Zuc (HLn.out dn.length (by omega) hlt) V
   rw[hline]at cl;have HDN:Hid (∀ y:Value,(dn++[(l[dn.length],y)]).map Prod.fst=l.take (dn.length+1)):=hid1 fun y=>by
    rw[List.map_append,HD.out,List.take_succ_eq_append_getElem hlt];rfl
   clear hcl HD hline hdl;generalize ls[dn.length]'(by omega)=lx at *
   generalize l[dn.length]=y at *;have hml:dn.length+1<=maxLen:=by unfold maxLen;omega
   clear hsh;go_wp2_with fail;refine(HRo.out _).mono ?_;rintro e w3 ⟨iv,rfl,g3,hx3⟩;obtain⟨p4,cap4,e4,-⟩:=hx3.1;subst e4;have hsh3:=HSh.out.below g3;have hol:∀ k,u5.ownBlock=some k->k<wr.heap.size:=fun k hk=>by
    rcases HSh.out.own.2 with ⟨e,_⟩ | ⟨g,c,cu,e,_,hb,_⟩
    ·rw[e]at hk;cases hk
    ·rw[e]at hk;cases hk;exact(Array.getElem?_eq_some_iff.1 hb).1
   have hwr:w2.heap.size<=wr.heap.size:=hB.size;have hxo:XIn (fun b=>w2.heap.size<=b/\u5.ownBlock≠some b) w3 (.slice p4 y.ins.length cap4) y.ins:=hx3.imp fun b hb=>⟨by omega,fun e=>by have:=hol b e;omega⟩
   have HXo:=hid1 hxo;have HS3:=hid1 hsh3;have hB3:Below w2.heap.size w2 w3:=hB.trans (g3.mono hB.size);have hw3:w2.heap.size<=w3.heap.size:=hB3.size;clear HSh HRo hx3 hxo hsh3 hol cl HLn HS HF HX2 HCt
   have gA:Below w3.heap.size w3 (w3.alloc (.cells #[.string (ba y.out),.string (ba y.kind),.string (ba y.word),.slice p4 y.ins.length cap4] 73)):=(Below.refl _ w3).alloc (Nat.le_refl _) _;have rA:=Zbv w3 (.cells #[.string (ba y.out),.string (ba y.kind),.string (ba y.word),.slice p4 y.ins.length cap4] 73)
   have hzA:(w3.alloc (.cells #[.string (ba y.out),.string (ba y.kind),.string (ba y.word),.slice p4 y.ins.length cap4] 73)).heap.size=w3.heap.size+1:=by simp
   have q0:=Zab (j:=0) rA rfl;have q1:=Zab (j:=1) rA rfl;have q2:=Zab (j:=2) rA rfl;have q3:=Zab (j:=3) rA rfl;have hownA:=(HS3.out.below gA).own;generalize hwA:w3.alloc (.cells #[.string (ba y.out),.string (ba y.kind),.string (ba y.word),.slice p4 y.ins.length cap4] 73)=wA at *;have HzA:=hid1 hzA
   have hwA1:w2.heap.size<=wA.heap.size:=by omega
   clear rA hzA
   go_wp2_with (at_builtin;refine wpList_append_lies _ rfl _ _ 36 rfl w2.heap.size 73 i0 (.agg #[.string ⟨#[]⟩,.string ⟨#[]⟩,.string ⟨#[]⟩,.slice none 0 0]) 4 72 underlying36 hi hz0 hz1 hz2 rfl (by decide) u5 dn.length (Zap dn) rfl (hownA.alloc _) ⟨wA.heap.size,0,none⟩ 1 1 [.string (ba y.out),.string (ba y.kind),.string (ba y.word),.slice p4 y.ins.length cap4] rfl rfl (Ycq _ _ _ _ _ _ _ rfl) (by simp[Value.oneCell']) (by decide) hml (by omega) (by simp;omega) _ rfl ?_;intro g5 cap5 w5 hown5 hgrow5 hlies5 hlt5)
   go_wp2;have gB:Below w3.heap.size w3 (wA.alloc (.cells #[.string (ba y.out),.string (ba y.kind),.string (ba y.word),.slice p4 y.ins.length cap4] 73)):=gA.alloc (by have:=HzA.out;omega) _
   have hshB:=(HS3.out.below gB).next (x:=(y,.slice p4 y.ins.length cap4)) (HXo.out.same gB.size fun j _ hj=>gB.block j hj) hown5 hgrow5 hlies5
   refine⟨⟨dn++[(y,.slice p4 y.ins.length cap4)],by simp;omega,?_,by simp,by simpa using hshB,?_⟩,by simp[intOf];omega⟩
   ·have:=HDN.out (.slice p4 y.ins.length cap4);simpa using this
   ·have h6:Below w2.heap.size w2 (wA.alloc (.cells #[.string (ba y.out),.string (ba y.kind),.string (ba y.word),.slice p4 y.ins.length cap4] 73)):=hB3.trans (gB.mono hB3.size);exact h6.grown hgrow5 h6.size (Zbw HS3.out.own)
  ·have hk':dn.length=l.length:=by omega
   have c1:(dn.length:Int)<(ls.length:Int)+1:=by omega
   have hline:(cutB 10 s)[dn.length]=[]:=by
    have:(cutB 10 s)[dn.length]? =(ls++[[]])[dn.length]? :=by rw[HCt.out]
    rw[List.getElem?_append_right (by omega),List.getElem?_eq_getElem hdl,show dn.length - ls.length=0 by omega]at this
    simpa using this
   have cl':wr.cell? ⟨gl,ol+l.length,none⟩=some (.string ⟨#[]⟩):=by
    rw[hline,hk']at cl;exact cl
   clear cl;have hm:dn.map Prod.fst=l:=by rw[HD.out,List.take_of_length_le (by omega)]
   have hN:RNew w2.heap.size wr u5 l:=by rw[<- hm];exact hsh.new
   have HN:=hid1 hN;have hrr:RRow wr u5 l:=hN wr (Nat.le_refl _) fun _ _ _=>rfl
   have HSf:=hid1 (Zdi u5 l hrr (by omega) HS.out)
   rw[HF.out]at HSf;have e5:∃ p c,u5=.slice p l.length c:=by obtain⟨p,c,e,-⟩:=hrr;exact⟨p,c,e⟩
   obtain⟨p5,c5,rfl⟩:=e5;have rr:wr.heap[w.heap.size]? =some (.cells #[.int .i64 0,.int .i64 0] 76):=Zbi (Zbi HR1.out g2) hB;have HRR:=hid1 rr;have hwl:w.heap.size<wr.heap.size:=(Array.getElem?_eq_some_iff.1 rr).1;have GR:Below w.heap.size w wr:=g1.trans ((G2.mono (by omega)).trans (hB.mono (by have:=G2.size;omega)))
   clear HSh hsh hcl HD hline hdl hm hN hrr HX2 HCt HLn HS HF rr;go_wp2_with fail;refine HSf.out.mono ?_;rintro e w3 ⟨rfl,g3⟩;have r3:=Zbi HRR.out g3;have gA:Below w3.heap.size w3 (w3.alloc (.cells #[.int .i64 0,.int .i64 (-1)] 76)):=(Below.refl _ w3).alloc (Nat.le_refl _) _;have rA:=Zbv w3 (.cells #[.int .i64 0,.int .i64 (-1)] 76);have rB:=Zbi r3 gA
   have b0:=Zab (j:=0) rA rfl;have b1:=Zab (j:=1) rA rfl;have y0:=Zab (j:=0) rB rfl;have y1:=Zab (j:=1) rB rfl;have hw3:w.heap.size<w3.heap.size:=(Array.getElem?_eq_some_iff.1 r3).1;have G3:Below w.heap.size w (w3.alloc (.cells #[.int .i64 0,.int .i64 (-1)] 76)):=GR.trans (((g3.mono (by omega)).trans (gA.mono (by have:=g3.size;omega))))
   have HN3:Hid (RNew w2.heap.size (w3.alloc (.cells #[.int .i64 0,.int .i64 (-1)] 76)) (.slice p5 l.length c5) l):=hid1 fun V hz hV=>HN.out V (by have:=g3.size;have:=gA.size;omega) fun j hj hl=>(hV j hj (by have:=g3.size;have:=gA.size;omega)).trans ((gA.block j (by have:=g3.size;omega)).trans (g3.block j hl))
   clear HSf HN r3;generalize hwA:w3.alloc (.cells #[.int .i64 0,.int .i64 (-1)] 76)=wA at *;have f0:wA.frozen? ⟨w.heap.size,0,none⟩=false:=frozen_of_row wA _ 0 _ _ rB;have f1:wA.frozen? ⟨w.heap.size,1,none⟩=false:=frozen_of_row wA _ 1 _ _ rB;have HRB:=hid1 rB;clear rB rA;go_wp2;go_region;go_wp2
   refine bodyPost_ret (v:=.tuple #[.slice p5 l.length c5,.agg #[.int .i64 0,.int .i64 (-1)]]) ?_ rfl ⟨_,rfl,?_,?_⟩
   ·obtain⟨k0,k1⟩:=Zbk HRB.out (.int .i64 0) (.int .i64 (-1));simp[results,f35,go_sem,k0,k1]
   ·exact((G3.setCell (p:=⟨w.heap.size,0,none⟩) (Nat.le_refl _) _).setCell (p:=⟨w.heap.size,1,none⟩) (Nat.le_refl _) _).drew
   ·intro V hz hV
    have hsz2:w.heap.size<w2.heap.size:=by have:=G2.size;omega
    have ez:((wA.setCell ⟨w.heap.size,0,none⟩ (.int .i64 0)).setCell ⟨w.heap.size,1,none⟩ (.int .i64 (-1))).drew.heap.size=wA.heap.size:=by
     show((wA.setCell ⟨w.heap.size,0,none⟩ (.int .i64 0)).setCell ⟨w.heap.size,1,none⟩ (.int .i64 (-1))).heap.size=_
     simp
    have eb:∀ j,w2.heap.size<=j->((wA.setCell ⟨w.heap.size,0,none⟩ (.int .i64 0)).setCell ⟨w.heap.size,1,none⟩ (.int .i64 (-1))).drew.heap[j]? =wA.heap[j]? :=fun j hj=>by
     show((wA.setCell ⟨w.heap.size,0,none⟩ (.int .i64 0)).setCell ⟨w.heap.size,1,none⟩ (.int .i64 (-1))).heap[j]? =_
     exact(Below.heap_setCell _ ⟨w.heap.size,1,none⟩ _ j (by show j≠w.heap.size;omega)).trans (Below.heap_setCell _ ⟨w.heap.size,0,none⟩ _ j (by show j≠w.heap.size;omega))
    exact HN3.out V (by rw[<- ez];exact hz) fun j hj hl=>(hV j (by omega) (by rw[ez];exact hl)).trans (eb j hj)
namespace Ru
def needs(l:List Ru)(i k:Nat):Bool :=
 match l[i]?,l[k]? with
 | some a,some b=>decide (b.out∈a.ins)
 | _,_=>false
variable {l:List Ru}{i k:Nat}
theorem needs_eq(hi:i<l.length)(hk:k<l.length):needs l i k=decide (l[k].out∈l[i].ins):=by
 unfold needs;rw[List.getElem?_eq_getElem hi,List.getElem?_eq_getElem hk]
theorem needs_lt(h:needs l i k=true):i<l.length/\k<l.length:=by
 unfold needs at h;split at h
 ·rename_i a b ha hb
  exact⟨(List.getElem?_eq_some_iff.1 ha).1,(List.getElem?_eq_some_iff.1 hb).1⟩
 ·cases h
def freeTo(l:List Ru)(done:Nat->Bool)(i m:Nat):Bool:=(List.range m).all fun k=>done k|| !needs l i k
theorem freeTo_zero(l:List Ru)(done:Nat->Bool)(i:Nat):freeTo l done i 0=true:=rfl
theorem freeTo_succ(l:List Ru)(done:Nat->Bool)(i m:Nat):freeTo l done i (m+1)=(freeTo l done i m&&(done m|| !needs l i m)):=by
 unfold freeTo;rw[List.range_succ,List.all_append];simp
def may(l:List Ru)(some done:Nat->Bool)(i:Nat):Bool:=some i&& !done i&&freeTo l done i l.length
def nextTo(l:List Ru)(some done:Nat->Bool)(m:Nat):Option Nat:=(List.range m).find? (may l some done)
theorem nextTo_succ(l:List Ru)(some done:Nat->Bool)(m:Nat):nextTo l some done (m+1)=(nextTo l some done m).or (if may l some done m=true then Option.some m else none):=by
 unfold nextTo;rw[List.range_succ,List.find?_append];congr 1
 simp[List.find?_cons];split <;> simp_all
def leftTo(some done:Nat->Bool)(m:Nat):Bool:=(List.range m).any fun i=>some i&& !done i
theorem leftTo_succ(some done:Nat->Bool)(m:Nat):leftTo some done (m+1)=(leftTo some done m||(some m&& !done m)):=by
 unfold leftTo;rw[List.range_succ,List.any_append];simp
def isIn(o:List Nat)(i:Nat):Bool:=decide (i∈o)
def orderF(l:List Ru)(some:Nat->Bool):Nat->List Nat->Option (List Nat)
 | 0,_=>none
 | f+1,o =>
  if leftTo some (isIn o) l.length=true then
   match nextTo l some (isIn o) l.length with
   | none=>none
   | Option.some i=>orderF l some f (o++[i])
  else Option.some o
def order(l:List Ru)(some:Nat->Bool):Option (List Nat):=orderF l some (l.length+1) []
theorem nextTo_some{some done:Nat->Bool}{m:Nat}(h:nextTo l some done m=Option.some i):i<m/\may l some done i=true:=by
 unfold nextTo at h;exact⟨List.mem_range.1 (List.mem_of_find?_eq_some h),List.find?_some h⟩
def base(l:List Ru)(outs:List (List UInt8))(k:Nat):Bool :=
 match l[k]? with
 | some r=>decide (r.out∈outs)
 | none=>false
variable {outs:List (List UInt8)}
theorem base_eq(h:k<l.length):base l outs k=decide (l[k].out∈outs):=by
 unfold base;rw[List.getElem?_eq_getElem h]
structure Needed(l:List Ru)(outs:List (List UInt8))(f:Nat->Bool):Prop where
 start:∀ k,base l outs k=true->f k=true
 closed:∀ i k,f i=true->needs l i k=true->f k=true
 least:∀ P:Nat->Prop,(∀ k,base l outs k=true->P k)->(∀ i k,P i->needs l i k=true->P k)->∀ k,k<l.length->f k=true->P k
variable {f:Nat->Bool}
theorem Needed.unique{g:Nat->Bool}(hf:Needed l outs f)(hg:Needed l outs g)(k:Nat)(hk:k<l.length):f k=g k:=by
 rw[Bool.eq_iff_iff];exact⟨hf.least (fun k=>g k=true) hg.start hg.closed k hk,hg.least (fun k=>f k=true) hf.start hf.closed k hk⟩
def cnt(f:Nat->Bool):Nat->Nat
 | 0=>0
 | n+1=>cnt f n+(if f n=true then 1 else 0)
theorem cnt_le(f:Nat->Bool):∀ n,cnt f n<=n
 | 0=>Nat.le_refl _
 | n+1=>by
  have:=cnt_le f n;unfold cnt;split <;> omega
theorem Zux{f g:Nat->Bool}:∀ {n:Nat},(∀ k,k<n->f k=true->g k=true)->cnt f n<=cnt g n
 | 0,_=>Nat.le_refl _
 | n+1,h=>by
  have ih:=Zux (n:=n) fun k hk=>h k (by omega)
  unfold cnt;by_cases hf:f n=true
  ·rw[if_pos hf,if_pos (h n (by omega) hf)];omega
  ·rw[if_neg hf];split <;> omega
theorem cnt_lt{f g:Nat->Bool}{m:Nat}:∀ {n:Nat},(∀ k,k<n->f k=true->g k=true)->m<n->g m=true->f m=false->cnt f n+1<=cnt g n
 | 0,_,hm,_,_=>by omega
 | n+1,h,hm,hg,hf=>by
  unfold cnt;by_cases e:m=n
  ·subst e;have:=Zux (n:=m) fun k hk=>h k (by omega)
   rw[if_pos hg,if_neg (by rw[hf];simp)]
   omega
  ·have ih:=cnt_lt (n:=n) (fun k hk=>h k (by omega)) (by omega) hg hf
   by_cases hf':f n=true
   ·rw[if_pos hf',if_pos (h n (by omega) hf')];omega
   ·rw[if_neg hf'];split <;> omega
theorem Zuy{f:Nat->Bool}:∀ {n:Nat},n<=cnt f n->∀ k,k<n->f k=true
 | 0,_,k,hk=>by omega
 | n+1,h,k,hk=>by
  have h1:=cnt_le f n;unfold cnt at h;split at h
  ·rename_i hf
   by_cases e:k=n
   ·rw[e];exact hf
   ·exact Zuy (n:=n) (by omega) k (by omega)
  ·omega
structure Pass(l:List Ru)(outs:List (List UInt8))(t:Nat)(f:Nat->Bool):Prop where
 start:∀ k,k<l.length->base l outs k=true->f k=true
 sound:∀ P:Nat->Prop,(∀ k,base l outs k=true->P k)->(∀ i k,P i->needs l i k=true->P k)->∀ k,k<l.length->f k=true->P k
 more:(∀ i k,i<l.length->f i=true->needs l i k=true->f k=true)\/t<=cnt f l.length
theorem Ztt(h:base l outs k=true):k<l.length:=by
 unfold base at h;split at h
 ·rename_i r hr
  exact(List.getElem?_eq_some_iff.1 hr).1
 ·cases h
theorem Pass.first(l:List Ru)(outs:List (List UInt8)):Pass l outs 0 (base l outs) :=
 ⟨fun _ _ h=>h,fun _ h _ k _ hk=>h k hk,.inr (Nat.zero_le _)⟩
theorem Pass.next{t:Nat}{S:Nat->Bool}(h:Pass l outs t S)(hS:∀ k,k<l.length->S k=true->f k=true) 
  (hsound:∀ P:Nat->Prop,(∀ k,base l outs k=true->P k)->(∀ i k,P i->needs l i k=true->P k)->∀ k,k<l.length->f k=true->P k)
  (hstep:∀ i k,i<l.length->S i=true->needs l i k=true->f k=true):Pass l outs (t+1) f:=by
 refine⟨fun k hk hb=>hS k hk (h.start k hk hb),hsound,?_⟩
 by_cases hc:∀ i k,i<l.length->S i=true->needs l i k=true->S k=true
 ·left
  have hfS:∀ k,k<l.length->f k=true->S k=true:=fun k hk hf =>
   hsound (fun k=>S k=true) (fun k hb=>h.start k (Ztt hb) hb) (fun i k hi hn=>hc i k (needs_lt hn).1 hi hn) k hk hf
  exact fun i k hi hf hn=>hS k (needs_lt hn).2 (hc i k hi (hfS i hi hf) hn)
 ·right
  have ht:=h.more.resolve_left hc;simp only[Classical.not_forall]at hc;obtain⟨i,k,hi,hSi,hn,hSk⟩:=hc;have:=cnt_lt hS (needs_lt hn).2 (hstep i k hi hSi hn) (by simpa using hSk)
  omega
theorem Pass.done(h:Pass l outs l.length f):Needed l outs (fun k=>decide (k<l.length)&&f k):=by
 have hc:∀ i k,i<l.length->f i=true->needs l i k=true->f k=true:=by
  rcases h.more with h1 | h1
  ·exact h1
  ·exact fun i k _ _ hn=>Zuy h1 k (needs_lt hn).2
 refine⟨fun k hb=> ?_,fun i k hf hn=> ?_,fun P h1 h2 k hk hf=> ?_⟩
 ·have:=Ztt hb;simp[this,h.start k this hb]
 ·simp only[Bool.and_eq_true,decide_eq_true_eq]at hf ⊢;exact⟨(needs_lt hn).2,hc i k hf.1 hf.2 hn⟩
 ·simp only[Bool.and_eq_true,decide_eq_true_eq]at hf;exact h.sound P h1 h2 k hk hf.2
end Ru
